/-
  Walks of the document's own way to cut a text into lines: Parts and SplitOf.
-/
import Derived.Test.YtlmibninfpebiacDoorRef
import Derived.Test.YtlmibninfpebiacDoorRpt
import Derived.Test.YtlmibninfpebiacDoorSplit2

namespace Go.Proofs.YtlmibninfpebiacDoor
open Go.RowKit

theorem Strs.take {w : World} {a : Option Addr} {ps : List ByteArray} (h : Strs w a ps) (k : Nat) : Strs w a (ps.take k) := by
  intro i hi
  rw [List.length_take] at hi
  obtain ⟨b, off, rfl, hc⟩ := h i (by omega)
  refine ⟨b, off, rfl, ?_⟩
  have h1 : i < k := by omega
  have e : (ps.take k).getD i ByteArray.empty = ps.getD i ByteArray.empty := by simp [h1]
  rw [e]; exact hc

theorem parts_bytes (c : UInt8) (s x : List UInt8) (h : x ∈ (parts c s).1) : x.length ≤ s.length := by
  have hj := congrArg List.length (parts_join c s)
  rw [List.length_append] at hj
  have : ∀ (i : List (List UInt8)), x ∈ i → x.length ≤ (joinC c i).length := by
    intro i
    induction i with
    | nil => intro h; simp at h
    | cons y t ih =>
      intro h
      rcases List.mem_cons.1 h with rfl | h
      · simp [joinC]
      · have := ih h; simp [joinC]; omega
  have := this _ h
  omega

/-- What Parts hands on, taken apart. -/
theorem parts_pieces {ps : List ByteArray} {s : ByteArray} (h : bts ps = (parts 10 s.data.toList).1 ++ [(parts 10 s.data.toList).2]) :
    ∃ n x, ps.length = n + 1 ∧ ps.getD n ByteArray.empty = x ∧ x.data.toList = (parts 10 s.data.toList).2 ∧ bts (ps.take n) = (parts 10 s.data.toList).1 ∧ (ps.take n).length = n ∧ n ≤ s.size := by
  have hl := congrArg List.length h
  rw [bts_length, List.length_append, List.length_singleton] at hl
  have hn : (parts 10 s.data.toList).1.length < ps.length := by omega
  refine ⟨(parts 10 s.data.toList).1.length, _, hl, rfl, ?_, ?_, ?_, ?_⟩
  · have e : ps.getD (parts 10 s.data.toList).1.length ByteArray.empty = ps[(parts 10 s.data.toList).1.length] := by simp [hn]
    rw [e]
    have h1 : (bts ps)[(parts 10 s.data.toList).1.length]? = some (parts 10 s.data.toList).2 := by rw [h]; simp
    unfold bts at h1
    rw [List.getElem?_map, List.getElem?_eq_getElem hn] at h1
    simpa using h1
  · rw [take_data, h, List.take_left']; rfl
  · rw [List.length_take]; omega
  · rw [Lib.size_eq]; exact parts_len 10 _

end Go.Proofs.YtlmibninfpebiacDoor
