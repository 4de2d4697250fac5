/-
  Walk of the document's own way to cut a text into parts.
-/
import Derived.Test.YtlmibninfpebiacDoorRefL

namespace Go.Proofs.YtlmibninfpebiacDoor
open Go.RowKit

theorem joinC_more (c : UInt8) (l : List (List UInt8)) (x : List UInt8) : joinC c (l ++ [x]) = joinC c l ++ (x ++ [c]) := by
  rw [joinC_append]; simp [joinC]

theorem extract_list (s : ByteArray) (a b : Nat) : (s.extract a b).data.toList = (s.data.toList.take b).drop a := by
  rw [Lib.extract_data, List.drop_take]

theorem take_drop_snoc (l : List UInt8) (f k : Nat) (hf : f ≤ k) (hk : k < l.length) : (l.take (k + 1)).drop f = (l.take k).drop f ++ [l[k]] := by
  rw [List.take_succ_eq_append_getElem hk, List.drop_append_of_le_length (by rw [List.length_take]; omega)]

theorem strs_own {w : World} {B g cap n : Nat} {ps : List ByteArray} {cur : Array Value} (hh : w.heap[g]? = some (.cells cur 9 (0, 0))) (ht : cur.toList.take (n * 1) = ps.map Value.string) (hn : ps.length = n) (_ : B ≤ g) (_ : n ≤ cap) : Strs w (some ⟨g, 0, none⟩) ps := by
  intro i hi
  refine ⟨g, 0, rfl, ?_⟩
  rw [Nat.zero_add, Lib.cell_of_heap hh]
  rw [Nat.mul_one] at ht
  have h1 : (cur.toList.take n)[i]? = (ps.map Value.string)[i]? := by rw [ht]
  rw [List.getElem?_take, if_pos (by omega), List.getElem?_map] at h1
  rw [← Array.getElem?_toList, h1]
  have e : ps.getD i ByteArray.empty = ps[i] := by simp [hi]
  rw [e]
  simp [hi]

end Go.Proofs.YtlmibninfpebiacDoor
