/-
  Arguments as the walks want them: lists of lines, lists of marks.
-/
import Derived.Test.YtnkdmgekpajfhaeDoorMks
import Derived.ProofKit
import Derived.SliceStrings
import Derived.Deep.SlicePairs

namespace Go.Proofs.YtnkdmgekpajfhaeDoor
open Go.ChangeShapes Go.WideShapes Go.ChangeAt Go.RowKit

theorem add_plain (b off i : Nat) : (⟨b, off, none⟩ : Addr).add i = ⟨b, off + i, none⟩ := by
  by_cases h : i = 0
  · subst h; rfl
  · simp [Addr.add, h]

/-- Lines that came in. -/
theorem strs_of {H : Type} {enc : TypeId × Value → H} {W : World} {a : Option Addr} {len cap : Nat} {d : DataW H} {p : List MemPlace} (h : DataW.Trod enc Tryd.prog W 0 (fun _ => true) true 52 (.slice a len cap) d p) :
    ∃ ss : List ByteArray, ss.length = len ∧ len ≤ maxLen ∧ Strs W a ss ∧ (∀ s ∈ ss, s.size ≤ maxLen) := by
  obtain ⟨fuel, hf⟩ := h
  rcases open_strings Tryd.underlying52 Tryd.underlying9 (by kernel_rfl) hf with ⟨hcs, _⟩ | ⟨x, l, c, zs, hcs, _, hl, hm, hz, _, hcell, hwz⟩
  · simp [Value.cells] at hcs
    obtain ⟨rfl, rfl, rfl⟩ := hcs
    exact ⟨[], rfl, Nat.zero_le _, fun i hi => absurd hi (by simp), by simp⟩
  · simp [Value.cells] at hcs
    obtain ⟨rfl, rfl, rfl⟩ := hcs
    have hzl : zs.length = cap := by simpa using hz
    refine ⟨zs.take len, by rw [List.length_take]; omega, by omega, ?_, fun s hs => hwz s (List.mem_of_mem_take hs)⟩
    intro i hi
    rw [List.length_take] at hi
    have hc := hcell i (by omega)
    obtain ⟨b, off, spot⟩ := x
    have hspot : spot = none := by simpa [Addr.add] using World.cell?_spot (hcell 0 (by omega))
    subst hspot
    refine ⟨b, off, rfl, ?_⟩
    have h1 : i < len := by omega
    have h2 : i < zs.length := by omega
    have e : (zs.take len).getD i ByteArray.empty = zs.getD i ByteArray.empty := by simp [h1, h2]
    rw [e, ← add_plain]
    exact hc

/-- A sign, a text, out of a cell. -/
def cOf : Value → Int
  | .int _ c => c
  | _ => 0
def tOf : Value → ByteArray
  | .string s => s
  | _ => ByteArray.empty

/-- Marks that came in. -/
theorem mks_of {H : Type} {enc : TypeId × Value → H} {W : World} {a : Option Addr} {len cap : Nat} {d : DataW H} {p : List MemPlace} (h : DataW.Trod enc Tryd.prog W 0 (fun _ => true) true 38 (.slice a len cap) d p) :
    ∃ ms : List (Int × ByteArray), ms.length = len ∧ len ≤ maxLen ∧ Mks W a ms ∧ (∀ m ∈ ms, m.2.size ≤ maxLen) := by
  obtain ⟨fuel, hf⟩ := h
  rcases Deep.open_slice_pairs Tryd.underlying38 Tryd.underlying37 (by kernel_rfl) rfl rfl (by kernel_rfl) (by kernel_rfl) hf with ⟨hcs, _⟩ | ⟨x, l, c, m, n, V0, V1, D0, D1, P0, P1, hcs, _, hl, hm, hmm, _, hat⟩
  · simp [Value.cells] at hcs
    obtain ⟨rfl, rfl, rfl⟩ := hcs
    exact ⟨[], rfl, Nat.zero_le _, fun i hi => absurd hi (by simp), by simp⟩
  · simp [Value.cells] at hcs
    obtain ⟨rfl, rfl, rfl⟩ := hcs
    have hmc : m = cap := by simpa using hmm
    have hv : ∀ i, i < len → ∃ c s, V0 i = .int .u8 c ∧ V1 i = .string s ∧ s.size ≤ maxLen := by
      intro i hi
      obtain ⟨_, _, t0, t1⟩ := hat i (by omega)
      obtain ⟨c, hc, _, _⟩ := DataW.trod_int Tryd.underlying5 t0
      obtain ⟨s, hs, _, hsz⟩ := DataW.trod_string Tryd.underlying9 t1
      exact ⟨c, s, by simpa using hc, by simpa using hs, hsz⟩
    refine ⟨(List.range len).map fun i => (cOf (V0 i), tOf (V1 i)), by simp, by omega, ?_, ?_⟩
    · intro i hi
      simp at hi
      obtain ⟨c, s, e0, e1, _⟩ := hv i hi
      obtain ⟨h0, h1, _, _⟩ := hat i (by omega)
      obtain ⟨b, off, spot⟩ := x
      have hspot : spot = none := by
        obtain ⟨g0, _, _, _⟩ := hat 0 (by omega)
        simpa [Addr.add] using World.cell?_spot g0
      subst hspot
      refine ⟨b, off, rfl, ?_⟩
      have e : ((List.range len).map fun i => (cOf (V0 i), tOf (V1 i))).getD i (0, ByteArray.empty) = (c, s) := by
        simp [hi, e0, e1, cOf, tOf]
      rw [e]
      rw [add_plain, e0] at h0
      rw [add_plain, e1] at h1
      exact ⟨h0, by rw [Nat.add_assoc]; exact h1⟩
    · intro m hm
      obtain ⟨i, hi, rfl⟩ := List.mem_map.1 hm
      obtain ⟨c, s, e0, e1, hs⟩ := hv i (List.mem_range.1 hi)
      rw [e1]; exact hs

/-- Marks that came in: no more than there is room for. -/
theorem mks_cap {H : Type} {enc : TypeId × Value → H} {W : World} {a : Option Addr} {len cap : Nat} {d : DataW H} {p : List MemPlace} (h : DataW.Trod enc Tryd.prog W 0 (fun _ => true) true 38 (.slice a len cap) d p) : len ≤ cap := by
  obtain ⟨fuel, hf⟩ := h
  rcases Deep.open_slice_pairs Tryd.underlying38 Tryd.underlying37 (by kernel_rfl) rfl rfl (by kernel_rfl) (by kernel_rfl) hf with ⟨hcs, _⟩ | ⟨x, l, c, m, n, V0, V1, D0, D1, P0, P1, hcs, _, hl, _⟩
  · simp [Value.cells] at hcs
    omega
  · simp [Value.cells] at hcs
    obtain ⟨rfl, rfl, rfl⟩ := hcs
    exact hl

end Go.Proofs.YtnkdmgekpajfhaeDoor
