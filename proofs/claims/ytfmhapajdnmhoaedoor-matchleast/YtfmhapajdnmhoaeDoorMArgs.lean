/-
  Arguments as the walks want them: numbers, squares of numbers.
-/
import Derived.Test.YtfmhapajdnmhoaeDoorSqr
import Derived.ProofKit
import Derived.Deep.Slices
import Derived.Deep.Matrix

namespace Go.Proofs.YtfmhapajdnmhoaeDoor
open Go.ChangeShapes Go.WideShapes Go.ChangeAt Go.RowKit Dist

theorem add_num (b off i : Nat) : (⟨b, off, none⟩ : Addr).add i = ⟨b, off + i, none⟩ := by
  by_cases h : i = 0
  · subst h; rfl
  · simp [Addr.add, h]

/-- Numbers that came in. -/
theorem ins_of {H : Type} {enc : TypeId × Value → H} {W : World} {a : Option Addr} {len cap : Nat} {d : DataW H} {p : List MemPlace} (h : DataW.Trod enc Tryd.prog W 0 (fun _ => true) true 58 (.slice a len cap) d p) :
    ∃ zs : List Int, zs.length = len ∧ len ≤ maxLen ∧ Ins W a zs ∧ len ≤ cap := by
  obtain ⟨fuel, hf⟩ := h
  rcases open_ints Tryd.underlying58 Tryd.underlying3 (by kernel_rfl) hf with ⟨hcs, _⟩ | ⟨x, l, c, zs, hcs, _, hl, hm, hz, _, hcell, hwz⟩
  · simp [Value.cells] at hcs
    obtain ⟨rfl, rfl, rfl⟩ := hcs
    exact ⟨[], rfl, Nat.zero_le _, Ins.nil _ _, Nat.le_refl _⟩
  · simp [Value.cells] at hcs
    obtain ⟨rfl, rfl, rfl⟩ := hcs
    have hzl : zs.length = cap := by simpa using hz
    refine ⟨zs.take len, by rw [List.length_take]; omega, by omega, ?_, hl⟩
    intro i hi
    rw [List.length_take] at hi
    have hc := hcell i (by omega)
    obtain ⟨b, off, spot⟩ := x
    have hspot : spot = none := by simpa [Addr.add] using World.cell?_spot (hcell 0 (by omega))
    subst hspot
    refine ⟨b, off, rfl, ?_⟩
    have h1 : i < len := by omega
    have h2 : i < zs.length := by omega
    have e : (zs.take len).getD i 0 = zs.getD i 0 := by simp [h1, h2]
    rw [e, ← add_num]
    exact hc

/-- Rows of numbers that came in. -/
theorem sqr_of {H : Type} {enc : TypeId × Value → H} {W : World} {a : Option Addr} {len cap : Nat} {d : DataW H} {p : List MemPlace} (h : DataW.Trod enc Tryd.prog W 0 (fun _ => true) true 57 (.slice a len cap) d p) :
    ∃ cs : List (List Int), cs.length = len ∧ len ≤ maxLen ∧ Sqr W a cs ∧ ∀ r ∈ cs, r.length ≤ maxLen := by
  obtain ⟨fuel, hf⟩ := h
  rcases Deep.open_int_rows Tryd.underlying57 Tryd.underlying58 Tryd.underlying3 (by kernel_rfl) (by kernel_rfl) hf with ⟨hcs, _⟩ | ⟨x, l, c, A, L, C, Z, hcs, _, hl, hm, _, hrow⟩
  · simp [Value.cells] at hcs
    obtain ⟨rfl, rfl, rfl⟩ := hcs
    exact ⟨[], rfl, Nat.zero_le _, fun i hi => absurd hi (by simp), fun r hr => by cases hr⟩
  · simp [Value.cells] at hcs
    obtain ⟨rfl, rfl, rfl⟩ := hcs
    refine ⟨(List.range len).map fun r => (Z r).take (L r), by simp, by omega, ?_, ?_⟩
    · intro i hi
      have hi : i < len := by simpa using hi
      have e : ((List.range len).map fun r => (Z r).take (L r)).getD i [] = (Z i).take (L i) := by simp [hi]
      rw [e]
      obtain ⟨h1, h2, h3, h4, _, h6, h7⟩ := hrow i (by omega)
      obtain ⟨b, off, spot⟩ := x
      have hspot : spot = none := by simpa [Addr.add] using World.cell?_spot (hrow 0 (by omega)).1
      subst hspot
      have el : ((Z i).take (L i)).length = L i := by rw [List.length_take]; omega
      refine ⟨b, off, A i, C i, rfl, ?_, ?_⟩
      · rw [el, ← add_num]; exact h1
      · intro j hj
        rw [el] at hj
        cases hA : A i with
        | none => have := h6 hA; omega
        | some a2 =>
          obtain ⟨_, hc⟩ := h7 a2 hA
          obtain ⟨b2, o2, s2⟩ := a2
          have hs2 : s2 = none := by simpa [Addr.add] using World.cell?_spot (hc 0 (by omega))
          subst hs2
          refine ⟨b2, o2, rfl, ?_⟩
          have hc := hc j (by omega)
          have e2 : ((Z i).take (L i)).getD j 0 = (Z i).getD j 0 := by simp [hj, show j < (Z i).length by omega]
          rw [e2, ← add_num]; exact hc
    · intro r hr
      obtain ⟨i, hi, rfl⟩ := List.mem_map.1 hr
      have hi := List.mem_range.1 hi
      obtain ⟨_, h2, h3, h4, _⟩ := hrow i (by omega)
      rw [List.length_take]; omega

end Go.Proofs.YtfmhapajdnmhoaeDoor
