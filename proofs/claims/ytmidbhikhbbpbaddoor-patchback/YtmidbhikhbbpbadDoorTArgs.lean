/-
  Arguments as the walks want them: lists of files, a file.
-/
import Derived.Test.YtmidbhikhbbpbadDoorFls
import Derived.ProofKit
import Derived.SliceStrings
import Derived.Deep.SlicePairs
import Derived.Lib.SmallJoins

namespace Go.Proofs.YtmidbhikhbbpbadDoor
open Go.ChangeShapes Go.WideShapes Go.ChangeAt Go.RowKit

/-- Lines that came in, as cells. -/
theorem strs_in {H : Type} {enc : TypeId × Value → H} {W : World} {v : Value} {fuel : Nat} {y : DataW H × List MemPlace} (hf : DataW.trod enc Tryd.prog W 0 (fun _ => true) true fuel 28 [v] = some y) :
    ∃ (a : Option Addr) (ss : List ByteArray) (cap : Nat), v = .slice a ss.length cap ∧ ss.length ≤ maxLen ∧ Strs W a ss ∧ (∀ s ∈ ss, s.size ≤ maxLen) ∧ ss.length ≤ cap := by
  rcases open_strings Tryd.underlying28 Tryd.underlying9 (by kernel_rfl) hf with ⟨hcs, _⟩ | ⟨x, len, cap, zs, hcs, _, hl, hm, hz, _, hcell, hwz⟩
  · have e : v = .slice none 0 0 := by simpa using hcs
    subst e
    exact ⟨none, [], 0, rfl, Nat.zero_le _, fun i hi => absurd hi (by simp), by simp, Nat.le_refl _⟩
  · have e : v = .slice (some x) len cap := by simpa using hcs
    subst e
    have hzl : zs.length = cap := by simpa using hz
    have hln : (zs.take len).length = len := by rw [List.length_take]; omega
    refine ⟨some x, zs.take len, cap, by rw [hln], by rw [hln]; omega, ?_, fun s hs => hwz s (List.mem_of_mem_take hs), by rw [hln]; exact hl⟩
    intro i hi
    rw [hln] at hi
    have hc := hcell i (by omega)
    obtain ⟨b, off, spot⟩ := x
    have hspot : spot = none := by simpa [Addr.add] using World.cell?_spot (hcell 0 (by omega))
    subst hspot
    refine ⟨b, off, rfl, ?_⟩
    have h2 : i < zs.length := by omega
    have e : (zs.take len).getD i ByteArray.empty = zs.getD i ByteArray.empty := by simp [hi, h2]
    rw [e, ← add_some]
    exact hc

/-- Files that came in. -/
theorem fls_of {H : Type} {enc : TypeId × Value → H} {W : World} {a : Option Addr} {len cap : Nat} {d : DataW H} {p : List MemPlace} (h : DataW.Trod enc Tryd.prog W 0 (fun _ => true) true 22 (.slice a len cap) d p) :
    ∃ l : List Fl, l.length = len ∧ len ≤ maxLen ∧ Fls W a l ∧ (∀ x ∈ l, x.2.length ≤ maxLen) ∧ (∀ x ∈ l, ∀ s ∈ x.2, s.size ≤ maxLen) ∧ len ≤ cap := by
  obtain ⟨fuel, hf⟩ := h
  rcases Deep.open_slice_pairs Tryd.underlying22 Tryd.underlying30 (by kernel_rfl) rfl rfl (by kernel_rfl) (by kernel_rfl) hf with ⟨hcs, _⟩ | ⟨x, l, c, m, n, V0, V1, D0, D1, P0, P1, hcs, _, hl, hm, hmm, _, hat⟩
  · simp [Value.cells] at hcs
    obtain ⟨rfl, rfl, rfl⟩ := hcs
    exact ⟨[], rfl, Nat.zero_le _, Fls.nil _ _, by simp, by simp, Nat.le_refl _⟩
  · simp [Value.cells] at hcs
    obtain ⟨rfl, rfl, rfl⟩ := hcs
    have hmc : m = cap := by simpa using hmm
    obtain ⟨b, off, spot⟩ := x
    have hv : ∀ i, i < len → ∃ z : ByteArray × Option Addr × List ByteArray × Nat, W.cell? ((⟨b, off, spot⟩ : Addr).add (i * 2)) = some (.string z.1) ∧ W.cell? ((⟨b, off, spot⟩ : Addr).add (i * 2 + 1)) = some (.slice z.2.1 z.2.2.1.length z.2.2.2) ∧ Strs W z.2.1 z.2.2.1 ∧ z.2.2.1.length ≤ maxLen ∧ (∀ s ∈ z.2.2.1, s.size ≤ maxLen) ∧ z.2.2.1.length ≤ z.2.2.2 := by
      intro i hi
      obtain ⟨e0, e1, t0, t1⟩ := hat i (by omega)
      obtain ⟨s, hs, _, _⟩ := DataW.trod_string Tryd.underlying9 t0
      obtain ⟨am, ss, cm, hv1, h1, h2, h3, h4⟩ := strs_in t1
      refine ⟨(s, am, ss, cm), ?_, ?_, h2, h1, h3, h4⟩
      · rw [e0]; simpa using hs
      · rw [e1, hv1]
    obtain ⟨g, hg⟩ := Deep.choose_lt hv
    refine ⟨(List.range len).map fun i => ((g i).1, (g i).2.2.1), by simp, by omega, ?_, ?_, ?_, hl⟩
    · intro i hi
      simp at hi
      obtain ⟨r0, r1, r2, _, _, r3⟩ := hg i hi
      have hspot : spot = none := by simpa [Addr.add] using World.cell?_spot (hg 0 (by omega)).1
      subst hspot
      have e : ((List.range len).map fun i => ((g i).1, (g i).2.2.1)).getD i fz = ((g i).1, (g i).2.2.1) := by simp [hi]
      rw [e]
      rw [add_some] at r0 r1
      exact ⟨b, off, (g i).2.1, (g i).2.2.2, rfl, r0, by rw [Nat.add_assoc]; exact r1, r2, r3⟩
    · intro x hx
      obtain ⟨i, hi, rfl⟩ := List.mem_map.1 hx
      exact (hg i (List.mem_range.1 hi)).2.2.2.1
    · intro x hx
      obtain ⟨i, hi, rfl⟩ := List.mem_map.1 hx
      exact (hg i (List.mem_range.1 hi)).2.2.2.2.1

set_option maxRecDepth 100000 in
/-- A file that came in. -/
theorem file_of {H : Type} {enc : TypeId × Value → H} {W : World} {r : Reach} {b0 : Nat} {v : Value} {d : DataW H} {p : List MemPlace} (hv : Value.okWide Tryd.prog W r b0 30 v) (h : DataW.Trod enc Tryd.prog W 0 (fun _ => true) true 30 v d p) :
    ∃ (s : ByteArray) (am : Option Addr) (ss : List ByteArray) (cm : Nat), v = .agg #[.string s, .slice am ss.length cm] ∧ ss.length ≤ maxLen ∧ Strs W am ss ∧ (∀ x ∈ ss, x.size ≤ maxLen) ∧ ss.length ≤ cm := by
  obtain ⟨v0, v1, y0, y1, n, rfl, _, _, t0, t1⟩ := Go.Joins.open_agg2 Tryd.underlying30 (by kernel_rfl) (by kernel_rfl) hv h
  obtain ⟨s, hs, _, _⟩ := DataW.trod_string Tryd.underlying9 t0
  obtain ⟨am, ss, cm, rfl, h1, h2, h3, h4⟩ := strs_in t1
  have e : v0 = .string s := by simpa using hs
  subst e
  exact ⟨s, am, ss, cm, rfl, h1, h2, h3, h4⟩

end Go.Proofs.YtmidbhikhbbpbadDoor
