/-
  Walk of apply.Strict: hunks done to lines just where they say; the fault else.
-/
import Derived.Test.YtmidbhikhbbpbacDoorTrim
import Derived.Deep.RegionWith

namespace Go.Proofs.YtmidbhikhbbpbacDoor
open Go.RowKit Dist

/-- The place and the fault of hunks that are done strictly. -/
def stF (xs : List ByteArray) (l : List Hk) : Nat × Int :=
  if lsf (bts xs) ≠ 0 then (0, lsf (bts xs)) else if (hf l).2 ≠ 0 then hf l else match clash xs l with
    | some k => (k, 6)
    | none => if 60 < (sR xs l).length then (0, 3) else (0, 0)
/-- What comes of it, if there is no fault. -/
def stO (xs : List ByteArray) (l : List Hk) : List ByteArray := if (stF xs l).2 = 0 then sR xs l else []

theorem stF_lines {xs : List ByteArray} {l : List Hk} (h : lsf (bts xs) ≠ 0) : stF xs l = (0, lsf (bts xs)) := by unfold stF; rw [if_pos h]
theorem stF_hunks {xs : List ByteArray} {l : List Hk} (h : lsf (bts xs) = 0) (h2 : (hf l).2 ≠ 0) : stF xs l = hf l := by unfold stF; rw [if_neg (fun x => x h), if_pos h2]
theorem stF_clash {xs : List ByteArray} {l : List Hk} {k : Nat} (h : lsf (bts xs) = 0) (h2 : (hf l).2 = 0) (h3 : clash xs l = some k) : stF xs l = (k, 6) := by unfold stF; rw [if_neg (fun x => x h), if_neg (fun x => x h2), h3]
theorem stF_full {xs : List ByteArray} {l : List Hk} (h : lsf (bts xs) = 0) (h2 : (hf l).2 = 0) (h3 : clash xs l = none) (h4 : 60 < (sR xs l).length) : stF xs l = (0, 3) := by unfold stF; rw [if_neg (fun x => x h), if_neg (fun x => x h2), h3]; exact if_pos h4
theorem stF_ok {xs : List ByteArray} {l : List Hk} (h : lsf (bts xs) = 0) (h2 : (hf l).2 = 0) (h3 : clash xs l = none) (h4 : ¬ 60 < (sR xs l).length) : stF xs l = (0, 0) := by unfold stF; rw [if_neg (fun x => x h), if_neg (fun x => x h2), h3]; exact if_neg h4
theorem stO_bad {xs : List ByteArray} {l : List Hk} (h : (stF xs l).2 ≠ 0) : stO xs l = [] := by unfold stO; rw [if_neg h]
theorem stO_ok {xs : List ByteArray} {l : List Hk} (h : (stF xs l).2 = 0) : stO xs l = sR xs l := by unfold stO; rw [if_pos h]

/-- No fault: lines and hunks have none, all stand, there is room. -/
theorem stF_zero {xs : List ByteArray} {l : List Hk} (h : (stF xs l).2 = 0) : lsf (bts xs) = 0 ∧ (hf l).2 = 0 ∧ clash xs l = none ∧ (sR xs l).length ≤ 60 := by
  by_cases h1 : lsf (bts xs) = 0
  · by_cases h2 : (hf l).2 = 0
    · cases h3 : clash xs l with
      | some k => rw [stF_clash h1 h2 h3] at h; simp at h
      | none =>
        by_cases h4 : 60 < (sR xs l).length
        · rw [stF_full h1 h2 h3 h4] at h; simp at h
        · exact ⟨h1, h2, rfl, by omega⟩
    · rw [stF_hunks h1 h2] at h; exact absurd h h2
  · rw [stF_lines h1] at h; exact absurd h h1

/-- Hunks without a fault are good. -/
theorem hf_good {l : List Hk} (h : (hf l).2 = 0) : Dist.Good l ∧ l.length ≤ 60 ∧ ∀ x ∈ l, sf x.2.2 = 0 ∧ 0 < chg x.2.2 ∧ 0 ≤ x.1 ∧ x.1 ≤ 60 := by
  obtain ⟨h1, h2⟩ := hf_zero h
  have hat : ∀ x ∈ l, sf x.2.2 = 0 ∧ 0 < chg x.2.2 ∧ 0 ≤ x.1 ∧ x.1 ≤ 60 := fun x hx => by
    obtain ⟨i, hi, rfl⟩ := List.mem_iff_getElem.1 hx
    have h3 := hOne_zero (hAt_zero (h2 i hi)).1
    have e : l.getD i (0, 0, []) = l[i] := by simp [hi]
    rw [e] at h3
    exact ⟨h3.1, h3.2.1, h3.2.2.1, h3.2.2.2.1⟩
  refine ⟨⟨fun j hj => (hAt_zero (h2 j hj)).2, fun x hx => ?_⟩, h1, hat⟩
  obtain ⟨a1, a2, a3, a4⟩ := hat x hx
  exact ⟨a3, fun m hm => ((sf_zero a1).2 m hm).1⟩

theorem sO_small {xs : List ByteArray} {l : List Hk} (h : ∀ x ∈ l, sf x.2.2 = 0 ∧ 0 < chg x.2.2 ∧ 0 ≤ x.1 ∧ x.1 ≤ 60) (k : Nat) (hk : k ≤ l.length) : (sO xs l k).length ≤ 180 * k := by
  induction k with
  | zero => exact Nat.le_refl _
  | succ k ih =>
    have := ih (by omega)
    obtain ⟨a1, _, _, a4⟩ := h _ (hk_mem (show k < l.length by omega))
    have h3 := (sf_zero a1).1
    have h4 := lessOf_len 45 (l.getD k (0, 0, [])).2.2
    rw [sO, List.length_append, List.length_append, List.length_drop, List.length_take]
    omega

theorem sO_mem {xs : List ByteArray} {l : List Hk} {x : ByteArray} (k : Nat) (hk : k ≤ l.length) (hx : x ∈ sO xs l k) : x ∈ xs ∨ ∃ h ∈ l, ∃ m ∈ h.2.2, m.2 = x := by
  induction k with
  | zero => cases hx
  | succ k ih =>
    rw [sO] at hx
    rcases List.mem_append.1 hx with hx | hx
    · exact ih (by omega) hx
    · rcases List.mem_append.1 hx with hx | hx
      · exact .inl (List.mem_of_mem_take (List.mem_of_mem_drop hx))
      · obtain ⟨m, hm, e⟩ := less_mem hx
        exact .inr ⟨_, hk_mem (show k < l.length by omega), m, hm, e⟩

/-- What comes are lines. -/
theorem sR_lines {xs : List ByteArray} {l : List Hk} (h1 : lsf (bts xs) = 0) (h2 : (hf l).2 = 0) : ∀ x ∈ sR xs l, lf x.data.toList = 0 := by
  intro x hx
  unfold sR at hx
  have hin : x ∈ xs ∨ ∃ h ∈ l, ∃ m ∈ h.2.2, m.2 = x := by
    rcases List.mem_append.1 hx with hx | hx
    · exact sO_mem _ (Nat.le_refl _) hx
    · exact .inl (List.mem_of_mem_drop hx)
  rcases hin with hx | ⟨h, hh, m, hm, rfl⟩
  · exact (lsf_zero h1).2 _ (List.mem_map.2 ⟨x, hx, rfl⟩)
  · exact ((sf_zero ((hf_good h2).2.2 h hh).1).2 m hm).2

theorem sR_sizes {xs : List ByteArray} {l : List Hk} (h1 : lsf (bts xs) = 0) (h2 : (hf l).2 = 0) : ∀ x ∈ sR xs l, x.size ≤ 80 := fun x hx => by
  have := (lf_zero (sR_lines h1 h2 x hx)).2
  rw [Lib.size_eq]; exact this

/-- The file ends behind what stands in it. -/
theorem eN_in {xs : List ByteArray} {l : List Hk} (hg : Dist.Good l) {k : Nat} (hk : k ≤ l.length) (hs : ∀ j, j < k → stH xs (l.getD j (0, 0, [])) = true) : eN l k ≤ xs.length := by
  cases k with
  | zero => rw [eN_zero]; exact Nat.zero_le _
  | succ k =>
    obtain ⟨_, _, _, g4⟩ := hg.at (show k < l.length by omega)
    have := hs k (by omega)
    unfold stH at this
    rw [g4]
    exact (stB_iff.1 this).1

/-- Three lists of lines, new. -/
theorem pts_three (w : World) (a b c : Option Addr) (xs ys zs : List ByteArray) (ca cb cc : Nat) (t : TypeId) (ha : Strs w a xs) (hb : Strs w b ys) (hc : Strs w c zs) : Pts (w.alloc (.cells #[.slice a xs.length ca, .slice b ys.length cb, .slice c zs.length cc] t)) (some ⟨w.heap.size, 0, none⟩) [xs, ys, zs] := by
  intro i hi
  have hblk := heap_alloc_new w (.cells #[.slice a xs.length ca, .slice b ys.length cb, .slice c zs.length cc] t)
  have hbl := below_alloc w (.cells #[.slice a xs.length ca, .slice b ys.length cb, .slice c zs.length cc] t)
  match i, hi with
  | 0, _ => exact ⟨_, 0, a, ca, rfl, by rw [Lib.cell_of_heap hblk]; rfl, ha.below hbl⟩
  | 1, _ => exact ⟨_, 0, b, cb, rfl, by rw [Lib.cell_of_heap hblk]; rfl, hb.below hbl⟩
  | 2, _ => exact ⟨_, 0, c, cc, rfl, by rw [Lib.cell_of_heap hblk]; rfl, hc.below hbl⟩

theorem pts_two (w : World) (a b : Option Addr) (xs ys : List ByteArray) (ca cb : Nat) (t : TypeId) (ha : Strs w a xs) (hb : Strs w b ys) : Pts (w.alloc (.cells #[.slice a xs.length ca, .slice b ys.length cb] t)) (some ⟨w.heap.size, 0, none⟩) [xs, ys] := by
  intro i hi
  have hblk := heap_alloc_new w (.cells #[.slice a xs.length ca, .slice b ys.length cb] t)
  have hbl := below_alloc w (.cells #[.slice a xs.length ca, .slice b ys.length cb] t)
  match i, hi with
  | 0, _ => exact ⟨_, 0, a, ca, rfl, by rw [Lib.cell_of_heap hblk]; rfl, ha.below hbl⟩
  | 1, _ => exact ⟨_, 0, b, cb, rfl, by rw [Lib.cell_of_heap hblk]; rfl, hb.below hbl⟩

end Go.Proofs.YtmidbhikhbbpbacDoor
