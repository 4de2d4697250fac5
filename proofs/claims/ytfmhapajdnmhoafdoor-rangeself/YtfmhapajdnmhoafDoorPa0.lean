/-
  Changes and patches: what is wrong with them, as mathematics.
-/
import Derived.Test.YtfmhapajdnmhoafDoorTrf
import Derived.Test.YtfmhapajdnmhoafDoorHf
import Derived.Test.YtfmhapajdnmhoafDoorSma

namespace Go.Proofs.YtfmhapajdnmhoafDoor
open Go Dist

/-- A change: what becomes of a file (1 edited, 2 made, 3 wiped), its path, hunks. -/
abbrev Ch := Int × ByteArray × List Hk
def cz : Ch := (0, ByteArray.empty, [])

/-- The hunks go with what becomes of the file. -/
def shp (c : Ch) : Bool :=
  if c.1 = 1 then decide (c.2.2 ≠ []) else match c.2.2 with
    | [] => true
    | h :: r => decide (r = []) && decide (h.1 = 0) && decide (lessOf (if c.1 = 2 then 43 else 45) h.2.2 = [])

/-- The fault of a change by itself. -/
def cOne (c : Ch) : Int :=
  if c.1 < 1 ∨ 3 < c.1 then 1 else if pf c.2.1.data.toList ≠ 0 then pf c.2.1.data.toList else if (hf c.2.2).2 ≠ 0 then (hf c.2.2).2 else if shp c = true then 0 else 2
/-- The fault of a change where it stands. -/
def cAt (l : List Ch) (j : Nat) : Int := if cOne (l.getD j cz) ≠ 0 then cOne (l.getD j cz) else if 0 < j ∧ bl (l.getD (j - 1) cz).2.1 (l.getD j cz).2.1 = false then 2 else 0
/-- The first fault: where, and which. -/
def kfr (l : List Ch) : Nat → Nat → Nat × Int
  | 0, _ => (0, 0)
  | f + 1, k => if cAt l k = 0 then kfr l f (k + 1) else (k, cAt l k)
def kf (l : List Ch) : Nat × Int := if 16 < l.length then (0, 3) else kfr l l.length 0

theorem kfr_skip (l : List Ch) (m k : Nat) (h : ∀ j, j < k → cAt l j = 0) (hk : k ≤ m) : kfr l m 0 = kfr l (m - k) k := by
  induction k with
  | zero => rfl
  | succ k ih =>
    rw [ih (fun j hj => h j (by omega)) (by omega), show m - k = (m - (k + 1)) + 1 by omega, kfr, if_pos (h k (by omega))]

theorem kf_big {l : List Ch} (h : 16 < l.length) : kf l = (0, 3) := by unfold kf; rw [if_pos h]

theorem kf_at {l : List Ch} (hl : l.length ≤ 16) (k : Nat) (h : ∀ j, j < k → cAt l j = 0) (hk : k < l.length) (hb : cAt l k ≠ 0) : kf l = (k, cAt l k) := by
  unfold kf
  rw [if_neg (by omega), kfr_skip l l.length k h (by omega), show l.length - k = (l.length - (k + 1)) + 1 by omega, kfr, if_neg hb]

theorem kf_ok {l : List Ch} (hl : l.length ≤ 16) (h : ∀ j, j < l.length → cAt l j = 0) : kf l = (0, 0) := by
  unfold kf
  rw [if_neg (by omega), kfr_skip l l.length l.length h (Nat.le_refl _), Nat.sub_self, kfr]

theorem kf_none {l : List Ch} (h : (kf l).2 = 0) : l.length ≤ 16 ∧ ∀ j, j < l.length → cAt l j = 0 := by
  by_cases hl : 16 < l.length
  · rw [kf_big hl] at h; simp at h
  · refine ⟨by omega, ?_⟩
    intro j
    induction j using Nat.strongRecOn with
    | _ j ih =>
      intro hj
      by_cases e : cAt l j = 0
      · exact e
      · rw [kf_at (by omega) j (fun i hi => ih i hi (by omega)) hj e] at h
        exact absurd h e

theorem cAt_zero {l : List Ch} {j : Nat} (h : cAt l j = 0) : cOne (l.getD j cz) = 0 ∧ (0 < j → bl (l.getD (j - 1) cz).2.1 (l.getD j cz).2.1 = true) := by
  unfold cAt at h
  by_cases e : cOne (l.getD j cz) = 0
  · rw [if_neg (fun h => h e)] at h
    refine ⟨e, fun hj => ?_⟩
    cases e2 : bl (l.getD (j - 1) cz).2.1 (l.getD j cz).2.1 with
    | true => rfl
    | false => rw [if_pos ⟨hj, e2⟩] at h; omega
  · rw [if_pos e] at h; exact absurd h e
theorem cAt_one {l : List Ch} {j : Nat} (h : cOne (l.getD j cz) ≠ 0) : cAt l j = cOne (l.getD j cz) := by unfold cAt; rw [if_pos h]
theorem cAt_falls {l : List Ch} {j : Nat} (h : cOne (l.getD j cz) = 0) (hj : 0 < j) (hb : bl (l.getD (j - 1) cz).2.1 (l.getD j cz).2.1 = false) : cAt l j = 2 := by unfold cAt; rw [if_neg (fun x => x h), if_pos ⟨hj, hb⟩]
theorem cAt_ok {l : List Ch} {j : Nat} (h : cOne (l.getD j cz) = 0) (hb : 0 < j → bl (l.getD (j - 1) cz).2.1 (l.getD j cz).2.1 = true) : cAt l j = 0 := by
  unfold cAt
  rw [if_neg (fun x => x h), if_neg]
  rintro ⟨h1, h2⟩
  rw [hb h1] at h2; cases h2

theorem mem_getDc {l : List Ch} {k : Nat} (hk : k < l.length) : l.getD k cz ∈ l := by
  have e : l.getD k cz = l[k] := by simp [hk]
  rw [e]; exact List.getElem_mem _

/-- Changes whose paths rise. -/
def RisC (l : List Ch) : Prop := l.Pairwise fun x y => bl x.2.1 y.2.1 = true

theorem risC_of {l : List Ch} (h : ∀ i, i + 1 < l.length → bl (l.getD i cz).2.1 (l.getD (i + 1) cz).2.1 = true) : RisC l := by
  induction l with
  | nil => exact List.Pairwise.nil
  | cons x t ih =>
    have ht : RisC t := ih fun i hi => by
      have := h (i + 1) (by simpa using hi)
      simpa using this
    refine List.pairwise_cons.2 ⟨?_, ht⟩
    cases t with
    | nil => intro y hy; cases hy
    | cons z t =>
      have h0 : bl x.2.1 z.2.1 = true := by have := h 0 (by simp); simpa using this
      intro y hy
      rcases List.mem_cons.1 hy with rfl | hy
      · exact h0
      · exact bl_trans h0 ((List.pairwise_cons.1 ht).1 y hy)

theorem RisC.next {l : List Ch} (h : RisC l) {i : Nat} (hi : i + 1 < l.length) : bl (l.getD i cz).2.1 (l.getD (i + 1) cz).2.1 = true := by
  have := List.pairwise_iff_getElem.1 h i (i + 1) (by omega) hi (by omega)
  simpa [show i < l.length by omega, hi] using this

theorem kf_zero {l : List Ch} (h : (kf l).2 = 0) : l.length ≤ 16 ∧ RisC l ∧ ∀ c ∈ l, cOne c = 0 := by
  obtain ⟨h1, h2⟩ := kf_none h
  refine ⟨h1, risC_of fun i hi => ?_, fun x hx => ?_⟩
  · have := (cAt_zero (h2 (i + 1) hi)).2 (by omega)
    simpa using this
  · obtain ⟨j, hj, rfl⟩ := List.getElem_of_mem hx
    have := (cAt_zero (h2 j hj)).1
    have e : l.getD j cz = l[j] := by simp [hj]
    rw [e] at this; exact this
theorem kf_of {l : List Ch} (h1 : l.length ≤ 16) (h2 : RisC l) (h3 : ∀ c ∈ l, cOne c = 0) : kf l = (0, 0) := by
  refine kf_ok h1 fun j hj => cAt_ok (h3 _ (mem_getDc hj)) fun hp => ?_
  have := h2.next (i := j - 1) (by omega)
  rw [Nat.sub_add_cancel hp] at this
  exact this

theorem cOne_zero {c : Ch} (h : cOne c = 0) : (1 ≤ c.1 ∧ c.1 ≤ 3) ∧ pf c.2.1.data.toList = 0 ∧ (hf c.2.2).2 = 0 ∧ shp c = true := by
  unfold cOne at h
  by_cases h1 : c.1 < 1 ∨ 3 < c.1
  · rw [if_pos h1] at h; omega
  · rw [if_neg h1] at h
    by_cases h2 : pf c.2.1.data.toList = 0
    · rw [if_neg (fun e => e h2)] at h
      by_cases h3 : (hf c.2.2).2 = 0
      · rw [if_neg (fun e => e h3)] at h
        by_cases h4 : shp c = true
        · exact ⟨by omega, h2, h3, h4⟩
        · rw [if_neg h4] at h; omega
      · rw [if_pos h3] at h; exact absurd h h3
    · rw [if_pos h2] at h; exact absurd h h2
theorem cOne_of {c : Ch} (h1 : 1 ≤ c.1 ∧ c.1 ≤ 3) (h2 : pf c.2.1.data.toList = 0) (h3 : (hf c.2.2).2 = 0) (h4 : shp c = true) : cOne c = 0 := by
  unfold cOne
  rw [if_neg (by omega), if_neg (fun e => e h2), if_neg (fun e => e h3), if_pos h4]

/-- A hunk that comes first has one place. -/
theorem hf_first {h : Hk} {r : List Hk} (hh : (hf (h :: r)).2 = 0) : h.2.1 = h.1 ∧ sf h.2.2 = 0 := by
  obtain ⟨_, h2⟩ := hf_zero hh
  have h0 := h2 0 (by simp)
  obtain ⟨a1, _, a3⟩ := hAt_zero h0
  have e : (h :: r).getD 0 (0, 0, []) = h := rfl
  rw [e] at a1 a3
  have s0 : sh ((h :: r).take 0) = 0 := by simp [sh]
  rw [s0, Int.add_zero] at a3
  exact ⟨a3, (hOne_zero a1).1⟩

end Go.Proofs.YtfmhapajdnmhoafDoor
