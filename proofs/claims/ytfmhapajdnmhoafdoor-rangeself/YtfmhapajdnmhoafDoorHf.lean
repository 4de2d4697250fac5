/-
  The faults of hunks and of a script that is to be cut, as functions of lists; pieces of a script have none; hunks that have none have none when they are turned.
-/
import Derived.Test.YtfmhapajdnmhoafDoorMks
import Derived.Test.YtfmhapajdnmhoafDoorXi
namespace Go.Proofs.YtfmhapajdnmhoafDoor
open Go.RowKit Dist

/-- The fault of a hunk by itself. -/
def hOne (h : Int × Int × List (Int × ByteArray)) : Int :=
  if sf h.2.2 ≠ 0 then sf h.2.2 else if chg h.2.2 = 0 then 4 else if 0 ≤ h.1 ∧ h.1 ≤ 60 ∧ h.1 + ob h.2.2 ≤ 60 ∧ 0 ≤ h.2.1 ∧ h.2.1 ≤ 60 ∧ h.2.1 + nb h.2.2 ≤ 60 then 0 else 1
/-- The fault of a hunk where it stands. -/
def hPut (e s : Int) (h : Int × Int × List (Int × ByteArray)) : Int := if hOne h ≠ 0 then hOne h else if h.1 < e ∨ h.2.1 ≠ h.1 + s then 2 else 0
def hAt (l : List (Int × Int × List (Int × ByteArray))) (j : Nat) : Int := hPut (eo (l.take j)) (sh (l.take j)) (l.getD j (0, 0, []))
/-- The first fault: where, and which. -/
def hfr (l : List (Int × Int × List (Int × ByteArray))) : Nat → Nat → Nat × Int
  | 0, _ => (0, 0)
  | f + 1, k => if hAt l k = 0 then hfr l f (k + 1) else (k, hAt l k)
def hf (l : List (Int × Int × List (Int × ByteArray))) : Nat × Int := if 60 < l.length then (0, 3) else hfr l l.length 0

theorem hfr_skip (l : List (Int × Int × List (Int × ByteArray))) (m k : Nat) (h : ∀ j, j < k → hAt l j = 0) (hk : k ≤ m) : hfr l m 0 = hfr l (m - k) k := by
  induction k with
  | zero => rfl
  | succ k ih =>
    rw [ih (fun j hj => h j (by omega)) (by omega), show m - k = (m - (k + 1)) + 1 by omega, hfr, if_pos (h k (by omega))]

theorem hf_big {l : List (Int × Int × List (Int × ByteArray))} (h : 60 < l.length) : hf l = (0, 3) := by unfold hf; rw [if_pos h]

theorem hf_at {l : List (Int × Int × List (Int × ByteArray))} (hl : l.length ≤ 60) (k : Nat) (h : ∀ j, j < k → hAt l j = 0) (hk : k < l.length) (hb : hAt l k ≠ 0) : hf l = (k, hAt l k) := by
  unfold hf
  rw [if_neg (by omega), hfr_skip l l.length k h (by omega), show l.length - k = (l.length - (k + 1)) + 1 by omega, hfr, if_neg hb]

theorem hf_ok {l : List (Int × Int × List (Int × ByteArray))} (hl : l.length ≤ 60) (h : ∀ j, j < l.length → hAt l j = 0) : hf l = (0, 0) := by
  unfold hf
  rw [if_neg (by omega), hfr_skip l l.length l.length h (Nat.le_refl _), Nat.sub_self, hfr]

theorem hf_zero {l : List (Int × Int × List (Int × ByteArray))} (h : (hf l).2 = 0) : l.length ≤ 60 ∧ ∀ j, j < l.length → hAt l j = 0 := by
  by_cases hl : 60 < l.length
  · rw [hf_big hl] at h; simp at h
  · refine ⟨by omega, ?_⟩
    intro j
    induction j using Nat.strongRecOn with
    | _ j ih =>
      intro hj
      by_cases e : hAt l j = 0
      · exact e
      · rw [hf_at (by omega) j (fun i hi => ih i hi (by omega)) hj e] at h
        exact absurd h e

theorem hAt_zero {l : List (Int × Int × List (Int × ByteArray))} {j : Nat} (h : hAt l j = 0) : hOne (l.getD j (0, 0, [])) = 0 ∧ eo (l.take j) ≤ (l.getD j (0, 0, [])).1 ∧ (l.getD j (0, 0, [])).2.1 = (l.getD j (0, 0, [])).1 + sh (l.take j) := by
  unfold hAt hPut at h
  by_cases e : hOne (l.getD j (0, 0, [])) = 0
  · rw [if_neg (fun h => h e)] at h
    refine ⟨e, ?_⟩
    by_cases e2 : (l.getD j (0, 0, [])).1 < eo (l.take j) ∨ (l.getD j (0, 0, [])).2.1 ≠ (l.getD j (0, 0, [])).1 + sh (l.take j)
    · rw [if_pos e2] at h; omega
    · omega
  · rw [if_pos e] at h; exact absurd h e

theorem hAt_of {l : List (Int × Int × List (Int × ByteArray))} {j : Nat} (h1 : hOne (l.getD j (0, 0, [])) = 0) (h2 : eo (l.take j) ≤ (l.getD j (0, 0, [])).1 ∧ (l.getD j (0, 0, [])).2.1 = (l.getD j (0, 0, [])).1 + sh (l.take j)) : hAt l j = 0 := by
  unfold hAt hPut
  rw [if_neg (fun h => h h1), if_neg (by omega)]

theorem hOne_zero {h : Int × Int × List (Int × ByteArray)} (e : hOne h = 0) : sf h.2.2 = 0 ∧ 0 < chg h.2.2 ∧ 0 ≤ h.1 ∧ h.1 ≤ 60 ∧ h.1 + ob h.2.2 ≤ 60 ∧ 0 ≤ h.2.1 ∧ h.2.1 ≤ 60 ∧ h.2.1 + nb h.2.2 ≤ 60 := by
  unfold hOne at e
  by_cases e1 : sf h.2.2 = 0
  · rw [if_neg (fun h => h e1)] at e
    by_cases e2 : chg h.2.2 = 0
    · rw [if_pos e2] at e; omega
    · rw [if_neg e2] at e
      by_cases e3 : 0 ≤ h.1 ∧ h.1 ≤ 60 ∧ h.1 + ob h.2.2 ≤ 60 ∧ 0 ≤ h.2.1 ∧ h.2.1 ≤ 60 ∧ h.2.1 + nb h.2.2 ≤ 60
      · exact ⟨e1, by omega, e3⟩
      · rw [if_neg e3] at e; omega
  · rw [if_pos e1] at e; exact absurd e e1

theorem hOne_of {h : Int × Int × List (Int × ByteArray)} (e1 : sf h.2.2 = 0) (e2 : 0 < chg h.2.2) (e3 : 0 ≤ h.1 ∧ h.1 ≤ 60 ∧ h.1 + ob h.2.2 ≤ 60 ∧ 0 ≤ h.2.1 ∧ h.2.1 ≤ 60 ∧ h.2.1 + nb h.2.2 ≤ 60) : hOne h = 0 := by
  unfold hOne
  rw [if_neg (fun h => h e1), if_neg (by omega), if_pos e3]

theorem sf_swm {ms : List (Int × ByteArray)} (h : sf ms = 0) : sf (swm ms) = 0 := by
  obtain ⟨h1, h2⟩ := sf_zero h
  refine sf_of (by rw [swm_length]; exact h1) fun m hm => ?_
  unfold swm at hm
  obtain ⟨x, hx, rfl⟩ := List.mem_map.1 hm
  obtain ⟨g1, g2⟩ := h2 x hx
  refine ⟨?_, g2⟩
  unfold sgn sw at *
  rcases g1 with e | e | e <;> simp [e]

theorem hf_trn {l : List (Int × Int × List (Int × ByteArray))} (h : (hf l).2 = 0) : hf (trn l) = (0, 0) := by
  obtain ⟨hl, hall⟩ := hf_zero h
  have hfit : Fit l := fun j hj => (hAt_zero (hall j hj)).2
  have hlen : (trn l).length = l.length := by simp [trn]
  refine hf_ok (by omega) fun j hj => hAt_of ?_ (hfit.trn j hj)
  rw [hlen] at hj
  have e : (trn l).getD j (0, 0, []) = tn (l.getD j (0, 0, [])) := by simp [trn, hj]
  rw [e]
  obtain ⟨g1, g2, g3, g4, g5, g6, g7, g8⟩ := hOne_zero (hAt_zero (hall j hj)).1
  have c := swm_counts (l.getD j (0, 0, [])).2.2
  refine hOne_of (sf_swm g1) ?_ ?_
  · show 0 < chg (swm (l.getD j (0, 0, [])).2.2)
    rw [c.2.2]; exact g2
  · show 0 ≤ (l.getD j (0, 0, [])).2.1 ∧ (l.getD j (0, 0, [])).2.1 ≤ 60 ∧ (l.getD j (0, 0, [])).2.1 + (ob (swm (l.getD j (0, 0, [])).2.2) : Int) ≤ 60 ∧ 0 ≤ (l.getD j (0, 0, [])).1 ∧ (l.getD j (0, 0, [])).1 ≤ 60 ∧ (l.getD j (0, 0, [])).1 + (nb (swm (l.getD j (0, 0, [])).2.2) : Int) ≤ 60
    rw [c.1, c.2.1]
    exact ⟨g6, g7, g8, g3, g4, g5⟩

/-- The fault of a script that is to be cut. -/
def cf (ms : List (Int × ByteArray)) (n : Int) : Int := if sf ms ≠ 0 then sf ms else if n < 0 ∨ 1000 < n then 1 else if 60 < ob ms ∨ 60 < nb ms then 3 else 0

theorem cf_zero {ms : List (Int × ByteArray)} {n : Int} (h : cf ms n = 0) : sf ms = 0 ∧ 0 ≤ n ∧ n ≤ 1000 ∧ ob ms ≤ 60 ∧ nb ms ≤ 60 := by
  unfold cf at h
  by_cases e1 : sf ms = 0
  · rw [if_neg (fun h => h e1)] at h
    by_cases e2 : n < 0 ∨ 1000 < n
    · rw [if_pos e2] at h; omega
    · rw [if_neg e2] at h
      by_cases e3 : 60 < ob ms ∨ 60 < nb ms
      · rw [if_pos e3] at h; omega
      · exact ⟨e1, by omega, by omega, by omega, by omega⟩
  · rw [if_pos e1] at h; exact absurd h e1

theorem cf_of {ms : List (Int × ByteArray)} {n : Int} (h1 : sf ms = 0) (h2 : 0 ≤ n) (h3 : n ≤ 1000) (h4 : ob ms ≤ 60) (h5 : nb ms ≤ 60) : cf ms n = 0 := by
  unfold cf
  rw [if_neg (fun h => h h1), if_neg (by omega), if_neg (by omega)]

theorem ob_take (ms : List (Int × ByteArray)) (k : Nat) : ob (ms.take k) ≤ ob ms := by
  conv => rhs; rw [← List.take_append_drop k ms, ob_append]
  omega
theorem nb_take (ms : List (Int × ByteArray)) (k : Nat) : nb (ms.take k) ≤ nb ms := by
  conv => rhs; rw [← List.take_append_drop k ms, nb_append]
  omega

theorem sf_part {ms : List (Int × ByteArray)} (h : sf ms = 0) (a b : Nat) : sf ((ms.take b).drop a) = 0 := by
  obtain ⟨h1, h2⟩ := sf_zero h
  refine sf_of (by rw [List.length_drop, List.length_take]; omega) fun m hm => h2 m (List.mem_of_mem_take (List.mem_of_mem_drop hm))

/-- Pieces of a script have no fault. -/
theorem hf_cut {ms : List (Int × ByteArray)} (h1 : sf ms = 0) (h4 : ob ms ≤ 60) (h5 : nb ms ≤ 60) (n : Nat) : hf (cut ms n) = (0, 0) := by
  obtain ⟨c1, c2, c3, c4⟩ := cut_holds ms (fun m hm => ((sf_zero h1).2 m hm).1) n
  refine hf_ok (by omega) fun j hj => hAt_of ?_ (c2 j hj)
  have hm : (cut ms n).getD j (0, 0, []) ∈ cut ms n := by
    have e : (cut ms n).getD j (0, 0, []) = (cut ms n)[j] := by simp [hj]
    rw [e]; exact List.getElem_mem _
  obtain ⟨a, b, hab, hb, e, hc⟩ := c1 _ hm
  rw [e] at hc ⊢
  have hsp := tk_drop ms a b (by omega)
  have eO : ob (ms.take b) = ob (ms.take a) + ob ((ms.take b).drop a) := by conv => lhs; rw [hsp, ob_append]
  have eN : nb (ms.take b) = nb (ms.take a) + nb ((ms.take b).drop a) := by conv => lhs; rw [hsp, nb_append]
  have := ob_take ms b
  have := nb_take ms b
  refine hOne_of (sf_part h1 a b) hc ?_
  show 0 ≤ (ob (ms.take a) : Int) ∧ (ob (ms.take a) : Int) ≤ 60 ∧ (ob (ms.take a) : Int) + ob ((ms.take b).drop a) ≤ 60 ∧ 0 ≤ (nb (ms.take a) : Int) ∧ (nb (ms.take a) : Int) ≤ 60 ∧ (nb (ms.take a) : Int) + nb ((ms.take b).drop a) ≤ 60
  omega

theorem sh_small {l : List (Int × Int × List (Int × ByteArray))} (h : ∀ x ∈ l, sf x.2.2 = 0) : - (120 * l.length : Int) ≤ sh l ∧ sh l ≤ 120 * l.length := by
  induction l with
  | nil => simp [sh]
  | cons x r ih =>
    have := ih fun y hy => h y (List.mem_cons_of_mem _ hy)
    have h1 := (sf_zero (h x (by simp))).1
    have h2 := ob_le x.2.2
    have h3 := nb_le x.2.2
    rw [sh, List.length_cons]
    omega

end Go.Proofs.YtfmhapajdnmhoafDoor
