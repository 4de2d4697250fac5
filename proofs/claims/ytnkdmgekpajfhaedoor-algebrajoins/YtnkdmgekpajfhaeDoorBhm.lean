/-
  Plain mathematics: two patches, one behind the other or both to the same tree: the fault, the trees.
-/
import Derived.Test.YtnkdmgekpajfhaeDoorXd
import Derived.Test.YtnkdmgekpajfhaeDoorXw
namespace Go.Proofs.YtnkdmgekpajfhaeDoor
open Go.RowKit Dist

/-- The tree that the second patch is done to; the fault; both trees. -/
def bhT (t : List Fl) (p : List Ch) (ap : Bool) : List Fl := if ap = true then t else (apF t p).1
def bhF (t : List Fl) (p q : List Ch) (ap : Bool) (n : Int) : Int :=
  if (apF t p).2.2 ≠ 0 then (apF t p).2.2 else if (apF (bhT t p ap) q).2.2 ≠ 0 then (apF (bhT t p ap) q).2.2 else if n < 0 ∨ 1000 < n then 1 else 0
def bhB (t : List Fl) (p q : List Ch) (ap : Bool) (n : Int) : List Fl := if bhF t p q ap n = 0 then (apF t p).1 else []
def bhC (t : List Fl) (p q : List Ch) (ap : Bool) (n : Int) : List Fl := if bhF t p q ap n = 0 then (apF (bhT t p ap) q).1 else []

theorem bhF_one {t : List Fl} {p q : List Ch} {ap : Bool} {n : Int} (h : (apF t p).2.2 ≠ 0) : bhF t p q ap n = (apF t p).2.2 := by unfold bhF; rw [if_pos h]
theorem bhF_two {t : List Fl} {p q : List Ch} {ap : Bool} {n : Int} (h0 : (apF t p).2.2 = 0) (h : (apF (bhT t p ap) q).2.2 ≠ 0) : bhF t p q ap n = (apF (bhT t p ap) q).2.2 := by unfold bhF; rw [if_neg (fun e => e h0), if_pos h]
theorem bhF_num {t : List Fl} {p q : List Ch} {ap : Bool} {n : Int} (h0 : (apF t p).2.2 = 0) (h1 : (apF (bhT t p ap) q).2.2 = 0) : bhF t p q ap n = if n < 0 ∨ 1000 < n then 1 else 0 := by unfold bhF; rw [if_neg (fun e => e h0), if_neg (fun e => e h1)]
theorem bh_bad {t : List Fl} {p q : List Ch} {ap : Bool} {n : Int} (h : bhF t p q ap n ≠ 0) : bhB t p q ap n = [] ∧ bhC t p q ap n = [] := by unfold bhB bhC; rw [if_neg h, if_neg h]; exact ⟨rfl, rfl⟩
theorem bh_ok {t : List Fl} {p q : List Ch} {ap : Bool} {n : Int} (h : bhF t p q ap n = 0) : bhB t p q ap n = (apF t p).1 ∧ bhC t p q ap n = (apF (bhT t p ap) q).1 := by unfold bhB bhC; rw [if_pos h, if_pos h]; exact ⟨rfl, rfl⟩

theorem apF_tree {t : List Fl} {p : List Ch} (h : (apF t p).2.2 = 0) : (tf (apF t p).1).2 = 0 := by
  obtain ⟨h1, h2, h3, h4, h5⟩ := apF_zero h
  rw [h5]
  show (tf (apR t p 0).1).2 = 0
  rw [apR_tree h1 h2 h3 h4]

theorem tf_bounds {T : List Fl} (h : (tf T).2 = 0) : T.length ≤ maxLen ∧ (∀ x ∈ T, x.2.length ≤ maxLen) ∧ ∀ x ∈ T, ∀ s ∈ x.2, s.size ≤ maxLen := by
  obtain ⟨h1, _, h3⟩ := tf_zero h
  refine ⟨by unfold maxLen; omega, fun x hx => ?_, fun x hx s hs => ?_⟩
  · have := lsf_len (fOne_zero (h3 x hx)).2
    unfold maxLen; omega
  · have := (lf_zero ((lsf_zero (fOne_zero (h3 x hx)).2).2 s.data.toList (List.mem_map.2 ⟨s, hs, rfl⟩))).2
    rw [Lib.size_eq]; unfold maxLen; omega

/-- The fault of both done; the trees. -/
def dbF (t : List Fl) (p q : List Ch) (ap : Bool) : Int := if (apF t p).2.2 ≠ 0 then (apF t p).2.2 else (apF (bhT t p ap) q).2.2
def dbO (t : List Fl) (p q : List Ch) (ap : Bool) : List Fl := if dbF t p q ap = 0 then (apF t p).1 else []
def dbT (t : List Fl) (p q : List Ch) (ap : Bool) : List Fl := if dbF t p q ap = 0 then (apF (bhT t p ap) q).1 else []
theorem dbF_one {t : List Fl} {p q : List Ch} {ap : Bool} (h : (apF t p).2.2 ≠ 0) : dbF t p q ap = (apF t p).2.2 := by unfold dbF; rw [if_pos h]
theorem dbF_two {t : List Fl} {p q : List Ch} {ap : Bool} (h : (apF t p).2.2 = 0) : dbF t p q ap = (apF (bhT t p ap) q).2.2 := by unfold dbF; rw [if_neg (fun e => e h)]
theorem db_bad {t : List Fl} {p q : List Ch} {ap : Bool} (h : dbF t p q ap ≠ 0) : dbO t p q ap = [] ∧ dbT t p q ap = [] := by unfold dbO dbT; rw [if_neg h, if_neg h]; exact ⟨rfl, rfl⟩
theorem db_ok {t : List Fl} {p q : List Ch} {ap : Bool} (h : dbF t p q ap = 0) : dbO t p q ap = (apF t p).1 ∧ dbT t p q ap = (apF (bhT t p ap) q).1 := by unfold dbO dbT; rw [if_pos h, if_pos h]; exact ⟨rfl, rfl⟩
theorem db_parts {t : List Fl} {p q : List Ch} {ap : Bool} (h : dbF t p q ap = 0) : (apF t p).2.2 = 0 ∧ (apF (bhT t p ap) q).2.2 = 0 := by
  by_cases e : (apF t p).2.2 = 0
  · exact ⟨e, by rw [← dbF_two e]; exact h⟩
  · rw [dbF_one e] at h; exact absurd h e
theorem bhF_db {t : List Fl} {p q : List Ch} {ap : Bool} {n : Int} : bhF t p q ap n = if dbF t p q ap ≠ 0 then dbF t p q ap else if n < 0 ∨ 1000 < n then 1 else 0 := by
  by_cases e : (apF t p).2.2 = 0
  · rw [dbF_two e]
    by_cases e2 : (apF (bhT t p ap) q).2.2 = 0
    · rw [bhF_num e e2, e2, if_neg (show ¬ ((0 : Int) ≠ 0) by decide)]
    · rw [bhF_two e e2, if_pos e2]
  · rw [bhF_one e, dbF_one e, if_pos e]

/-- What leads from the one tree to the other; its fault. -/
def jnL (t : List Fl) (p q : List Ch) (ap : Bool) (n : Int) : List Ch := if bhF t p q ap n = 0 then dfP (if ap = true then (apF t p).1 else t) (apF (bhT t p ap) q).1 n.toNat else []

end Go.Proofs.YtnkdmgekpajfhaeDoor
