/-
  Lines read as hunks as far as they go, as mathematics.
-/
import Derived.Test.YtfmhapajdnmhoafDoorXu
namespace Go.Proofs.YtfmhapajdnmhoafDoor
open Go Dist

/-! ### Hunks read as far as they go -/
def rdm : Us → List (List UInt8) → Nat → Nat × Us
  | st, [], i => (i, st)
  | st, s :: r, i => match ust st s with
    | none => (i, st)
    | some st' => rdm st' r (i + 1)

theorem rdm_app {a b : List (List UInt8)} {st st' : Us} {i j : Nat} (h : rdl st a i = (j, some st')) : rdm st (a ++ b) i = rdm st' b j := by
  induction a generalizing st i with
  | nil =>
    simp only [rdl, Prod.mk.injEq, Option.some.injEq] at h
    obtain ⟨rfl, rfl⟩ := h
    rfl
  | cons x r ih =>
    rw [rdl] at h
    rw [List.cons_append, rdm]
    cases hx : ust st x with
    | none => rw [hx] at h; simp at h
    | some st2 => rw [hx] at h; exact ih h

theorem Run.stop {ls : List (List UInt8)} {k : Nat} {st : Us} (h : Run ls k st) (hs : k < ls.length → ust st (ls.getD k []) = none) : rdm ([], 0, 0) ls 0 = (k, st) := by
  have e := rdm_app (b := ls.drop k) h.2
  rw [List.take_append_drop] at e
  rw [e]
  by_cases hk : k < ls.length
  · have hd : ls.drop k = ls.getD k [] :: ls.drop (k + 1) := by
      have e2 : ls.getD k [] = ls[k] := by simp [hk]
      rw [e2, List.drop_eq_getElem_cons hk]
    rw [hd, rdm, hs hk]
  · rw [List.drop_eq_nil_of_le (by omega), rdm]

theorem rdm_of (ls : List (List UInt8)) (st : Us) (i : Nat) : ∃ n, n ≤ ls.length ∧ (rdm st ls i).1 = i + n ∧ rdl st (ls.take n) i = (i + n, some (rdm st ls i).2) := by
  induction ls generalizing st i with
  | nil => exact ⟨0, Nat.le_refl _, rfl, rfl⟩
  | cons x r ih =>
    rw [rdm]
    cases hx : ust st x with
    | none => exact ⟨0, Nat.zero_le _, rfl, rfl⟩
    | some st2 =>
      obtain ⟨n, h1, h2, h3⟩ := ih st2 (i + 1)
      refine ⟨n + 1, by simp; omega, by show (rdm st2 r (i + 1)).1 = _; rw [h2]; omega, ?_⟩
      rw [List.take_succ_cons, rdl, hx]
      show rdl st2 (r.take n) (i + 1) = (i + (n + 1), some (rdm st2 r (i + 1)).2)
      rw [h3, show i + 1 + n = i + (n + 1) by omega]

theorem rdm_run (ls : List (List UInt8)) : Run ls (rdm ([], 0, 0) ls 0).1 (rdm ([], 0, 0) ls 0).2 := by
  obtain ⟨n, h1, h2, h3⟩ := rdm_of ls ([], 0, 0) 0
  rw [Nat.zero_add] at h2 h3
  rw [h2]
  exact ⟨h1, h3⟩

end Go.Proofs.YtfmhapajdnmhoafDoor
