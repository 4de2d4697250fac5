/-
  Lines read as hunks from a place on, as mathematics.
-/
import Derived.Test.YtjgdicghmkfohacGreatDoorUmr

namespace Go.Proofs.YtjgdicghmkfohacGreatDoor
open Go Dist

/-- From one place to another lines can stand there. -/
def RunA (ls : List (List UInt8)) (A k : Nat) (st : Us) : Prop := A ≤ k ∧ k ≤ ls.length ∧ Run (ls.drop A) (k - A) st

theorem RunA.zero (ls : List (List UInt8)) (A : Nat) (h : A ≤ ls.length) : RunA ls A A ([], 0, 0) := ⟨Nat.le_refl _, h, by rw [Nat.sub_self]; exact Run.zero _⟩

theorem getD_from (ls : List (List UInt8)) {A k : Nat} (h : A ≤ k) : (ls.drop A).getD (k - A) [] = ls.getD k [] := by
  simp [List.getElem?_drop, show A + (k - A) = k by omega]

theorem RunA.next {ls : List (List UInt8)} {A k : Nat} {st st' : Us} (h : RunA ls A k st) (hk : k < ls.length) (hs : ust st (ls.getD k []) = some st') : RunA ls A (k + 1) st' := by
  obtain ⟨h1, h2, h3⟩ := h
  refine ⟨by omega, hk, ?_⟩
  rw [show k + 1 - A = k - A + 1 by omega]
  exact h3.next (by rw [List.length_drop]; omega) (by rw [getD_from ls h1]; exact hs)

theorem Okr.up {st : Us} {j k : Nat} (h : Okr st j) (hk : j ≤ k) : Okr st k := by
  obtain ⟨h1, h2, h3, h4, h5⟩ := h
  exact ⟨h1, h2, h3, by omega, fun x hx => by obtain ⟨a1, a2, a3, a4, a5⟩ := h5 x hx; exact ⟨a1, a2, a3, a4, by omega⟩⟩

theorem RunA.ok {ls : List (List UInt8)} {A k : Nat} {st : Us} (h : RunA ls A k st) : Okr st k := h.2.2.ok.up (by omega)

theorem RunA.stop {ls : List (List UInt8)} {A k : Nat} {st : Us} (h : RunA ls A k st) (hs : k < ls.length → ust st (ls.getD k []) = none) : rdm ([], 0, 0) (ls.drop A) 0 = (k - A, st) := by
  obtain ⟨h1, h2, h3⟩ := h
  exact h3.stop fun hk => by rw [List.length_drop] at hk; rw [getD_from ls h1]; exact hs (by omega)

theorem RunA.run {ls : List (List UInt8)} {k : Nat} {st : Us} (h : RunA ls 0 k st) : Run ls k st := by
  have := h.2.2
  rwa [List.drop_zero, Nat.sub_zero] at this

end Go.Proofs.YtjgdicghmkfohacGreatDoor
