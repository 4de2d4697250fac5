/-
  Plain mathematics: in how many lines texts differ; the square of costs of two series; which is which.
-/
import Derived.Test.YtfmhapajdnmhoaeDoorMch

namespace Go.Proofs.YtfmhapajdnmhoaeDoor.Dist

/-- Does a line differ; in how many lines texts do. -/
def dif1 (a b : List ByteArray) (i : Nat) : Nat := if i < a.length ∧ i < b.length ∧ a.getD i ByteArray.empty = b.getD i ByteArray.empty then 0 else 1
def difT (a b : List ByteArray) : Nat → Nat
  | 0 => 0
  | i + 1 => difT a b i + dif1 a b i
def dif (a b : List ByteArray) : Nat := difT a b (max a.length b.length)

theorem difT_le (a b : List ByteArray) : ∀ i, difT a b i ≤ i
  | 0 => Nat.le_refl _
  | i + 1 => by
    have := difT_le a b i
    have : dif1 a b i ≤ 1 := by unfold dif1; split <;> omega
    rw [difT]; omega

theorem dif_self (a : List ByteArray) : dif a a = 0 := by
  have : ∀ i, i ≤ a.length → difT a a i = 0 := by
    intro i
    induction i with
    | zero => intro _; rfl
    | succ i ih => intro h; rw [difT, ih (by omega)]; unfold dif1; rw [if_pos ⟨by omega, by omega, rfl⟩]
  unfold dif
  rw [Nat.max_self]
  exact this _ (Nat.le_refl _)

theorem dif1_comm (a b : List ByteArray) (i : Nat) : dif1 a b i = dif1 b a i := by
  unfold dif1
  by_cases h : i < a.length ∧ i < b.length ∧ a.getD i ByteArray.empty = b.getD i ByteArray.empty
  · rw [if_pos h, if_pos ⟨h.2.1, h.1, h.2.2.symm⟩]
  · rw [if_neg h, if_neg fun x => h ⟨x.2.1, x.1, x.2.2.symm⟩]

theorem dif_comm (a b : List ByteArray) : dif a b = dif b a := by
  have : ∀ i, difT a b i = difT b a i := by
    intro i
    induction i with
    | zero => rfl
    | succ i ih => rw [difT, difT, ih, dif1_comm]
  unfold dif
  rw [Nat.max_comm, this]

/-- The cost of a pair of places; the square. -/
def rcs (np nq : Nat) (ts : List (List ByteArray)) (i k : Nat) : Int :=
  if i < np ∧ k < nq then (dif (ts.getD i []) (ts.getD (np + k) []) : Int)
  else if i < np then (((ts.getD i []).length + 1) / 2 + 1 : Nat)
  else if k < nq then (((ts.getD (np + k) []).length + 1) / 2 + 1 : Nat)
  else 0
def rmx (np nq : Nat) (ts : List (List ByteArray)) : List (List Int) := (List.range (np + nq)).map fun i => (List.range (np + nq)).map fun k => rcs np nq ts i k

theorem cAtM_rmx {np nq : Nat} {ts : List (List ByteArray)} (i k : Nat) : cAtM (rmx np nq ts) i k = if i < np + nq ∧ k < np + nq then rcs np nq ts i k else 0 := by
  unfold cAtM rmx
  by_cases hi : i < np + nq
  · by_cases hk : k < np + nq
    · rw [if_pos ⟨hi, hk⟩]; simp [hi, hk]
    · rw [if_neg fun x => hk x.2]; simp [hi, hk]
  · rw [if_neg fun x => hi x.1]; simp [hi]

theorem rcs_nonneg (np nq : Nat) (ts : List (List ByteArray)) (i k : Nat) : 0 ≤ rcs np nq ts i k := by
  unfold rcs
  split
  · omega
  · split
    · omega
    · split <;> omega

theorem rmx_nonneg (np nq : Nat) (ts : List (List ByteArray)) (i k : Nat) : 0 ≤ cAtM (rmx np nq ts) i k := by
  rw [cAtM_rmx]
  split
  · exact rcs_nonneg _ _ _ _ _
  · omega

/-- Of a series with itself each place costs nothing. -/
theorem rmx_diag {n : Nat} {ts : List (List ByteArray)} (h : ∀ i, i < n → ts.getD i [] = ts.getD (n + i) []) (i : Nat) : cAtM (rmx n n ts) i i = 0 := by
  rw [cAtM_rmx]
  by_cases hi : i < n
  · rw [if_pos ⟨by omega, by omega⟩]
    unfold rcs
    rw [if_pos ⟨hi, hi⟩, h i hi, dif_self]; rfl
  · by_cases hj : i < n + n
    · rw [if_pos ⟨hj, hj⟩]
      unfold rcs
      rw [if_neg fun x => hi x.1, if_neg hi, if_neg hi]
    · rw [if_neg fun x => hj x.1]

/-- Which is which: by the first; those alone there last. -/
def rgo (np nq : Nat) (m : List Nat) : List (Int × Int) :=
  ((List.range np).map fun (i : Nat) => ((i : Int), if m.getD i 0 < nq then (m.getD i 0 : Int) else -1)) ++ (List.range nq).flatMap fun (k : Nat) => ((List.range' np nq).filter fun (i : Nat) => decide (m.getD i 0 = k)).map fun _ => ((-1 : Int), (k : Int))

end Go.Proofs.YtfmhapajdnmhoaeDoor.Dist
