/-
  The plain mathematics of texts as lines: a text is cut at a byte in one way only; what is joined is cut so, what is cut is joined so.
-/
import Derived.Lib.Split

namespace Go.Proofs.YtppmpofdhkgjmafDoor
open Go

/-- Each piece and the byte behind it. -/
def joinC (c : UInt8) : List (List UInt8) → List UInt8
  | [] => []
  | x :: t => x ++ c :: joinC c t

theorem joinC_append (c : UInt8) (a b : List (List UInt8)) : joinC c (a ++ b) = joinC c a ++ joinC c b := by
  induction a with
  | nil => rfl
  | cons x t ih => simp [joinC, ih]

theorem joinC_len (c : UInt8) (a : List (List UInt8)) : a.length ≤ (joinC c a).length := by
  induction a with
  | nil => simp [joinC]
  | cons x t ih => simp [joinC]; omega

/-- The pieces that end at the byte, and what is behind the last one. -/
def parts (c : UInt8) : List UInt8 → List (List UInt8) × List UInt8
  | [] => ([], [])
  | b :: r =>
    if b = c then ([] :: (parts c r).1, (parts c r).2)
    else match (parts c r).1 with
      | [] => ([], b :: (parts c r).2)
      | x :: t => ((b :: x) :: t, (parts c r).2)

theorem parts_free (c : UInt8) (a : List UInt8) (h : c ∉ a) : parts c a = ([], a) := by
  induction a with
  | nil => rfl
  | cons b r ih =>
    have hb : ¬ b = c := fun e => h (by simp [e])
    have hr : c ∉ r := fun e => h (by simp [e])
    simp [parts, hb, ih hr]

theorem parts_hit (c : UInt8) (a r : List UInt8) (h : c ∉ a) : parts c (a ++ c :: r) = (a :: (parts c r).1, (parts c r).2) := by
  induction a with
  | nil => simp [parts]
  | cons b t ih =>
    have hb : ¬ b = c := fun e => h (by simp [e])
    have ht : c ∉ t := fun e => h (by simp [e])
    rw [List.cons_append, parts, if_neg hb, ih ht]

theorem cases_at (c : UInt8) (s : List UInt8) : c ∉ s ∨ ∃ a r, c ∉ a ∧ s = a ++ c :: r := by
  induction s with
  | nil => left; simp
  | cons b t ih =>
    by_cases hb : b = c
    · right; exact ⟨[], t, by simp, by simp [hb]⟩
    · rcases ih with h | ⟨a, r, ha, rfl⟩
      · left; simp [h, Ne.symm hb]
      · right; exact ⟨b :: a, r, by simp [ha, Ne.symm hb], rfl⟩

theorem parts_of (c : UInt8) (i : List (List UInt8)) (l : List UInt8) (hi : ∀ x ∈ i, c ∉ x) (hl : c ∉ l) : parts c (joinC c i ++ l) = (i, l) := by
  induction i with
  | nil => simpa [joinC] using parts_free c l hl
  | cons x t ih =>
    have := ih (fun y hy => hi y (by simp [hy]))
    simp only [joinC, List.append_assoc, List.cons_append]
    rw [parts_hit c x _ (hi x (by simp)), this]

theorem parts_spec (c : UInt8) : ∀ (n : Nat) (s : List UInt8), s.length ≤ n → (∀ x ∈ (parts c s).1, c ∉ x) ∧ c ∉ (parts c s).2 ∧ joinC c (parts c s).1 ++ (parts c s).2 = s
  | 0, s, h => by
    have : s = [] := by cases s with
      | nil => rfl
      | cons _ _ => simp at h
    subst this; simp [parts, joinC]
  | n + 1, s, h => by
    rcases cases_at c s with hc | ⟨a, r, ha, rfl⟩
    · rw [parts_free c s hc]; simp [joinC, hc]
    · have ⟨h1, h2, h3⟩ := parts_spec c n r (by simp at h; omega)
      rw [parts_hit c a r ha]
      refine ⟨?_, h2, ?_⟩
      · intro x hx
        rcases List.mem_cons.1 hx with rfl | hx
        · exact ha
        · exact h1 x hx
      · simp [joinC, h3]

theorem parts_free1 (c : UInt8) (s : List UInt8) : ∀ x ∈ (parts c s).1, c ∉ x := (parts_spec c s.length s (Nat.le_refl _)).1
theorem parts_free2 (c : UInt8) (s : List UInt8) : c ∉ (parts c s).2 := (parts_spec c s.length s (Nat.le_refl _)).2.1
theorem parts_join (c : UInt8) (s : List UInt8) : joinC c (parts c s).1 ++ (parts c s).2 = s := (parts_spec c s.length s (Nat.le_refl _)).2.2

/-! ### 'Lib.index' and 'Lib.indexByte' at one byte -/
theorem index_miss (c : UInt8) (s : List UInt8) (h : c ∉ s) : Lib.index s [c] = -1 := by
  induction s with
  | nil => simp [Lib.index]
  | cons b t ih =>
    have hb : ¬ c = b := fun e => h (by simp [e])
    have ht : c ∉ t := fun e => h (by simp [e])
    rw [Lib.index, ih ht]
    simp [List.isPrefixOf, hb]

theorem index_hit (c : UInt8) (a r : List UInt8) (h : c ∉ a) : Lib.index (a ++ c :: r) [c] = a.length := by
  induction a with
  | nil => simp [Lib.index, List.isPrefixOf]
  | cons b t ih =>
    have hb : ¬ c = b := fun e => h (by simp [e])
    have ht : c ∉ t := fun e => h (by simp [e])
    have hne : ¬ ((t.length : Int) = -1) := by omega
    rw [List.cons_append, Lib.index, ih ht]
    simp [List.isPrefixOf, hb, hne]

theorem indexByte_miss (c : UInt8) (s : List UInt8) (h : c ∉ s) : Lib.indexByte s c = -1 := by
  induction s with
  | nil => rfl
  | cons b t ih =>
    have hb : ¬ b = c := fun e => h (by simp [e])
    have ht : c ∉ t := fun e => h (by simp [e])
    simp [Lib.indexByte, ih ht, hb]

theorem indexByte_hit (c : UInt8) (a r : List UInt8) (h : c ∉ a) : Lib.indexByte (a ++ c :: r) c = a.length := by
  induction a with
  | nil => simp [Lib.indexByte]
  | cons b t ih =>
    have hb : ¬ b = c := fun e => h (by simp [e])
    have ht : c ∉ t := fun e => h (by simp [e])
    have hne : ¬ ((t.length : Int) = -1) := by omega
    simp [Lib.indexByte, ih ht, hb, hne]

theorem indexByte_nonneg (c : UInt8) (s : List UInt8) : 0 ≤ Lib.indexByte s c ↔ c ∈ s := by
  rcases cases_at c s with h | ⟨a, r, ha, rfl⟩
  · rw [indexByte_miss c s h]; simp [h]
  · rw [indexByte_hit c a r ha]; simp

/-! ### The faults -/
/-- A line's fault: 2: it has a byte 10; 3: it is too long; else 0. -/
def lf (s : List UInt8) : Int := if 10 ∈ s then 2 else if 80 < s.length then 3 else 0
def lsg : List (List UInt8) → Int
  | [] => 0
  | s :: t => if lf s = 0 then lsg t else lf s
/-- Lines' fault. -/
def lsf (l : List (List UInt8)) : Int := if 60 < l.length then 3 else lsg l

theorem lf_cases (s : List UInt8) : lf s = 0 ∨ lf s = 2 ∨ lf s = 3 := by
  unfold lf; split
  · simp
  · split <;> simp

theorem lsg_cases (l : List (List UInt8)) : lsg l = 0 ∨ lsg l = 2 ∨ lsg l = 3 := by
  induction l with
  | nil => simp [lsg]
  | cons s t ih =>
    unfold lsg; split
    · exact ih
    · exact lf_cases s

theorem lsf_cases (l : List (List UInt8)) : lsf l = 0 ∨ lsf l = 2 ∨ lsf l = 3 := by
  unfold lsf; split
  · simp
  · exact lsg_cases l

theorem lsg_all (l : List (List UInt8)) : lsg l = 0 ↔ ∀ s ∈ l, lf s = 0 := by
  induction l with
  | nil => simp [lsg]
  | cons s t ih =>
    unfold lsg
    by_cases h : lf s = 0
    · rw [if_pos h, ih]; simp [h]
    · rw [if_neg h]; simp [h]

theorem lf_zero {s : List UInt8} (h : lf s = 0) : 10 ∉ s ∧ s.length ≤ 80 := by
  unfold lf at h
  split at h
  · simp at h
  · split at h
    · simp at h
    · exact ⟨by assumption, by omega⟩

theorem lsf_zero {l : List (List UInt8)} (h : lsf l = 0) : l.length ≤ 60 ∧ ∀ s ∈ l, lf s = 0 := by
  unfold lsf at h
  split at h
  · simp at h
  · exact ⟨by omega, (lsg_all l).1 h⟩

theorem lsf_zero_mk {l : List (List UInt8)} (h1 : l.length ≤ 60) (h2 : ∀ s ∈ l, lf s = 0) : lsf l = 0 := by
  unfold lsf
  rw [if_neg (by omega)]; exact (lsg_all l).2 h2

/-- How many bytes lines without a fault have, joined. -/
theorem joinC_small {l : List (List UInt8)} (h2 : ∀ s ∈ l, lf s = 0) : (joinC 10 l).length ≤ 81 * l.length := by
  induction l with
  | nil => simp [joinC]
  | cons s t ih =>
    have := ih (fun x hx => h2 x (by simp [hx]))
    have := (lf_zero (h2 s (by simp))).2
    simp [joinC]; omega

/-- What Split answers: the fault of a text. -/
def splitC (s : List UInt8) : Int := if (parts 10 s).2 = [] then lsf (parts 10 s).1 else 5

/-- Does a text end with byte 10, or is it empty? -/
theorem last_of (s : List UInt8) : (parts 10 s).2 = [] ↔ s = [] ∨ ∃ r, s = r ++ [10] := by
  have hj := parts_join 10 s
  have hf := parts_free2 10 s
  constructor
  · intro h
    rw [h, List.append_nil] at hj
    rcases List.eq_nil_or_concat (parts 10 s).1 with h0 | ⟨i, x, h0⟩
    · left; rw [← hj, h0]; rfl
    · right
      refine ⟨joinC 10 i ++ x, ?_⟩
      rw [List.concat_eq_append] at h0
      rw [← hj, h0, joinC_append]; simp [joinC]
  · rintro (rfl | ⟨r, hr⟩)
    · rfl
    · rcases List.eq_nil_or_concat (parts 10 s).2 with h0 | ⟨i, x, h0⟩
      · exact h0
      · exfalso
        rw [List.concat_eq_append] at h0
        rw [h0, ← List.append_assoc, hr] at hj
        have hx : x = 10 := by
          have := congrArg List.getLast? hj
          simpa using this
        apply hf; rw [h0, hx]; simp

theorem splitC_join {l : List (List UInt8)} (h : lsf l = 0) : parts 10 (joinC 10 l) = (l, []) ∧ splitC (joinC 10 l) = 0 := by
  have ⟨_, h2⟩ := lsf_zero h
  have e := parts_of 10 l [] (fun x hx => (lf_zero (h2 x hx)).1) (by simp)
  rw [List.append_nil] at e
  exact ⟨e, by unfold splitC; rw [e]; simpa using h⟩

theorem join_split {s : List UInt8} (h : splitC s = 0) : joinC 10 (parts 10 s).1 = s ∧ lsf (parts 10 s).1 = 0 := by
  unfold splitC at h
  split at h
  · rename_i h0
    have hj := parts_join 10 s
    rw [h0, List.append_nil] at hj
    exact ⟨hj, h⟩
  · simp at h

/-! ### 'splitK' at one byte -/
theorem splitK_miss (c : UInt8) (k : Nat) (s : List UInt8) (h : c ∉ s) : Lib.splitK [c] 0 k s = [s] := by
  cases k with
  | zero => rfl
  | succ k => rw [Lib.splitK, index_miss c s h]; simp

theorem splitK_hit (c : UInt8) (k : Nat) (a r : List UInt8) (h : c ∉ a) : Lib.splitK [c] 0 (k + 1) (a ++ c :: r) = a :: Lib.splitK [c] 0 k r := by
  rw [Lib.splitK, index_hit c a r h]
  have hne : ¬ ((a.length : Int) = -1) := by omega
  simp [hne]

/-- Cut at most k times: the first k pieces, and the rest. -/
theorem splitK_parts (c : UInt8) : ∀ (k : Nat) (s : List UInt8), ∃ r, Lib.splitK [c] 0 k s = (parts c s).1.take k ++ [r] ∧ ((parts c s).1.length ≤ k → r = (parts c s).2)
  | 0, s => ⟨s, by simp [Lib.splitK], fun h => by
      have h0 : (parts c s).1 = [] := List.length_eq_zero_iff.1 (by omega)
      have := parts_join c s
      rw [h0] at this; simpa [joinC] using this.symm⟩
  | k + 1, s => by
    rcases cases_at c s with h | ⟨a, r, ha, rfl⟩
    · exact ⟨s, by rw [splitK_miss c _ s h, parts_free c s h]; simp, fun _ => by rw [parts_free c s h]⟩
    · obtain ⟨x, hx, hx2⟩ := splitK_parts c k r
      exact ⟨x, by rw [splitK_hit c k a r ha, parts_hit c a r ha, hx]; simp, fun hl => by
        rw [parts_hit c a r ha] at hl ⊢
        exact hx2 (by simpa using hl)⟩

end Go.Proofs.YtppmpofdhkgjmafDoor
