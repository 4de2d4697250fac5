/-
  Plain mathematics: sets of columns as numbers; the least costs of each; the best choice row by row; which choices are one.
-/
import Derived.Test.YtfmhapajdnmhoaeDoorMch

namespace Go.Proofs.YtfmhapajdnmhoaeDoor.Dist

/-- A set without one. -/
def wo (s c : Nat) : Nat := s &&& (s ^^^ 2 ^ c)
theorem wo_bit (s c j : Nat) : (wo s c).testBit j = (s.testBit j && decide (c ≠ j)) := by
  unfold wo
  rw [Nat.testBit_and, Nat.testBit_xor, Nat.testBit_two_pow]
  cases s.testBit j <;> by_cases e : c = j <;> simp [e]
theorem wo_le (s c : Nat) : wo s c ≤ s := Nat.and_le_left
theorem wo_lt {s c : Nat} (h : s.testBit c = true) : wo s c < s := by
  refine Nat.lt_of_le_of_ne (wo_le s c) fun e => ?_
  have := wo_bit s c c
  rw [e, h] at this
  simp at this

/-- The columns that are used. -/
def usS (n s : Nat) : List Bool := (List.range n).map fun k => !s.testBit k
theorem usS_len (n s : Nat) : (usS n s).length = n := by simp [usS]
theorem usS_at {n s k : Nat} (h : k < n) : (usS n s).getD k false = !s.testBit k := by simp [usS, h]
theorem usS_wo {n s k : Nat} : usS n (wo s k) = (usS n s).set k true := by
  refine List.ext_getElem (by simp [usS]) fun i h1 h2 => ?_
  have hi : i < n := by simpa [usS] using h1
  rw [List.getElem_set]
  by_cases e : k = i
  · subst e
    simp [usS, wo_bit]
  · simp [usS, wo_bit, e]
theorem usS_all (n : Nat) : usS n (2 ^ n - 1) = List.replicate n false := by
  refine List.ext_getElem (by simp [usS]) fun i h1 h2 => ?_
  have hi : i < n := by simpa [usS] using h1
  simp [usS, Nat.testBit_two_pow_sub_one, hi]

/-- How many are left. -/
def szS (n s : Nat) : Nat := lefts (usS n s)
theorem szS_wo {n s k : Nat} (hk : k < n) (h : s.testBit k = true) : szS n (wo s k) + 1 = szS n s := by
  unfold szS
  rw [usS_wo]
  exact lefts_set (by rw [usS_len]; exact hk) (by rw [usS_at hk, h]; rfl)
theorem szS_all (n : Nat) : szS n (2 ^ n - 1) = n := by
  unfold szS lefts
  rw [usS_all]
  simp
theorem szS_le (n s : Nat) : szS n s ≤ n := by
  have h := List.count_le_length (a := false) (l := usS n s)
  rw [usS_len] at h
  exact h
theorem szS_one {n s k : Nat} (hk : k < n) (h : s.testBit k = true) : 0 < szS n s := by
  have := szS_wo hk h
  omega
theorem szS_zero (n : Nat) : szS n 0 = 0 := by
  unfold szS lefts usS
  rw [List.count_eq_zero]
  intro h
  obtain ⟨_, _, h⟩ := List.mem_map.1 h
  simp at h
theorem bit_lt {n s k : Nat} (hs : s < 2 ^ n) (h : s.testBit k = true) : k < n := by
  refine Nat.lt_of_not_le fun hk => ?_
  have := Nat.testBit_lt_two_pow (Nat.lt_of_lt_of_le hs (Nat.pow_le_pow_right (by decide) hk))
  rw [h] at this
  cases this
theorem szS_iff {n s : Nat} (hs : s < 2 ^ n) : szS n s = 0 ↔ s = 0 := by
  constructor
  · intro h
    refine Nat.eq_of_testBit_eq fun k => ?_
    rw [Nat.zero_testBit]
    cases e : s.testBit k
    · rfl
    · have := szS_one (bit_lt hs e) e
      omega
  · rintro rfl; exact szS_zero n
theorem wo_pow {n s k : Nat} (hs : s < 2 ^ n) : wo s k < 2 ^ n := Nat.lt_of_le_of_lt (wo_le s k) hs

/-- The best choice of the last rows of the columns that are left; what it costs. -/
def bsS (c : List (List Int)) (n s : Nat) : Int × List Nat := bst c n (szS n s) (n - szS n s) (usS n s)

theorem bsS_best {c : List (List Int)} (hc : ∀ r k, 0 ≤ cAtM c r k) (n s : Nat) : isB c n (szS n s) (n - szS n s) (usS n s) (bsS c n s).2 ∧ (bsS c n s).1 = cst c (n - szS n s) (bsS c n s).2 :=
  bst_best hc _ _ _ (usS_len n s) rfl
theorem bsS_nonneg {c : List (List Int)} (hc : ∀ r k, 0 ≤ cAtM c r k) (n s : Nat) : 0 ≤ (bsS c n s).1 := by
  rw [(bsS_best hc n s).2]
  exact cst_nonneg hc _ _
theorem bsS_zero (c : List (List Int)) (n : Nat) : bsS c n 0 = (0, []) := by
  unfold bsS
  rw [szS_zero]; rfl

/-- One column of the program's choice: (the column, what it costs). -/
def ch1 (row : List Int) (s : Nat) (g : Nat → Int) (a : Int × Int) (k : Nat) : Int × Int :=
  if s.testBit k = true then (if a.1 = -1 ∨ row.getD k 0 + g k < a.2 then ((k : Int), row.getD k 0 + g k) else a) else a
def chs (row : List Int) (s : Nat) (g : Nat → Int) (n : Nat) : Int × Int := (List.range n).foldl (ch1 row s g) (-1, 0)
theorem chs_zero (row : List Int) (s : Nat) (g : Nat → Int) : chs row s g 0 = (-1, 0) := rfl
theorem chs_succ (row : List Int) (s : Nat) (g : Nat → Int) (k : Nat) : chs row s g (k + 1) = ch1 row s g (chs row s g k) k := by
  unfold chs
  rw [List.range_succ, List.foldl_append, List.foldl_cons, List.foldl_nil]

theorem chs_bst {c : List (List Int)} (hc : ∀ r k, 0 ≤ cAtM c r k) {n s r : Nat} {g : Nat → Int} (hr : r + szS n s = n) (h0 : 0 < szS n s) (hg : ∀ k, k < n → s.testBit k = true → g k = (bsS c n (wo s k)).1) :
    ∃ k, k < n ∧ s.testBit k = true ∧ (bsS c n s).2 = k :: (bsS c n (wo s k)).2 ∧ chs (c.getD r []) s g n = ((k : Int), (bsS c n s).1) := by
  obtain ⟨f, hf⟩ : ∃ f, szS n s = f + 1 := ⟨szS n s - 1, by omega⟩
  have e : bsS c n s = (List.range n).foldl (pickM c r (usS n s) fun k => bst c n f (r + 1) ((usS n s).set k true)) (-1, []) := by
    unfold bsS
    rw [hf, show n - (f + 1) = r by omega]; rfl
  have hb : ∀ k, k < n → s.testBit k = true → bst c n f (r + 1) ((usS n s).set k true) = bsS c n (wo s k) := by
    intro k hk ht
    have := szS_wo hk ht
    unfold bsS
    rw [usS_wo, show szS n (wo s k) = f by omega, show n - f = r + 1 by omega]
  have key : ∀ i, i ≤ n → let a := (List.range i).foldl (pickM c r (usS n s) fun k => bst c n f (r + 1) ((usS n s).set k true)) (-1, [])
      let b := chs (c.getD r []) s g i
      (a = (-1, []) ∧ b = (-1, 0)) ∨ (∃ k, k < n ∧ s.testBit k = true ∧ 0 ≤ a.1 ∧ a.2 = k :: (bsS c n (wo s k)).2 ∧ b = ((k : Int), a.1)) := by
    intro i
    induction i with
    | zero => intro _; exact .inl ⟨rfl, rfl⟩
    | succ i ih =>
      intro hi
      have ih := ih (by omega)
      simp only [] at ih ⊢
      rw [chs_succ, List.range_succ, List.foldl_append, List.foldl_cons, List.foldl_nil]
      generalize (List.range i).foldl (pickM c r (usS n s) fun k => bst c n f (r + 1) ((usS n s).set k true)) (-1, []) = a at ih ⊢
      generalize chs (c.getD r []) s g i = b at ih ⊢
      by_cases ht : s.testBit i = true
      · rw [pickM_new (by rw [usS_at (by omega), ht]; decide) (hb i (by omega) ht)]
        unfold ch1
        rw [if_pos ht, hg i (by omega) ht]
        have hn := bsS_nonneg hc n (wo s i)
        have hci : 0 ≤ cAtM c r i := hc r i
        have hcc : (c.getD r []).getD i 0 = cAtM c r i := rfl
        rw [hcc]
        rcases ih with ⟨rfl, rfl⟩ | ⟨k, hk, hkt, h1, h2, rfl⟩
        · rw [if_pos (.inl (by decide)), if_pos (.inl rfl)]
          exact .inr ⟨i, by omega, ht, by simp only []; omega, rfl, by rw [Int.add_comm]⟩
        · by_cases hlt : (bsS c n (wo s i)).1 + cAtM c r i < a.1
          · rw [if_pos (.inr hlt), if_pos (.inr (by simp only []; omega))]
            exact .inr ⟨i, by omega, ht, by simp only []; omega, rfl, by rw [Int.add_comm]⟩
          · rw [if_neg (by rintro (h | h) <;> omega), if_neg (by rintro (h | h) <;> simp only [] at h <;> omega)]
            exact .inr ⟨k, hk, hkt, h1, h2, rfl⟩
      · have ht : s.testBit i = false := by simpa using ht
        rw [pickM_used (by rw [usS_at (by omega), ht]; rfl)]
        unfold ch1
        rw [if_neg (by rw [ht]; decide)]
        exact ih
  have hk := key n (Nat.le_refl _)
  simp only [] at hk
  rw [← e] at hk
  rcases hk with ⟨h1, _⟩ | ⟨k, hk, ht, h1, h2, h3⟩
  · exfalso
    have := (bsS_best hc n s).1.1.1
    rw [h1, hf] at this
    simp at this
  · exact ⟨k, hk, ht, h2, h3⟩

/-- All columns left: the document's own choice. -/
theorem bsS_all (c : List (List Int)) (n : Nat) : bsS c n (2 ^ n - 1) = bst c n n 0 (List.replicate n false) := by
  unfold bsS
  rw [szS_all, Nat.sub_self, usS_all]

/-- Is it a choice of the columns that are left? -/
def isC : Nat → List Int → Bool
  | s, [] => s == 0
  | s, c :: m => if 0 ≤ c ∧ s.testBit c.toNat = true then isC (wo s c.toNat) m else false
theorem isC_iff {n : Nat} : ∀ {m : List Int} {s : Nat}, s < 2 ^ n → (isC s m = true ↔ (∀ x ∈ m, 0 ≤ x ∧ s.testBit x.toNat = true) ∧ m.Nodup ∧ m.length = szS n s)
  | [], s, hs => by
    rw [isC, beq_iff_eq, ← szS_iff hs]
    constructor
    · intro h; exact ⟨fun x hx => (nomatch hx), List.nodup_nil, by rw [h]; rfl⟩
    · intro h; exact h.2.2.symm
  | c :: m, s, hs => by
    rw [isC]
    by_cases h : 0 ≤ c ∧ s.testBit c.toNat = true
    · rw [if_pos h, isC_iff (m := m) (wo_pow hs), List.nodup_cons, List.length_cons]
      have h1 := szS_wo (bit_lt hs h.2) h.2
      constructor
      · rintro ⟨p1, p2, p3⟩
        refine ⟨fun x hx => ?_, ⟨fun hm => ?_, p2⟩, by omega⟩
        · rcases List.mem_cons.1 hx with rfl | hx
          · exact h
          · have := p1 x hx
            rw [wo_bit] at this
            simp only [Bool.and_eq_true] at this
            exact ⟨this.1, this.2.1⟩
        · have := (p1 c hm).2
          rw [wo_bit] at this
          simp at this
      · rintro ⟨p1, ⟨p2, p3⟩, p4⟩
        refine ⟨fun x hx => ?_, p3, by omega⟩
        obtain ⟨q1, q2⟩ := p1 x (by simp [hx])
        refine ⟨q1, ?_⟩
        rw [wo_bit, q2]
        have : c.toNat ≠ x.toNat := fun e => p2 (by rw [show c = x by omega]; exact hx)
        simp [this]
    · rw [if_neg h]
      constructor
      · intro h; cases h
      · intro p; exact absurd (p.1 c (by simp)) h

/-- A choice: as many as there are columns, each of them one, each once. -/
def okC (n : Nat) (m : List Int) : Prop := m.length = n ∧ (∀ x ∈ m, 0 ≤ x ∧ x < n) ∧ m.Nodup
theorem isC_all {n : Nat} {m : List Int} : isC (2 ^ n - 1) m = true ↔ okC n m := by
  have hp : 0 < 2 ^ n := Nat.pow_pos (by decide)
  rw [isC_iff (n := n) (by omega), szS_all]
  have hb : ∀ x : Int, 0 ≤ x → ((2 ^ n - 1).testBit x.toNat = true ↔ x < n) := by
    intro x hx
    rw [Nat.testBit_two_pow_sub_one, decide_eq_true_eq]
    omega
  constructor
  · rintro ⟨p1, p2, p3⟩
    exact ⟨p3, fun x hx => ⟨(p1 x hx).1, (hb x (p1 x hx).1).1 (p1 x hx).2⟩, p2⟩
  · rintro ⟨p1, p2, p3⟩
    exact ⟨fun x hx => ⟨(p2 x hx).1, (hb x (p2 x hx).1).2 (p2 x hx).2⟩, p3, p1⟩

end Go.Proofs.YtfmhapajdnmhoaeDoor.Dist
