/-
  The plain mathematics of scripts between files: how far it is from a file to another one, as much kept as can be, the first script of the fewest lines.
-/

namespace Go.Proofs.YtnkdmgekpajfhaeDoor.Dist

section
variable {α : Type}

/-- Lines of marks without those of one sign. -/
def lessOf (c : Int) (s : List (Int × α)) : List α := (s.filter fun m => m.1 != c).map (·.2)
/-- How many lines marks take and put. -/
def chg (s : List (Int × α)) : Nat := (s.filter fun m => m.1 != 32).length
/-- A sign. -/
def sgn (c : Int) : Prop := c = 32 ∨ c = 45 ∨ c = 43

theorem lessOf_skip (c : Int) (x : α) (s : List (Int × α)) : lessOf c ((c, x) :: s) = lessOf c s := by
  unfold lessOf; rw [List.filter_cons_of_neg (by simp)]
theorem lessOf_hit (c d : Int) (x : α) (s : List (Int × α)) (h : d ≠ c) : lessOf c ((d, x) :: s) = x :: lessOf c s := by
  unfold lessOf; rw [List.filter_cons_of_pos (by simpa using h)]; rfl
theorem chg_skip (x : α) (s : List (Int × α)) : chg ((32, x) :: s) = chg s := by
  unfold chg; rw [List.filter_cons_of_neg (by simp)]
theorem chg_hit (d : Int) (x : α) (s : List (Int × α)) (h : d ≠ 32) : chg ((d, x) :: s) = chg s + 1 := by
  unfold chg; rw [List.filter_cons_of_pos (by simpa using h)]; rfl
end

section
variable {α : Type} [DecidableEq α]

/-- How far it is from a line more, by how far it is from the lines behind it. -/
def distRow (x : α) (n : Nat) (f : List α → Nat) : List α → Nat
  | [] => n
  | y :: b => if x = y then f b else 1 + min (f (y :: b)) (distRow x n f b)

/-- How far it is from lines to lines. -/
def dist : List α → List α → Nat
  | [] => fun b => b.length
  | x :: a => distRow x (a.length + 1) (dist a)

theorem dist_nil (b : List α) : dist [] b = b.length := rfl
theorem dist_nil' (a : List α) : dist a [] = a.length := by cases a <;> rfl
theorem dist_cons (x y : α) (a b : List α) : dist (x :: a) (y :: b) = if x = y then dist a b else 1 + min (dist a (y :: b)) (dist (x :: a) b) := rfl

theorem dist_comm (a b : List α) : dist a b = dist b a := by
  induction a generalizing b with
  | nil => rw [dist_nil, dist_nil']
  | cons x a iha =>
    induction b with
    | nil => rw [dist_nil, dist_nil']
    | cons y b ihb =>
      rw [dist_cons, dist_cons]
      by_cases h : x = y
      · rw [if_pos h, if_pos h.symm, iha]
      · rw [if_neg h, if_neg (fun e => h e.symm), iha (y :: b), ihb, Nat.min_comm]

/-- One line more: one nearer or one further. -/
theorem dist_lip_n : ∀ (n : Nat) (a b : List α) (x : α), a.length + b.length ≤ n → dist a b ≤ 1 + dist (x :: a) b ∧ dist (x :: a) b ≤ 1 + dist a b := by
  intro n
  induction n with
  | zero =>
    intro a b x h
    have ha : a = [] := List.length_eq_zero_iff.1 (by omega)
    have hb : b = [] := List.length_eq_zero_iff.1 (by omega)
    subst ha hb
    simp [dist_nil']
  | succ n ih =>
    intro a b x h
    cases b with
    | nil => simp [dist_nil']; omega
    | cons y b =>
      simp at h
      have h1 := ih b a y (by omega)
      rw [dist_comm b a, dist_comm (y :: b) a] at h1
      have h2 := ih a b x (by omega)
      rw [dist_cons]
      split <;> omega

theorem dist_lip (a b : List α) (x : α) : dist a b ≤ 1 + dist (x :: a) b ∧ dist (x :: a) b ≤ 1 + dist a b := dist_lip_n _ a b x (Nat.le_refl _)
theorem dist_lip' (a b : List α) (y : α) : dist a b ≤ 1 + dist a (y :: b) ∧ dist a (y :: b) ≤ 1 + dist a b := by
  rw [dist_comm a b, dist_comm a (y :: b)]; exact dist_lip b a y

theorem dist_le (a b : List α) : dist a b ≤ a.length + b.length := by
  induction a with
  | nil => rw [dist_nil]; simp
  | cons x a ih => have := (dist_lip a b x).2; simp; omega

theorem dist_big (a b : List α) : b.length ≤ a.length + dist a b := by
  induction a with
  | nil => rw [dist_nil]; simp
  | cons x a ih => have := (dist_lip a b x).1; simp; omega

theorem dist_parity (a b : List α) : dist a b % 2 = (a.length + b.length) % 2 := by
  induction a generalizing b with
  | nil => rw [dist_nil]; simp
  | cons x a iha =>
    induction b with
    | nil => rw [dist_nil']; simp
    | cons y b ihb =>
      rw [dist_cons]
      split
      · rw [iha]; simp; omega
      · have := iha (y :: b)
        simp at this ihb ⊢
        omega

theorem dist_zero (a b : List α) : dist a b = 0 ↔ a = b := by
  induction a generalizing b with
  | nil => rw [dist_nil]; cases b <;> simp
  | cons x a iha =>
    cases b with
    | nil => rw [dist_nil']; simp
    | cons y b =>
      rw [dist_cons]
      by_cases h : x = y
      · rw [if_pos h, iha, h]; simp
      · rw [if_neg h]; simp [h]

/-- No nearer by a third. -/
theorem dist_tri_n : ∀ (k : Nat) (a b c : List α), a.length + b.length + c.length ≤ k → dist a c ≤ dist a b + dist b c := by
  intro k
  induction k with
  | zero =>
    intro a b c hk
    have ha : a = [] := List.length_eq_zero_iff.1 (by omega)
    have hc : c = [] := List.length_eq_zero_iff.1 (by omega)
    subst ha hc
    rw [dist_nil]; simp
  | succ k ih =>
    intro a b c hk
    cases a with
    | nil => rw [dist_nil, dist_nil]; exact dist_big b c
    | cons x a =>
      cases c with
      | nil =>
        rw [dist_nil', dist_nil']
        have h := dist_big b (x :: a)
        rw [dist_comm b (x :: a)] at h
        omega
      | cons z c =>
        cases b with
        | nil => rw [dist_nil', dist_nil]; exact dist_le _ _
        | cons y b =>
          simp only [List.length_cons] at hk
          have t1 := ih a b c (by omega)
          have t2 := ih a b (z :: c) (by simp; omega)
          have t3 := ih (x :: a) (y :: b) c (by simp; omega)
          have t4 := ih a (y :: b) (z :: c) (by simp; omega)
          have t5 := ih (x :: a) b c (by simp; omega)
          have t6 := ih (x :: a) b (z :: c) (by simp; omega)
          have l1 := (dist_lip a (z :: c) x).2
          have l2 := (dist_lip' (x :: a) c z).2
          have e1 := dist_cons x y a b
          have e2 := dist_cons y z b c
          have e3 := dist_cons x z a c
          by_cases h1 : x = y
          · rw [if_pos h1] at e1
            by_cases h2 : y = z
            · rw [if_pos h2] at e2
              rw [if_pos (h1.trans h2)] at e3
              omega
            · rw [if_neg h2] at e2
              omega
          · rw [if_neg h1] at e1
            by_cases h2 : y = z
            · rw [if_pos h2] at e2
              omega
            · rw [if_neg h2] at e2
              omega

theorem dist_tri (a b c : List α) : dist a c ≤ dist a b + dist b c := dist_tri_n _ a b c (Nat.le_refl _)

/-- As much kept as can be, of a line more. -/
def comRow (x : α) (f : List α → Nat) : List α → Nat
  | [] => 0
  | y :: b => if x = y then max (f b + 1) (max (f (y :: b)) (comRow x f b)) else max (f (y :: b)) (comRow x f b)

/-- As much kept as can be: the document's table. -/
def com : List α → List α → Nat
  | [] => fun _ => 0
  | x :: a => comRow x (com a)

theorem com_nil (b : List α) : com [] b = 0 := rfl
theorem com_nil' (a : List α) : com a [] = 0 := by cases a <;> rfl
theorem com_cons (x y : α) (a b : List α) : com (x :: a) (y :: b) = if x = y then max (com a b + 1) (max (com a (y :: b)) (com (x :: a) b)) else max (com a (y :: b)) (com (x :: a) b) := rfl

theorem com_dist (a b : List α) : 2 * com a b + dist a b = a.length + b.length := by
  induction a generalizing b with
  | nil => rw [dist_nil, com_nil]; simp
  | cons x a iha =>
    induction b with
    | nil => rw [dist_nil', com_nil']; simp
    | cons y b ihb =>
      rw [dist_cons, com_cons]
      have h1 := iha (y :: b)
      have h2 := iha b
      have l1 := dist_lip a b x
      have l2 := dist_lip' a b y
      simp at h1 h2 ihb ⊢
      split <;> omega

theorem com_keep (x : α) (a b : List α) : com a b + 1 = com (x :: a) (x :: b) := by
  have h1 := com_dist (x :: a) (x :: b)
  have h2 := com_dist a b
  rw [dist_cons, if_pos rfl] at h1
  simp at h1
  omega

theorem com_take (x y : α) (a b : List α) (h : x ≠ y) : com a (y :: b) = com (x :: a) (y :: b) ↔ dist a (y :: b) ≤ dist (x :: a) b := by
  have h1 := com_dist (x :: a) (y :: b)
  have h2 := com_dist a (y :: b)
  rw [dist_cons, if_neg h] at h1
  simp at h1 h2
  omega

/-- The first script of the fewest lines, from a line more. -/
def scrRow (x : α) (a : List α) (f : List α → List (Int × α)) : List α → List (Int × α)
  | [] => (x :: a).map fun x => (45, x)
  | y :: b => if x = y then (32, x) :: f b else if dist a (y :: b) ≤ dist (x :: a) b then (45, x) :: f (y :: b) else (43, y) :: scrRow x a f b

/-- The first of the scripts that have the fewest lines: 32 keep, 45 take, 43 put. -/
def scr : List α → List α → List (Int × α)
  | [] => fun b => b.map fun y => (43, y)
  | x :: a => scrRow x a (scr a)

theorem scr_nil (b : List α) : scr [] b = b.map fun y => (43, y) := rfl
theorem scr_nil' (a : List α) : scr a [] = a.map fun x => (45, x) := by cases a <;> rfl
theorem scr_cons (x y : α) (a b : List α) : scr (x :: a) (y :: b) = if x = y then (32, x) :: scr a b else if dist a (y :: b) ≤ dist (x :: a) b then (45, x) :: scr a (y :: b) else (43, y) :: scr (x :: a) b := rfl
theorem scr_put (y : α) (b : List α) : scr [] (y :: b) = (43, y) :: scr [] b := by simp [scr_nil]
theorem scr_take (x : α) (a : List α) : scr (x :: a) [] = (45, x) :: scr a [] := by simp [scr_nil']

theorem scr_ok (a b : List α) : lessOf 43 (scr a b) = a ∧ lessOf 45 (scr a b) = b ∧ chg (scr a b) = dist a b ∧ (scr a b).length ≤ a.length + b.length ∧ (∀ m ∈ scr a b, sgn m.1 ∧ (m.2 ∈ a ∨ m.2 ∈ b)) := by
  induction a generalizing b with
  | nil =>
    rw [dist_nil]
    induction b with
    | nil => simp [lessOf, chg, scr_nil]
    | cons y b ih =>
      obtain ⟨h1, h2, h3, h4, h5⟩ := ih
      rw [scr_put]
      refine ⟨by rw [lessOf_skip]; exact h1, by rw [lessOf_hit _ _ _ _ (by decide), h2], by rw [chg_hit _ _ _ (by decide), h3]; rfl, by simp at h4 ⊢; exact h4, ?_⟩
      intro m hm
      rcases List.mem_cons.1 hm with rfl | hm
      · simp [sgn]
      · have := h5 m hm; exact ⟨this.1, by rcases this.2 with h | h <;> simp [h]⟩
  | cons x a iha =>
    induction b with
    | nil =>
      obtain ⟨h1, h2, h3, h4, h5⟩ := iha []
      rw [scr_take]
      rw [dist_nil'] at h3 ⊢
      refine ⟨by rw [lessOf_hit _ _ _ _ (by decide), h1], by rw [lessOf_skip]; exact h2, by rw [chg_hit _ _ _ (by decide), h3]; rfl, by simp at h4 ⊢; exact h4, ?_⟩
      intro m hm
      rcases List.mem_cons.1 hm with rfl | hm
      · simp [sgn]
      · have := h5 m hm; exact ⟨this.1, by rcases this.2 with h | h <;> simp [h]⟩
    | cons y b ihb =>
      rw [scr_cons, dist_cons]
      by_cases h : x = y
      · subst h
        rw [if_pos rfl, if_pos rfl]
        obtain ⟨h1, h2, h3, h4, h5⟩ := iha b
        refine ⟨by rw [lessOf_hit _ _ _ _ (by decide), h1], by rw [lessOf_hit _ _ _ _ (by decide), h2], by rw [chg_skip, h3], by simp; omega, ?_⟩
        intro m hm
        rcases List.mem_cons.1 hm with rfl | hm
        · simp [sgn]
        · have := h5 m hm; refine ⟨this.1, ?_⟩; rcases this.2 with h | h <;> simp [h]
      · rw [if_neg h, if_neg h]
        by_cases h2 : dist a (y :: b) ≤ dist (x :: a) b
        · rw [if_pos h2, Nat.min_eq_left h2]
          obtain ⟨h1, h2, h3, h4, h5⟩ := iha (y :: b)
          refine ⟨by rw [lessOf_hit _ _ _ _ (by decide), h1], by rw [lessOf_skip]; exact h2, by rw [chg_hit _ _ _ (by decide), h3]; omega, by simp at h4 ⊢; omega, ?_⟩
          intro m hm
          rcases List.mem_cons.1 hm with rfl | hm
          · simp [sgn]
          · have := h5 m hm; refine ⟨this.1, ?_⟩; rcases this.2 with h | h <;> simp at h ⊢ <;> simp [h]
        · rw [if_neg h2, Nat.min_eq_right (by omega)]
          obtain ⟨h1, h2, h3, h4, h5⟩ := ihb
          refine ⟨by rw [lessOf_skip]; exact h1, by rw [lessOf_hit _ _ _ _ (by decide), h2], by rw [chg_hit _ _ _ (by decide), h3]; omega, by simp at h4 ⊢; omega, ?_⟩
          intro m hm
          rcases List.mem_cons.1 hm with rfl | hm
          · simp [sgn]
          · have := h5 m hm; refine ⟨this.1, ?_⟩; rcases this.2 with h | h <;> simp at h ⊢ <;> simp [h]

/-- Whatever script leads there takes and puts no fewer lines. -/
theorem chg_least (s : List (Int × α)) (hs : ∀ m ∈ s, sgn m.1) : dist (lessOf 43 s) (lessOf 45 s) ≤ chg s := by
  induction s with
  | nil => simp [lessOf, chg, dist_nil]
  | cons m s ih =>
    have ih := ih fun x hx => hs x (List.mem_cons_of_mem _ hx)
    have hm := hs m (by simp)
    obtain ⟨k, x⟩ := m
    rcases hm with hm | hm | hm <;> simp only at hm <;> subst hm
    · rw [lessOf_hit _ _ _ _ (by decide), lessOf_hit _ _ _ _ (by decide), chg_skip, dist_cons, if_pos rfl]; exact ih
    · rw [lessOf_hit _ _ _ _ (by decide), lessOf_skip, chg_hit _ _ _ (by decide)]
      have := (dist_lip (lessOf 43 s) (lessOf 45 s) x).2; omega
    · rw [lessOf_skip, lessOf_hit _ _ _ _ (by decide), chg_hit _ _ _ (by decide)]
      have := (dist_lip' (lessOf 43 s) (lessOf 45 s) x).2; omega
end

end Go.Proofs.YtnkdmgekpajfhaeDoor.Dist
