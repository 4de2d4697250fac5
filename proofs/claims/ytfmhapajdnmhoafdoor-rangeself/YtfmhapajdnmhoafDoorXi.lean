/-
  The plain mathematics of scripts between files: how far it is from a file to another one, as much kept as can be, the first script of the fewest lines. The plain mathematics of hunks: how many lines marks have of the old file and of the new one, which marks stand near a change, the pieces of a script, and what holds of them.
-/

namespace Go.Proofs.YtfmhapajdnmhoafDoor.Dist

section
variable {α : Type}

/-- Lines of marks without those of one sign. -/
def lessOf (c : Int) (s : List (Int × α)) : List α := (s.filter fun m => m.1 != c).map (·.2)
/-- How many lines marks take and put. -/
def chg (s : List (Int × α)) : Nat := (s.filter fun m => m.1 != 32).length
/-- A sign. -/
def sgn (c : Int) : Prop := c = 32 ∨ c = 45 ∨ c = 43

theorem lessOf_skip (c : Int) (x : α) (s : List (Int × α)) : lessOf c ((c, x) :: s) = lessOf c s := by
  unfold lessOf; rw [List.filter_cons_of_neg (by simp)]
theorem lessOf_hit (c d : Int) (x : α) (s : List (Int × α)) (h : d ≠ c) : lessOf c ((d, x) :: s) = x :: lessOf c s := by
  unfold lessOf; rw [List.filter_cons_of_pos (by simpa using h)]; rfl
theorem chg_skip (x : α) (s : List (Int × α)) : chg ((32, x) :: s) = chg s := by
  unfold chg; rw [List.filter_cons_of_neg (by simp)]
theorem chg_hit (d : Int) (x : α) (s : List (Int × α)) (h : d ≠ 32) : chg ((d, x) :: s) = chg s + 1 := by
  unfold chg; rw [List.filter_cons_of_pos (by simpa using h)]; rfl
end

section
variable {α : Type} [DecidableEq α]

/-- How far it is from a line more, by how far it is from the lines behind it. -/
def distRow (x : α) (n : Nat) (f : List α → Nat) : List α → Nat
  | [] => n
  | y :: b => if x = y then f b else 1 + min (f (y :: b)) (distRow x n f b)

/-- How far it is from lines to lines. -/
def dist : List α → List α → Nat
  | [] => fun b => b.length
  | x :: a => distRow x (a.length + 1) (dist a)

theorem dist_nil (b : List α) : dist [] b = b.length := rfl
theorem dist_nil' (a : List α) : dist a [] = a.length := by cases a <;> rfl
theorem dist_cons (x y : α) (a b : List α) : dist (x :: a) (y :: b) = if x = y then dist a b else 1 + min (dist a (y :: b)) (dist (x :: a) b) := rfl

theorem dist_comm (a b : List α) : dist a b = dist b a := by
  induction a generalizing b with
  | nil => rw [dist_nil, dist_nil']
  | cons x a iha =>
    induction b with
    | nil => rw [dist_nil, dist_nil']
    | cons y b ihb =>
      rw [dist_cons, dist_cons]
      by_cases h : x = y
      · rw [if_pos h, if_pos h.symm, iha]
      · rw [if_neg h, if_neg (fun e => h e.symm), iha (y :: b), ihb, Nat.min_comm]

/-- One line more: one nearer or one further. -/
theorem dist_lip_n : ∀ (n : Nat) (a b : List α) (x : α), a.length + b.length ≤ n → dist a b ≤ 1 + dist (x :: a) b ∧ dist (x :: a) b ≤ 1 + dist a b := by
  intro n
  induction n with
  | zero =>
    intro a b x h
    have ha : a = [] := List.length_eq_zero_iff.1 (by omega)
    have hb : b = [] := List.length_eq_zero_iff.1 (by omega)
    subst ha hb
    simp [dist_nil']
  | succ n ih =>
    intro a b x h
    cases b with
    | nil => simp [dist_nil']; omega
    | cons y b =>
      simp at h
      have h1 := ih b a y (by omega)
      rw [dist_comm b a, dist_comm (y :: b) a] at h1
      have h2 := ih a b x (by omega)
      rw [dist_cons]
      split <;> omega

theorem dist_lip (a b : List α) (x : α) : dist a b ≤ 1 + dist (x :: a) b ∧ dist (x :: a) b ≤ 1 + dist a b := dist_lip_n _ a b x (Nat.le_refl _)
theorem dist_lip' (a b : List α) (y : α) : dist a b ≤ 1 + dist a (y :: b) ∧ dist a (y :: b) ≤ 1 + dist a b := by
  rw [dist_comm a b, dist_comm a (y :: b)]; exact dist_lip b a y

theorem dist_le (a b : List α) : dist a b ≤ a.length + b.length := by
  induction a with
  | nil => rw [dist_nil]; simp
  | cons x a ih => have := (dist_lip a b x).2; simp; omega

theorem dist_big (a b : List α) : b.length ≤ a.length + dist a b := by
  induction a with
  | nil => rw [dist_nil]; simp
  | cons x a ih => have := (dist_lip a b x).1; simp; omega

theorem dist_parity (a b : List α) : dist a b % 2 = (a.length + b.length) % 2 := by
  induction a generalizing b with
  | nil => rw [dist_nil]; simp
  | cons x a iha =>
    induction b with
    | nil => rw [dist_nil']; simp
    | cons y b ihb =>
      rw [dist_cons]
      split
      · rw [iha]; simp; omega
      · have := iha (y :: b)
        simp at this ihb ⊢
        omega

theorem dist_zero (a b : List α) : dist a b = 0 ↔ a = b := by
  induction a generalizing b with
  | nil => rw [dist_nil]; cases b <;> simp
  | cons x a iha =>
    cases b with
    | nil => rw [dist_nil']; simp
    | cons y b =>
      rw [dist_cons]
      by_cases h : x = y
      · rw [if_pos h, iha, h]; simp
      · rw [if_neg h]; simp [h]

/-- No nearer by a third. -/
theorem dist_tri_n : ∀ (k : Nat) (a b c : List α), a.length + b.length + c.length ≤ k → dist a c ≤ dist a b + dist b c := by
  intro k
  induction k with
  | zero =>
    intro a b c hk
    have ha : a = [] := List.length_eq_zero_iff.1 (by omega)
    have hc : c = [] := List.length_eq_zero_iff.1 (by omega)
    subst ha hc
    rw [dist_nil]; simp
  | succ k ih =>
    intro a b c hk
    cases a with
    | nil => rw [dist_nil, dist_nil]; exact dist_big b c
    | cons x a =>
      cases c with
      | nil =>
        rw [dist_nil', dist_nil']
        have h := dist_big b (x :: a)
        rw [dist_comm b (x :: a)] at h
        omega
      | cons z c =>
        cases b with
        | nil => rw [dist_nil', dist_nil]; exact dist_le _ _
        | cons y b =>
          simp only [List.length_cons] at hk
          have t1 := ih a b c (by omega)
          have t2 := ih a b (z :: c) (by simp; omega)
          have t3 := ih (x :: a) (y :: b) c (by simp; omega)
          have t4 := ih a (y :: b) (z :: c) (by simp; omega)
          have t5 := ih (x :: a) b c (by simp; omega)
          have t6 := ih (x :: a) b (z :: c) (by simp; omega)
          have l1 := (dist_lip a (z :: c) x).2
          have l2 := (dist_lip' (x :: a) c z).2
          have e1 := dist_cons x y a b
          have e2 := dist_cons y z b c
          have e3 := dist_cons x z a c
          by_cases h1 : x = y
          · rw [if_pos h1] at e1
            by_cases h2 : y = z
            · rw [if_pos h2] at e2
              rw [if_pos (h1.trans h2)] at e3
              omega
            · rw [if_neg h2] at e2
              omega
          · rw [if_neg h1] at e1
            by_cases h2 : y = z
            · rw [if_pos h2] at e2
              omega
            · rw [if_neg h2] at e2
              omega

theorem dist_tri (a b c : List α) : dist a c ≤ dist a b + dist b c := dist_tri_n _ a b c (Nat.le_refl _)

/-- As much kept as can be, of a line more. -/
def comRow (x : α) (f : List α → Nat) : List α → Nat
  | [] => 0
  | y :: b => if x = y then max (f b + 1) (max (f (y :: b)) (comRow x f b)) else max (f (y :: b)) (comRow x f b)

/-- As much kept as can be: the document's table. -/
def com : List α → List α → Nat
  | [] => fun _ => 0
  | x :: a => comRow x (com a)

theorem com_nil (b : List α) : com [] b = 0 := rfl
theorem com_nil' (a : List α) : com a [] = 0 := by cases a <;> rfl
theorem com_cons (x y : α) (a b : List α) : com (x :: a) (y :: b) = if x = y then max (com a b + 1) (max (com a (y :: b)) (com (x :: a) b)) else max (com a (y :: b)) (com (x :: a) b) := rfl

theorem com_dist (a b : List α) : 2 * com a b + dist a b = a.length + b.length := by
  induction a generalizing b with
  | nil => rw [dist_nil, com_nil]; simp
  | cons x a iha =>
    induction b with
    | nil => rw [dist_nil', com_nil']; simp
    | cons y b ihb =>
      rw [dist_cons, com_cons]
      have h1 := iha (y :: b)
      have h2 := iha b
      have l1 := dist_lip a b x
      have l2 := dist_lip' a b y
      simp at h1 h2 ihb ⊢
      split <;> omega

theorem com_keep (x : α) (a b : List α) : com a b + 1 = com (x :: a) (x :: b) := by
  have h1 := com_dist (x :: a) (x :: b)
  have h2 := com_dist a b
  rw [dist_cons, if_pos rfl] at h1
  simp at h1
  omega

theorem com_take (x y : α) (a b : List α) (h : x ≠ y) : com a (y :: b) = com (x :: a) (y :: b) ↔ dist a (y :: b) ≤ dist (x :: a) b := by
  have h1 := com_dist (x :: a) (y :: b)
  have h2 := com_dist a (y :: b)
  rw [dist_cons, if_neg h] at h1
  simp at h1 h2
  omega

/-- The first script of the fewest lines, from a line more. -/
def scrRow (x : α) (a : List α) (f : List α → List (Int × α)) : List α → List (Int × α)
  | [] => (x :: a).map fun x => (45, x)
  | y :: b => if x = y then (32, x) :: f b else if dist a (y :: b) ≤ dist (x :: a) b then (45, x) :: f (y :: b) else (43, y) :: scrRow x a f b

/-- The first of the scripts that have the fewest lines: 32 keep, 45 take, 43 put. -/
def scr : List α → List α → List (Int × α)
  | [] => fun b => b.map fun y => (43, y)
  | x :: a => scrRow x a (scr a)

theorem scr_nil (b : List α) : scr [] b = b.map fun y => (43, y) := rfl
theorem scr_nil' (a : List α) : scr a [] = a.map fun x => (45, x) := by cases a <;> rfl
theorem scr_cons (x y : α) (a b : List α) : scr (x :: a) (y :: b) = if x = y then (32, x) :: scr a b else if dist a (y :: b) ≤ dist (x :: a) b then (45, x) :: scr a (y :: b) else (43, y) :: scr (x :: a) b := rfl
theorem scr_put (y : α) (b : List α) : scr [] (y :: b) = (43, y) :: scr [] b := by simp [scr_nil]
theorem scr_take (x : α) (a : List α) : scr (x :: a) [] = (45, x) :: scr a [] := by simp [scr_nil']

theorem scr_ok (a b : List α) : lessOf 43 (scr a b) = a ∧ lessOf 45 (scr a b) = b ∧ chg (scr a b) = dist a b ∧ (scr a b).length ≤ a.length + b.length ∧ (∀ m ∈ scr a b, sgn m.1 ∧ (m.2 ∈ a ∨ m.2 ∈ b)) := by
  induction a generalizing b with
  | nil =>
    rw [dist_nil]
    induction b with
    | nil => simp [lessOf, chg, scr_nil]
    | cons y b ih =>
      obtain ⟨h1, h2, h3, h4, h5⟩ := ih
      rw [scr_put]
      refine ⟨by rw [lessOf_skip]; exact h1, by rw [lessOf_hit _ _ _ _ (by decide), h2], by rw [chg_hit _ _ _ (by decide), h3]; rfl, by simp at h4 ⊢; exact h4, ?_⟩
      intro m hm
      rcases List.mem_cons.1 hm with rfl | hm
      · simp [sgn]
      · have := h5 m hm; exact ⟨this.1, by rcases this.2 with h | h <;> simp [h]⟩
  | cons x a iha =>
    induction b with
    | nil =>
      obtain ⟨h1, h2, h3, h4, h5⟩ := iha []
      rw [scr_take]
      rw [dist_nil'] at h3 ⊢
      refine ⟨by rw [lessOf_hit _ _ _ _ (by decide), h1], by rw [lessOf_skip]; exact h2, by rw [chg_hit _ _ _ (by decide), h3]; rfl, by simp at h4 ⊢; exact h4, ?_⟩
      intro m hm
      rcases List.mem_cons.1 hm with rfl | hm
      · simp [sgn]
      · have := h5 m hm; exact ⟨this.1, by rcases this.2 with h | h <;> simp [h]⟩
    | cons y b ihb =>
      rw [scr_cons, dist_cons]
      by_cases h : x = y
      · subst h
        rw [if_pos rfl, if_pos rfl]
        obtain ⟨h1, h2, h3, h4, h5⟩ := iha b
        refine ⟨by rw [lessOf_hit _ _ _ _ (by decide), h1], by rw [lessOf_hit _ _ _ _ (by decide), h2], by rw [chg_skip, h3], by simp; omega, ?_⟩
        intro m hm
        rcases List.mem_cons.1 hm with rfl | hm
        · simp [sgn]
        · have := h5 m hm; refine ⟨this.1, ?_⟩; rcases this.2 with h | h <;> simp [h]
      · rw [if_neg h, if_neg h]
        by_cases h2 : dist a (y :: b) ≤ dist (x :: a) b
        · rw [if_pos h2, Nat.min_eq_left h2]
          obtain ⟨h1, h2, h3, h4, h5⟩ := iha (y :: b)
          refine ⟨by rw [lessOf_hit _ _ _ _ (by decide), h1], by rw [lessOf_skip]; exact h2, by rw [chg_hit _ _ _ (by decide), h3]; omega, by simp at h4 ⊢; omega, ?_⟩
          intro m hm
          rcases List.mem_cons.1 hm with rfl | hm
          · simp [sgn]
          · have := h5 m hm; refine ⟨this.1, ?_⟩; rcases this.2 with h | h <;> simp at h ⊢ <;> simp [h]
        · rw [if_neg h2, Nat.min_eq_right (by omega)]
          obtain ⟨h1, h2, h3, h4, h5⟩ := ihb
          refine ⟨by rw [lessOf_skip]; exact h1, by rw [lessOf_hit _ _ _ _ (by decide), h2], by rw [chg_hit _ _ _ (by decide), h3]; omega, by simp at h4 ⊢; omega, ?_⟩
          intro m hm
          rcases List.mem_cons.1 hm with rfl | hm
          · simp [sgn]
          · have := h5 m hm; refine ⟨this.1, ?_⟩; rcases this.2 with h | h <;> simp at h ⊢ <;> simp [h]

/-- Whatever script leads there takes and puts no fewer lines. -/
theorem chg_least (s : List (Int × α)) (hs : ∀ m ∈ s, sgn m.1) : dist (lessOf 43 s) (lessOf 45 s) ≤ chg s := by
  induction s with
  | nil => simp [lessOf, chg, dist_nil]
  | cons m s ih =>
    have ih := ih fun x hx => hs x (List.mem_cons_of_mem _ hx)
    have hm := hs m (by simp)
    obtain ⟨k, x⟩ := m
    rcases hm with hm | hm | hm <;> simp only at hm <;> subst hm
    · rw [lessOf_hit _ _ _ _ (by decide), lessOf_hit _ _ _ _ (by decide), chg_skip, dist_cons, if_pos rfl]; exact ih
    · rw [lessOf_hit _ _ _ _ (by decide), lessOf_skip, chg_hit _ _ _ (by decide)]
      have := (dist_lip (lessOf 43 s) (lessOf 45 s) x).2; omega
    · rw [lessOf_skip, lessOf_hit _ _ _ _ (by decide), chg_hit _ _ _ (by decide)]
      have := (dist_lip' (lessOf 43 s) (lessOf 45 s) x).2; omega
end

end Go.Proofs.YtfmhapajdnmhoafDoor.Dist
namespace Go.Proofs.YtfmhapajdnmhoafDoor.Dist

/-- Lines that marks have of the old file, and of the new one. -/
def ob (ms : List (Int × ByteArray)) : Nat := (ms.filter fun m => m.1 == 32 || m.1 == 45).length
def nb (ms : List (Int × ByteArray)) : Nat := (ms.filter fun m => m.1 == 32 || m.1 == 43).length

theorem ob_append (a b : List (Int × ByteArray)) : ob (a ++ b) = ob a + ob b := by unfold ob; rw [List.filter_append, List.length_append]
theorem nb_append (a b : List (Int × ByteArray)) : nb (a ++ b) = nb a + nb b := by unfold nb; rw [List.filter_append, List.length_append]
theorem ch_append (a b : List (Int × ByteArray)) : chg (a ++ b) = chg a + chg b := by unfold chg; rw [List.filter_append, List.length_append]
theorem ob_le (a : List (Int × ByteArray)) : ob a ≤ a.length := by unfold ob; exact List.length_filter_le _ _
theorem nb_le (a : List (Int × ByteArray)) : nb a ≤ a.length := by unfold nb; exact List.length_filter_le _ _
theorem ob_one (c : Int) (t : ByteArray) : ob [(c, t)] = if c = 32 ∨ c = 45 then 1 else 0 := by
  unfold ob; by_cases h : c = 32 ∨ c = 45 <;> simp [h]
theorem nb_one (c : Int) (t : ByteArray) : nb [(c, t)] = if c = 32 ∨ c = 43 then 1 else 0 := by
  unfold nb; by_cases h : c = 32 ∨ c = 43 <;> simp [h]
theorem ch_one (c : Int) (t : ByteArray) : chg [(c, t)] = if c = 32 then 0 else 1 := by
  unfold chg; by_cases h : c = 32 <;> simp [h]

theorem ob_less (ms : List (Int × ByteArray)) (h : ∀ m ∈ ms, sgn m.1) : (lessOf 43 ms).length = ob ms := by
  induction ms with
  | nil => rfl
  | cons m r ih =>
    have h1 := ih fun m hm => h m (List.mem_cons_of_mem _ hm)
    have h2 := h m (by simp)
    unfold lessOf ob at h1 ⊢
    rw [List.length_map] at h1 ⊢
    rcases h2 with e | e | e <;> simp [e, h1]
theorem nb_less (ms : List (Int × ByteArray)) (h : ∀ m ∈ ms, sgn m.1) : (lessOf 45 ms).length = nb ms := by
  induction ms with
  | nil => rfl
  | cons m r ih =>
    have h1 := ih fun m hm => h m (List.mem_cons_of_mem _ hm)
    have h2 := h m (by simp)
    unfold lessOf nb at h1 ⊢
    rw [List.length_map] at h1 ⊢
    rcases h2 with e | e | e <;> simp [e, h1]

theorem ch_le (ms : List (Int × ByteArray)) (h : ∀ m ∈ ms, sgn m.1) : chg ms ≤ ob ms + nb ms := by
  induction ms with
  | nil => exact Nat.zero_le _
  | cons m r ih =>
    have h1 := ih fun m hm => h m (List.mem_cons_of_mem _ hm)
    have h2 := h m (by simp)
    have e : m :: r = [(m.1, m.2)] ++ r := rfl
    rw [e, ch_append, ob_append, nb_append, ch_one, ob_one, nb_one]
    rcases h2 with e | e | e <;> simp [e] <;> omega

/-- A mark more. -/
theorem tk_snoc (ms : List (Int × ByteArray)) (k : Nat) (hk : k < ms.length) : ms.take (k + 1) = ms.take k ++ [ms.getD k (0, ByteArray.empty)] := by
  have e : ms.getD k (0, ByteArray.empty) = ms[k] := by simp [hk]
  rw [e, List.take_succ_eq_append_getElem hk]

/-- A mark that changes something is near. -/
def near (ms : List (Int × ByteArray)) (n i : Nat) : Bool := decide (i < ms.length) && (List.range ms.length).any fun k => (ms.getD k (0, ByteArray.empty)).1 != 32 && (decide (k ≤ i + n) && decide (i ≤ k + n))

theorem near_iff (ms : List (Int × ByteArray)) (n i : Nat) : near ms n i = true ↔ i < ms.length ∧ ∃ k, k < ms.length ∧ (ms.getD k (0, ByteArray.empty)).1 ≠ 32 ∧ k ≤ i + n ∧ i ≤ k + n := by
  unfold near
  simp only [Bool.and_eq_true, decide_eq_true_eq, List.any_eq_true, List.mem_range, bne_iff_ne, ne_eq]
theorem near_not (ms : List (Int × ByteArray)) (n i : Nat) : near ms n i = false ↔ ¬ (i < ms.length ∧ ∃ k, k < ms.length ∧ (ms.getD k (0, ByteArray.empty)).1 ≠ 32 ∧ k ≤ i + n ∧ i ≤ k + n) := by
  rw [← near_iff]; simp

/-- A piece of a script. -/
def pc (ms : List (Int × ByteArray)) (a b : Nat) : Int × Int × List (Int × ByteArray) := (ob (ms.take a), nb (ms.take a), (ms.take b).drop a)

/-- How many marks just ahead of a place are near. -/
def rl (ms : List (Int × ByteArray)) (n : Nat) : Nat → Nat
  | 0 => 0
  | k + 1 => if near ms n k = true then rl ms n k + 1 else 0
/-- The pieces that end ahead of a place. -/
def cl (ms : List (Int × ByteArray)) (n : Nat) : Nat → List (Int × Int × List (Int × ByteArray))
  | 0 => []
  | k + 1 => if near ms n k = true then cl ms n k else if rl ms n k = 0 then cl ms n k else cl ms n k ++ [pc ms (k - rl ms n k) k]
/-- The pieces of a script. -/
def cut (ms : List (Int × ByteArray)) (n : Nat) : List (Int × Int × List (Int × ByteArray)) := cl ms n (ms.length + 1)

theorem rl_in {ms : List (Int × ByteArray)} {n k : Nat} (h : near ms n k = true) : rl ms n (k + 1) = rl ms n k + 1 := by rw [rl, if_pos h]
theorem rl_out {ms : List (Int × ByteArray)} {n k : Nat} (h : near ms n k = false) : rl ms n (k + 1) = 0 := by rw [rl, if_neg (by rw [h]; simp)]
theorem cl_in {ms : List (Int × ByteArray)} {n k : Nat} (h : near ms n k = true) : cl ms n (k + 1) = cl ms n k := by rw [cl, if_pos h]
theorem cl_out {ms : List (Int × ByteArray)} {n k : Nat} (h : near ms n k = false) (hr : rl ms n k = 0) : cl ms n (k + 1) = cl ms n k := by rw [cl, if_neg (by rw [h]; simp), if_pos hr]
theorem cl_end {ms : List (Int × ByteArray)} {n k : Nat} (h : near ms n k = false) (hr : rl ms n k ≠ 0) : cl ms n (k + 1) = cl ms n k ++ [pc ms (k - rl ms n k) k] := by rw [cl, if_neg (by rw [h]; simp), if_neg hr]
theorem near_end (ms : List (Int × ByteArray)) (n : Nat) : near ms n ms.length = false := by rw [near_not]; intro h; omega

theorem rl_run {ms : List (Int × ByteArray)} {n : Nat} (k : Nat) : rl ms n k ≤ k ∧ (∀ j, k - rl ms n k ≤ j → j < k → near ms n j = true) ∧ (k - rl ms n k = 0 ∨ near ms n (k - rl ms n k - 1) = false) := by
  induction k with
  | zero => exact ⟨Nat.le_refl _, fun j _ h => absurd h (Nat.not_lt_zero _), .inl rfl⟩
  | succ k ih =>
    obtain ⟨h1, h2, h3⟩ := ih
    by_cases h : near ms n k = true
    · rw [rl_in h]
      refine ⟨by omega, fun j hj hk => ?_, ?_⟩
      · by_cases e : j = k
        · rw [e]; exact h
        · exact h2 j (by omega) (by omega)
      · rw [show k + 1 - (rl ms n k + 1) = k - rl ms n k by omega]; exact h3
    · have h : near ms n k = false := by simpa using h
      rw [rl_out h]
      exact ⟨by omega, fun j hj hk => by omega, .inr (by simpa using h)⟩

/-- Over a run from a place where none is open, the run grows and nothing ends. -/
theorem run_grows {ms : List (Int × ByteArray)} {n a : Nat} (h0 : rl ms n a = 0) (b : Nat) (hab : a ≤ b) (h : ∀ j, a ≤ j → j < b → near ms n j = true) : rl ms n b = b - a ∧ cl ms n b = cl ms n a := by
  induction b with
  | zero => obtain rfl : a = 0 := by omega
            exact ⟨by rw [h0], rfl⟩
  | succ b ih =>
    by_cases e : a = b + 1
    · subst e; exact ⟨by rw [h0]; omega, rfl⟩
    · obtain ⟨i1, i2⟩ := ih (by omega) fun j h1 h2 => h j h1 (by omega)
      have hn := h b (by omega) (by omega)
      rw [rl_in hn, cl_in hn, i1, i2]
      exact ⟨by omega, rfl⟩

/-- Behind a run that ends. -/
theorem run_ends {ms : List (Int × ByteArray)} {n a b : Nat} (h0 : rl ms n a = 0) (hab : a < b) (h : ∀ j, a ≤ j → j < b → near ms n j = true) (hb : near ms n b = false) : rl ms n (b + 1) = 0 ∧ cl ms n (b + 1) = cl ms n a ++ [pc ms a b] := by
  obtain ⟨i1, i2⟩ := run_grows h0 b (by omega) h
  refine ⟨rl_out hb, ?_⟩
  rw [cl_end hb (by omega), i1, i2, show b - (b - a) = a by omega]

/-- What is not near is kept. -/
theorem not_near {ms : List (Int × ByteArray)} {n k : Nat} (hk : k < ms.length) (h : near ms n k = false) : (ms.getD k (0, ByteArray.empty)).1 = 32 := by
  rw [near_not] at h
  by_cases e : (ms.getD k (0, ByteArray.empty)).1 = 32
  · exact e
  · exact absurd ⟨hk, k, hk, e, by omega, by omega⟩ h

theorem ch_pos {ms : List (Int × ByteArray)} {a b c : Nat} (hc : c < ms.length) (h : (ms.getD c (0, ByteArray.empty)).1 ≠ 32) (h1 : a ≤ c) (h2 : c < b) : 0 < chg ((ms.take b).drop a) := by
  unfold chg
  rw [List.length_pos_iff_exists_mem]
  refine ⟨ms.getD c (0, ByteArray.empty), List.mem_filter.2 ⟨?_, by simpa using h⟩⟩
  have e : ms.getD c (0, ByteArray.empty) = ms[c] := by simp [hc]
  rw [e, List.mem_iff_getElem?]
  refine ⟨c - a, ?_⟩
  rw [List.getElem?_drop, List.getElem?_take, if_pos (by omega), show a + (c - a) = c by omega]
  simp [hc]

/-- A run that ends has a change. -/
theorem run_changes {ms : List (Int × ByteArray)} {n k : Nat} (h : near ms n k = false) (hr : rl ms n k ≠ 0) : 0 < chg ((ms.take k).drop (k - rl ms n k)) := by
  obtain ⟨h1, h2, h3⟩ := rl_run (ms := ms) (n := n) k
  have hk := h2 (k - 1) (by omega) (by omega)
  rw [near_iff] at hk
  obtain ⟨hk, c, hc, hcs, hc1, hc2⟩ := hk
  rw [near_not] at h
  by_cases e1 : k ≤ c
  · exact absurd ⟨by omega, c, hc, hcs, by omega, by omega⟩ h
  · by_cases e2 : c < k - rl ms n k
    · rcases h3 with h3 | h3
      · omega
      · rw [near_not] at h3
        exact absurd ⟨by omega, c, hc, hcs, by omega, by omega⟩ h3
    · exact ch_pos hc hcs (by omega) (by omega)

theorem tk_drop (ms : List (Int × ByteArray)) (a b : Nat) (h : a ≤ b) : ms.take b = ms.take a ++ (ms.take b).drop a := by
  have : (ms.take b).take a = ms.take a := by rw [List.take_take, Nat.min_eq_left h]
  rw [← this, List.take_append_drop]

/-- What hunks put, less what they take; where the last one ends; how much all change. -/
def sh : List (Int × Int × List (Int × ByteArray)) → Int
  | [] => 0
  | h :: r => ((nb h.2.2 : Int) - ob h.2.2) + sh r
def eo (l : List (Int × Int × List (Int × ByteArray))) : Int := match l.getLast? with
  | none => 0
  | some h => h.1 + ob h.2.2
def many : List (Int × Int × List (Int × ByteArray)) → Nat
  | [] => 0
  | h :: r => chg h.2.2 + many r

theorem sh_append (a b : List (Int × Int × List (Int × ByteArray))) : sh (a ++ b) = sh a + sh b := by
  induction a with
  | nil => simp [sh]
  | cons h r ih => rw [List.cons_append, sh, sh, ih]; omega
theorem many_append (a b : List (Int × Int × List (Int × ByteArray))) : many (a ++ b) = many a + many b := by
  induction a with
  | nil => simp [many]
  | cons h r ih => rw [List.cons_append, many, many, ih]; omega
theorem eo_snoc (a : List (Int × Int × List (Int × ByteArray))) (h : Int × Int × List (Int × ByteArray)) : eo (a ++ [h]) = h.1 + ob h.2.2 := by simp [eo]
theorem sh_snoc (a : List (Int × Int × List (Int × ByteArray))) (h : Int × Int × List (Int × ByteArray)) : sh (a ++ [h]) = sh a + ((nb h.2.2 : Int) - ob h.2.2) := by rw [sh_append]; simp [sh]
theorem many_snoc (a : List (Int × Int × List (Int × ByteArray))) (h : Int × Int × List (Int × ByteArray)) : many (a ++ [h]) = many a + chg h.2.2 := by rw [many_append]; simp [many]

/-- Hunks, each of which stands where it may. -/
def Fit (l : List (Int × Int × List (Int × ByteArray))) : Prop := ∀ j, j < l.length → eo (l.take j) ≤ (l.getD j (0, 0, [])).1 ∧ (l.getD j (0, 0, [])).2.1 = (l.getD j (0, 0, [])).1 + sh (l.take j)

theorem Fit.snoc {l : List (Int × Int × List (Int × ByteArray))} (h : Fit l) (x : Int × Int × List (Int × ByteArray)) (h1 : eo l ≤ x.1) (h2 : x.2.1 = x.1 + sh l) : Fit (l ++ [x]) := by
  intro j hj
  rw [List.length_append] at hj
  simp only [List.length_cons, List.length_nil, Nat.zero_add] at hj
  by_cases e : j < l.length
  · have := h j e
    rw [List.take_append_of_le_length (by omega)]
    have e2 : (l ++ [x]).getD j (0, 0, []) = l.getD j (0, 0, []) := by simp [List.getElem?_append, e]
    rw [e2]; exact this
  · obtain rfl : j = l.length := by omega
    rw [List.take_left']
    · have e2 : (l ++ [x]).getD l.length (0, 0, []) = x := by simp
      rw [e2]; exact ⟨h1, h2⟩
    · rfl

/-- What holds of the pieces that end ahead of a place. -/
theorem cl_holds (ms : List (Int × ByteArray)) (hs : ∀ m ∈ ms, sgn m.1) (n k : Nat) (hk : k ≤ ms.length + 1) :
    (∀ h ∈ cl ms n k, ∃ a b, a < b ∧ b ≤ ms.length ∧ h = pc ms a b ∧ 0 < chg h.2.2) ∧ Fit (cl ms n k) ∧
    eo (cl ms n k) ≤ ob (ms.take (k - rl ms n k)) ∧ sh (cl ms n k) = (nb (ms.take (k - rl ms n k)) : Int) - ob (ms.take (k - rl ms n k)) ∧
    many (cl ms n k) = chg (ms.take (k - rl ms n k)) ∧ 3 * (cl ms n k).length ≤ ob (ms.take (k - rl ms n k)) + nb (ms.take (k - rl ms n k)) + (if k ≤ ms.length then 0 else 2) := by
  induction k with
  | zero => exact ⟨fun h hh => absurd hh (by simp [cl]), fun j hj => absurd hj (by simp [cl]), by simp [cl, rl, eo, ob], by simp [cl, rl, sh, ob, nb], by simp [cl, rl, many, chg], by simp [cl]⟩
  | succ k ih =>
    obtain ⟨i1, i2, i3, i4, i5, i6⟩ := ih (by omega)
    rw [if_pos (by omega)] at i6
    obtain ⟨r1, r2, r3⟩ := rl_run (ms := ms) (n := n) k
    by_cases h : near ms n k = true
    · have hkl : k < ms.length := ((near_iff _ _ _).1 h).1
      rw [rl_in h, cl_in h, show k + 1 - (rl ms n k + 1) = k - rl ms n k by omega, if_pos (by omega)]
      exact ⟨i1, i2, i3, i4, i5, i6⟩
    · have h : near ms n k = false := by simpa using h
      rw [rl_out h, Nat.sub_zero]
      -- the mark at k is kept, or there is none
      have hm : (∃ t, ms.take (k + 1) = ms.take k ++ [((32 : Int), t)] ∧ k + 1 ≤ ms.length) ∨ (ms.take (k + 1) = ms.take k ∧ ¬ k + 1 ≤ ms.length) := by
        by_cases e : k < ms.length
        · refine .inl ⟨(ms.getD k (0, ByteArray.empty)).2, ?_, e⟩
          rw [tk_snoc ms k e, ← not_near e h]
        · refine .inr ⟨?_, by omega⟩
          rw [List.take_of_length_le (by omega), List.take_of_length_le (by omega)]
      by_cases hr : rl ms n k = 0
      · rw [hr, Nat.sub_zero] at i3 i4 i5 i6
        rw [cl_out h hr]
        rcases hm with ⟨t, e, hl⟩ | ⟨e, hl⟩
        · rw [e, ob_append, nb_append, ch_append, ob_one, nb_one, ch_one, if_pos hl]
          simp only [true_or, if_true]
          exact ⟨i1, i2, by omega, by omega, by omega, by omega⟩
        · rw [e, if_neg hl]
          exact ⟨i1, i2, i3, i4, i5, by omega⟩
      · have hch := run_changes h hr
        rw [cl_end h hr]
        have hsp := tk_drop ms (k - rl ms n k) k (by omega)
        obtain ⟨a, ha⟩ : ∃ a, k - rl ms n k = a := ⟨_, rfl⟩
        rw [ha] at i3 i4 i5 i6 hch hsp ⊢
        have eO : ob (ms.take k) = ob (ms.take a) + ob ((ms.take k).drop a) := by conv => lhs; rw [hsp, ob_append]
        have eN : nb (ms.take k) = nb (ms.take a) + nb ((ms.take k).drop a) := by conv => lhs; rw [hsp, nb_append]
        have eC : chg (ms.take k) = chg (ms.take a) + chg ((ms.take k).drop a) := by conv => lhs; rw [hsp, ch_append]
        have hkl : k ≤ ms.length := by omega
        have hal : a < k := by omega
        have hall : ∀ x ∈ cl ms n k ++ [pc ms a k], ∃ a b, a < b ∧ b ≤ ms.length ∧ x = pc ms a b ∧ 0 < chg x.2.2 := by
          intro x hx
          rcases List.mem_append.1 hx with hx | hx
          · exact i1 x hx
          · obtain rfl := List.mem_singleton.1 hx
            exact ⟨a, k, hal, hkl, rfl, hch⟩
        have hfit : Fit (cl ms n k ++ [pc ms a k]) := i2.snoc _ i3 (by show (nb (ms.take a) : Int) = ob (ms.take a) + sh (cl ms n k); omega)
        have hcn := ch_le ((ms.take k).drop a) fun m hm => hs m (List.mem_of_mem_take (List.mem_of_mem_drop hm))
        have e1 := eo_snoc (cl ms n k) (pc ms a k)
        have e2 := sh_snoc (cl ms n k) (pc ms a k)
        have e3 := many_snoc (cl ms n k) (pc ms a k)
        have e4 : (cl ms n k ++ [pc ms a k]).length = (cl ms n k).length + 1 := by simp
        have p1 : (pc ms a k).1 = ob (ms.take a) := rfl
        have p2 : (pc ms a k).2.2 = (ms.take k).drop a := rfl
        rw [p1, p2] at e1
        rw [p2] at e2 e3
        rw [e1, e2, e3, e4]
        rcases hm with ⟨t, e, hl⟩ | ⟨e, hl⟩
        · rw [e, ob_append, nb_append, ch_append, ob_one, nb_one, ch_one, if_pos hl]
          simp only [true_or, if_true]
          exact ⟨hall, hfit, by omega, by omega, by omega, by omega⟩
        · rw [e, if_neg hl]
          exact ⟨hall, hfit, by omega, by omega, by omega, by omega⟩

theorem cut_rl (ms : List (Int × ByteArray)) (n : Nat) : rl ms n (ms.length + 1) = 0 := rl_out (near_end ms n)

/-- What holds of the pieces of a script. -/
theorem cut_holds (ms : List (Int × ByteArray)) (hs : ∀ m ∈ ms, sgn m.1) (n : Nat) :
    (∀ h ∈ cut ms n, ∃ a b, a < b ∧ b ≤ ms.length ∧ h = pc ms a b ∧ 0 < chg h.2.2) ∧ Fit (cut ms n) ∧ many (cut ms n) = chg ms ∧ 3 * (cut ms n).length ≤ ob ms + nb ms + 2 := by
  obtain ⟨h1, h2, _, _, h5, h6⟩ := cl_holds ms hs n (ms.length + 1) (Nat.le_refl _)
  rw [cut_rl, Nat.sub_zero, List.take_of_length_le (by omega)] at h5 h6
  rw [if_neg (by omega)] at h6
  exact ⟨h1, h2, h5, h6⟩

open Classical in
/-- With more context no more pieces. -/
theorem cl_fewer (ms : List (Int × ByteArray)) (n m : Nat) (hnm : n ≤ m) (k : Nat) :
    (cl ms m k).length + (if rl ms m k = 0 then 0 else 1) ≤ (cl ms n k).length + (if rl ms n k = 0 then 0 else 1) + (if rl ms m k ≠ 0 ∧ (∀ j, k - rl ms m k ≤ j → j < k → near ms n j = false) then 1 else 0) ∧ (rl ms m k = 0 → rl ms n k = 0) := by
  have hin : ∀ i, near ms n i = true → near ms m i = true := by
    intro i h
    rw [near_iff] at h ⊢
    obtain ⟨h1, c, h2, h3, h4, h5⟩ := h
    exact ⟨h1, c, h2, h3, by omega, by omega⟩
  induction k with
  | zero => simp [cl, rl]
  | succ k ih =>
    obtain ⟨i1, i2⟩ := ih
    obtain ⟨r1, r2, r3⟩ := rl_run (ms := ms) (n := m) k
    by_cases hm : near ms m k = true
    · rw [rl_in hm, cl_in hm]
      refine ⟨?_, fun h => by omega⟩
      rw [if_neg (by omega), show k + 1 - (rl ms m k + 1) = k - rl ms m k by omega]
      by_cases hn : near ms n k = true
      · rw [rl_in hn, cl_in hn, if_neg (by omega), if_neg (fun h => by have := h.2 k (by omega) (by omega); rw [hn] at this; cases this)]
        by_cases e : rl ms n k = 0
        · rw [if_pos e] at i1
          split at i1 <;> split at i1 <;> omega
        · rw [if_neg e] at i1
          have hex : ¬ (rl ms m k ≠ 0 ∧ (∀ j, k - rl ms m k ≤ j → j < k → near ms n j = false)) := by
            intro h
            obtain ⟨n1, n2, n3⟩ := rl_run (ms := ms) (n := n) k
            have h1 := n2 (k - 1) (by omega) (by omega)
            have h2 := h.2 (k - 1) (by omega) (by omega)
            rw [h1] at h2; cases h2
          have e3 : rl ms m k ≠ 0 := fun h => e (i2 h)
          rw [if_neg e3, if_neg hex] at i1
          omega
      · have hn : near ms n k = false := by simpa using hn
        have hs1 : (cl ms n (k + 1)).length = (cl ms n k).length + (if rl ms n k = 0 then 0 else 1) := by
          by_cases e : rl ms n k = 0
          · rw [cl_out hn e, if_pos e]; rfl
          · rw [cl_end hn e, if_neg e]; simp
        rw [rl_out hn, hs1, if_pos rfl]
        by_cases e3 : rl ms m k = 0
        · have e4 := i2 e3
          rw [e3, e4] at i1
          rw [e4, if_pos rfl]
          simp only [if_true, ne_eq, not_true_eq_false, false_and, if_false] at i1
          have hall : rl ms m k + 1 ≠ 0 ∧ (∀ j, k - rl ms m k ≤ j → j < k + 1 → near ms n j = false) := ⟨by omega, fun j h1 h2 => by
            obtain rfl : j = k := by omega
            exact hn⟩
          rw [if_pos hall]
          omega
        · rw [if_neg e3] at i1
          by_cases hp : rl ms m k ≠ 0 ∧ (∀ j, k - rl ms m k ≤ j → j < k → near ms n j = false)
          · have hall : rl ms m k + 1 ≠ 0 ∧ (∀ j, k - rl ms m k ≤ j → j < k + 1 → near ms n j = false) := ⟨by omega, fun j h1 h2 => by
              by_cases e : j = k
              · rw [e]; exact hn
              · exact hp.2 j h1 (by omega)⟩
            rw [if_pos hp] at i1
            rw [if_pos hall]
            omega
          · rw [if_neg hp] at i1
            omega
    · have hm : near ms m k = false := by simpa using hm
      have hn : near ms n k = false := by
        by_cases h : near ms n k = true
        · rw [hin k h] at hm; cases hm
        · simpa using h
      have hs1 : (cl ms n (k + 1)).length = (cl ms n k).length + (if rl ms n k = 0 then 0 else 1) := by
        by_cases e : rl ms n k = 0
        · rw [cl_out hn e, if_pos e]; rfl
        · rw [cl_end hn e, if_neg e]; simp
      have hs2 : (cl ms m (k + 1)).length = (cl ms m k).length + (if rl ms m k = 0 then 0 else 1) := by
        by_cases e : rl ms m k = 0
        · rw [cl_out hm e, if_pos e]; rfl
        · rw [cl_end hm e, if_neg e]; simp
      rw [rl_out hm, rl_out hn, hs1, hs2]
      refine ⟨?_, fun _ => rfl⟩
      have hex : ¬ (rl ms m k ≠ 0 ∧ (∀ j, k - rl ms m k ≤ j → j < k → near ms n j = false)) := by
        rintro ⟨h1, h2⟩
        have hk := r2 (k - 1) (by omega) (by omega)
        rw [near_iff] at hk
        obtain ⟨hk, c, hc, hcs, hc1, hc2⟩ := hk
        rw [near_not] at hm
        by_cases e1 : k ≤ c
        · exact absurd ⟨by omega, c, hc, hcs, by omega, by omega⟩ hm
        · by_cases e2 : c < k - rl ms m k
          · rcases r3 with r3 | r3
            · omega
            · rw [near_not] at r3
              exact absurd ⟨by omega, c, hc, hcs, by omega, by omega⟩ r3
          · have h3 := h2 c (by omega) (by omega)
            rw [near_not] at h3
            exact h3 ⟨hc, c, hc, hcs, by omega, by omega⟩
      rw [if_neg hex] at i1
      simp only [if_true]
      omega

theorem cut_fewer (ms : List (Int × ByteArray)) (n m : Nat) (hnm : n ≤ m) : (cut ms m).length ≤ (cut ms n).length := by
  have h := (cl_fewer ms n m hnm (ms.length + 1)).1
  rw [cut_rl, cut_rl] at h
  unfold cut
  simpa using h

/-- With enough context there is one at most, of all marks. -/
theorem cut_all (ms : List (Int × ByteArray)) (n : Nat) (hn : ms.length ≤ n) : cut ms n = if chg ms = 0 then [] else [(0, 0, ms)] := by
  by_cases h : ∃ k, k < ms.length ∧ (ms.getD k (0, ByteArray.empty)).1 ≠ 32
  · obtain ⟨c, hc, hcs⟩ := h
    have hall : ∀ j, 0 ≤ j → j < ms.length → near ms n j = true := fun j _ hj => (near_iff _ _ _).2 ⟨hj, c, hc, hcs, by omega, by omega⟩
    have := (run_ends (ms := ms) (n := n) (a := 0) (b := ms.length) rfl (by omega) hall (near_end ms n)).2
    have hpos := ch_pos (a := 0) (b := ms.length) hc hcs (by omega) hc
    rw [List.take_length, List.drop_zero] at hpos
    rw [if_neg (by omega)]
    unfold cut
    rw [this]
    simp [cl, pc, ob, nb]
  · have hno : ∀ j, near ms n j = false := fun j => (near_not _ _ _).2 fun ⟨_, c, hc, hcs, _⟩ => h ⟨c, hc, hcs⟩
    have hz : ∀ k, rl ms n k = 0 ∧ cl ms n k = [] := by
      intro k
      induction k with
      | zero => exact ⟨rfl, rfl⟩
      | succ k ih => exact ⟨rl_out (hno k), by rw [cl_out (hno k) ih.1, ih.2]⟩
    have hc : chg ms = 0 := by
      unfold chg
      rw [List.length_eq_zero_iff, List.filter_eq_nil_iff]
      intro m hm hne
      obtain ⟨i, hi, rfl⟩ := List.mem_iff_getElem.1 hm
      exact h ⟨i, hi, by simpa [hi] using hne⟩
    rw [if_pos hc]
    exact (hz _).2

/-- What the other sign is. -/
def sw (c : Int) : Int := if c = 45 then 43 else if c = 43 then 45 else c
def swm (ms : List (Int × ByteArray)) : List (Int × ByteArray) := ms.map fun m => (sw m.1, m.2)
/-- A hunk turned; hunks turned. -/
def tn (h : Int × Int × List (Int × ByteArray)) : Int × Int × List (Int × ByteArray) := (h.2.1, h.1, swm h.2.2)
def trn (l : List (Int × Int × List (Int × ByteArray))) : List (Int × Int × List (Int × ByteArray)) := l.map tn

theorem sw_sw (c : Int) : sw (sw c) = c := by
  unfold sw
  by_cases h1 : c = 45
  · simp [h1]
  · by_cases h2 : c = 43
    · simp [h2]
    · simp [h1, h2]
theorem swm_swm (ms : List (Int × ByteArray)) : swm (swm ms) = ms := by
  induction ms with
  | nil => rfl
  | cons m r ih => unfold swm at ih ⊢; rw [List.map_cons, List.map_cons, ih, sw_sw]
theorem trn_trn (l : List (Int × Int × List (Int × ByteArray))) : trn (trn l) = l := by
  induction l with
  | nil => rfl
  | cons h r ih => unfold trn at ih ⊢; rw [List.map_cons, List.map_cons, ih]; simp [tn, swm_swm]
theorem swm_length (ms : List (Int × ByteArray)) : (swm ms).length = ms.length := by simp [swm]
theorem swm_counts (ms : List (Int × ByteArray)) : ob (swm ms) = nb ms ∧ nb (swm ms) = ob ms ∧ chg (swm ms) = chg ms := by
  induction ms with
  | nil => exact ⟨rfl, rfl, rfl⟩
  | cons m r ih =>
    have e : m :: r = [(m.1, m.2)] ++ r := rfl
    have e2 : swm (m :: r) = [(sw m.1, m.2)] ++ swm r := rfl
    rw [e2, e]
    simp only [ob_append, nb_append, ch_append, ih.1, ih.2.1, ih.2.2, ob_one, nb_one, ch_one]
    obtain ⟨this, h2, h3⟩ : (sw m.1 = 32 ↔ m.1 = 32) ∧ (sw m.1 = 45 ↔ m.1 = 43) ∧ (sw m.1 = 43 ↔ m.1 = 45) := by
      unfold sw
      by_cases h1 : m.1 = 45
      · rw [if_pos h1]; omega
      · rw [if_neg h1]
        by_cases h2 : m.1 = 43
        · rw [if_pos h2]; omega
        · rw [if_neg h2]; omega
    simp only [this, h2, h3, and_self]

theorem sh_trn (l : List (Int × Int × List (Int × ByteArray))) : sh (trn l) = - sh l := by
  induction l with
  | nil => rfl
  | cons h r ih =>
    have e : trn (h :: r) = tn h :: trn r := rfl
    have e1 : (tn h).2.2 = swm h.2.2 := rfl
    rw [e, sh, sh, ih, e1, (swm_counts _).1, (swm_counts _).2.1]; omega

/-- Hunks that stand where they may stand so when they are turned. -/
theorem Fit.trn {l : List (Int × Int × List (Int × ByteArray))} (h : Fit l) : Fit (trn l) := by
  intro j hj
  have hl : (Dist.trn l).length = l.length := by simp [Dist.trn]
  rw [hl] at hj
  obtain ⟨h1, h2⟩ := h j hj
  have e : (Dist.trn l).getD j (0, 0, []) = tn (l.getD j (0, 0, [])) := by simp [Dist.trn, hj]
  have et : (Dist.trn l).take j = Dist.trn (l.take j) := by simp [Dist.trn, List.map_take]
  rw [e, et, sh_trn]
  have hnew : (tn (l.getD j (0, 0, []))).1 = (l.getD j (0, 0, [])).2.1 := rfl
  have hold : (tn (l.getD j (0, 0, []))).2.1 = (l.getD j (0, 0, [])).1 := rfl
  rw [hnew, hold]
  refine ⟨?_, by omega⟩
  cases j with
  | zero =>
    simp [Dist.trn, eo, sh] at h1 h2 ⊢
    omega
  | succ j =>
    obtain ⟨g1, g2⟩ := h j (by omega)
    have hs : l.take (j + 1) = l.take j ++ [l.getD j (0, 0, [])] := by
      have e : l.getD j (0, 0, []) = l[j] := by simp [show j < l.length by omega]
      rw [e, List.take_succ_eq_append_getElem (by omega)]
    rw [hs, eo_snoc] at h1
    rw [hs, sh_snoc] at h2
    have ht : Dist.trn (l.take j ++ [l.getD j (0, 0, [])]) = Dist.trn (l.take j) ++ [tn (l.getD j (0, 0, []))] := by simp [Dist.trn]
    rw [hs, ht, eo_snoc]
    have k1 : (tn (l.getD j (0, 0, []))).1 = (l.getD j (0, 0, [])).2.1 := rfl
    have k2 : ob (tn (l.getD j (0, 0, []))).2.2 = nb (l.getD j (0, 0, [])).2.2 := (swm_counts _).1
    rw [k1, k2]
    omega

end Go.Proofs.YtfmhapajdnmhoafDoor.Dist
