/-
  Plain mathematics: the best choice of a square of costs: the least together, the first of several. Plain mathematics: in how many lines texts differ; the square of costs of two series; which is which. Plain mathematics: rows that cost the same have rising columns in the best choice; so pairs row by row are told as the document tells them. Plain mathematics: sets of columns as numbers; the least costs of each; the best choice row by row; which choices are one. Plain mathematics: the fault of a square of costs.
-/
import Derived.Test.YtfmhapajdnmhoafDoorXj
namespace Go.Proofs.YtfmhapajdnmhoafDoor.Dist

/-- A cost; the costs of a choice, from a row on. -/
def cAtM (c : List (List Int)) (r k : Nat) : Int := (c.getD r []).getD k 0
def cst (c : List (List Int)) : Nat → List Nat → Int
  | _, [] => 0
  | r, k :: m => cAtM c r k + cst c (r + 1) m
/-- The first of two choices. -/
def lx : List Nat → List Nat → Prop
  | [], _ => True
  | _ :: _, [] => False
  | a :: x, b :: y => a < b ∨ (a = b ∧ lx x y)
/-- A choice of the columns that are left. -/
def chz (n f : Nat) (us : List Bool) (m : List Nat) : Prop := m.length = f ∧ m.Nodup ∧ ∀ k ∈ m, k < n ∧ us.getD k false = false
/-- The best of them. -/
def isB (c : List (List Int)) (n f r : Nat) (us : List Bool) (m : List Nat) : Prop := chz n f us m ∧ ∀ l, chz n f us l → cst c r m ≤ cst c r l ∧ (cst c r l = cst c r m → lx m l)

theorem lx_refl (m : List Nat) : lx m m := by
  induction m with
  | nil => trivial
  | cons a x ih => exact .inr ⟨rfl, ih⟩

theorem lx_anti : ∀ {a b : List Nat}, a.length = b.length → lx a b → lx b a → a = b
  | [], [], _, _, _ => rfl
  | [], _ :: _, h, _, _ => by simp at h
  | _ :: _, [], h, _, _ => by simp at h
  | x :: a, y :: b, h, h1, h2 => by
    rcases h1 with h1 | ⟨rfl, h1⟩
    · rcases h2 with h2 | ⟨rfl, _⟩
      · omega
      · omega
    · rcases h2 with h2 | ⟨_, h2⟩
      · omega
      · rw [lx_anti (by simpa using h) h1 h2]

/-- There is one best choice. -/
theorem isB_one {c : List (List Int)} {n f r : Nat} {us : List Bool} {a b : List Nat} (ha : isB c n f r us a) (hb : isB c n f r us b) : a = b := by
  obtain ⟨a1, a2⟩ := ha
  obtain ⟨b1, b2⟩ := hb
  obtain ⟨p1, p2⟩ := a2 b b1
  obtain ⟨q1, q2⟩ := b2 a a1
  have e : cst c r a = cst c r b := by omega
  exact lx_anti (by rw [a1.1, b1.1]) (p2 e.symm) (q2 e)

def pickM (c : List (List Int)) (r : Nat) (us : List Bool) (g : Nat → Int × List Nat) (a : Int × List Nat) (k : Nat) : Int × List Nat :=
  if us.getD k false = true then a else if a.1 < 0 ∨ (g k).1 + cAtM c r k < a.1 then ((g k).1 + cAtM c r k, k :: (g k).2) else a
theorem pickM_used {c : List (List Int)} {r : Nat} {us : List Bool} {g : Nat → Int × List Nat} {a : Int × List Nat} {k : Nat} (h : us.getD k false = true) : pickM c r us g a k = a := by unfold pickM; rw [if_pos h]
theorem pickM_new {c : List (List Int)} {r : Nat} {us : List Bool} {g : Nat → Int × List Nat} {a b : Int × List Nat} {k : Nat} (h : ¬ us.getD k false = true) (hg : g k = b) : pickM c r us g a k = if a.1 < 0 ∨ b.1 + cAtM c r k < a.1 then (b.1 + cAtM c r k, k :: b.2) else a := by unfold pickM; rw [if_neg h, hg]
/-- The document's choice: column by column, the least so far. -/
def bst (c : List (List Int)) (n : Nat) : Nat → Nat → List Bool → Int × List Nat
  | 0, _, _ => (0, [])
  | f + 1, r, us => (List.range n).foldl (pickM c r us fun k => bst c n f (r + 1) (us.set k true)) (-1, [])

theorem cst_nonneg {c : List (List Int)} (h : ∀ r k, 0 ≤ cAtM c r k) : ∀ (m : List Nat) (r : Nat), 0 ≤ cst c r m
  | [], _ => by rw [cst]; omega
  | k :: m, r => by
    have := cst_nonneg h m (r + 1)
    have := h r k
    rw [cst]; omega

theorem set_getD {us : List Bool} {k j : Nat} (hk : k < us.length) : (us.set k true).getD j false = if j = k then true else us.getD j false := by
  by_cases e : j = k
  · subst e
    rw [if_pos rfl]
    simp [hk]
  · rw [if_neg e]
    simp [show ¬ k = j from fun x => e x.symm]

/-- A choice whose first is told, and its rest. -/
theorem chz_cons {n f : Nat} {us : List Bool} {k : Nat} {m : List Nat} (hn : us.length = n) : chz n (f + 1) us (k :: m) ↔ k < n ∧ us.getD k false = false ∧ chz n f (us.set k true) m := by
  constructor
  · rintro ⟨h1, h2, h3⟩
    obtain ⟨h4, h5⟩ := List.nodup_cons.1 h2
    obtain ⟨h6, h7⟩ := h3 k (by simp)
    refine ⟨h6, h7, by simpa using h1, h5, fun j hj => ⟨(h3 j (by simp [hj])).1, ?_⟩⟩
    rw [set_getD (by omega), if_neg (fun e => h4 (by rw [← e]; exact hj))]
    exact (h3 j (by simp [hj])).2
  · rintro ⟨h1, h2, h3, h4, h5⟩
    refine ⟨by simp [h3], List.nodup_cons.2 ⟨fun hk => ?_, h4⟩, fun j hj => ?_⟩
    · have := (h5 k hk).2
      rw [set_getD (by omega), if_pos rfl] at this
      cases this
    · rcases List.mem_cons.1 hj with rfl | hj
      · exact ⟨h1, h2⟩
      · obtain ⟨h6, h7⟩ := h5 j hj
        refine ⟨h6, ?_⟩
        by_cases e : j = k
        · rw [e]; exact h2
        · rw [set_getD (by omega), if_neg e] at h7; exact h7

/-- The columns that are left. -/
def lefts (us : List Bool) : Nat := us.count false
theorem lefts_set {us : List Bool} {k : Nat} (hk : k < us.length) (h : us.getD k false = false) : lefts (us.set k true) + 1 = lefts us := by
  unfold lefts
  have e : us[k] = false := by simpa [hk] using h
  rw [List.count_set hk, e]
  have := List.count_pos_iff.2 (show false ∈ us by rw [← e]; exact List.getElem_mem hk)
  simp
  omega

/-- How far the columns of a row have been gone through. -/
def soFar (c : List (List Int)) (n f r : Nat) (us : List Bool) (k : Nat) (a : Int × List Nat) : Prop :=
  ((∀ j, j < k → us.getD j false = true) ∧ a = (-1, [])) ∨ (chz n (f + 1) us a.2 ∧ (∃ j, j < k ∧ a.2.head? = some j) ∧ a.1 = cst c r a.2 ∧ ∀ l, chz n (f + 1) us l → (∀ j, l.head? = some j → j < k) → cst c r a.2 ≤ cst c r l ∧ (cst c r l = cst c r a.2 → lx a.2 l))

theorem bst_best {c : List (List Int)} {n : Nat} (hc : ∀ r k, 0 ≤ cAtM c r k) : ∀ (f r : Nat) (us : List Bool), us.length = n → lefts us = f → isB c n f r us (bst c n f r us).2 ∧ (bst c n f r us).1 = cst c r (bst c n f r us).2 := by
  intro f
  induction f with
  | zero =>
    intro r us _ _
    refine ⟨⟨⟨rfl, List.nodup_nil, fun k hk => by cases hk⟩, fun l hl => ?_⟩, rfl⟩
    have : l = [] := List.length_eq_zero_iff.1 hl.1
    subst this
    exact ⟨Int.le_refl _, fun _ => trivial⟩
  | succ f ih =>
    intro r us hn hl
    have key : ∀ k, k ≤ n → soFar c n f r us k ((List.range k).foldl (pickM c r us fun k => bst c n f (r + 1) (us.set k true)) (-1, [])) := by
      intro k
      induction k with
      | zero => intro _; exact .inl ⟨fun j hj => absurd hj (Nat.not_lt_zero _), rfl⟩
      | succ k ihk =>
        intro hk
        have h0 := ihk (by omega)
        rw [List.range_succ, List.foldl_append, List.foldl_cons, List.foldl_nil]
        generalize (List.range k).foldl (pickM c r us fun k => bst c n f (r + 1) (us.set k true)) (-1, []) = a at h0 ⊢
        by_cases hu : us.getD k false = true
        · rw [pickM_used hu]
          rcases h0 with ⟨h1, h2⟩ | ⟨h1, ⟨j, h2, h3⟩, h4, h5⟩
          · refine .inl ⟨fun j hj => ?_, h2⟩
            by_cases e : j = k
            · rw [e]; exact hu
            · exact h1 j (by omega)
          · refine .inr ⟨h1, ⟨j, by omega, h3⟩, h4, fun l hl hh => h5 l hl fun i hi => ?_⟩
            have := hh i hi
            by_cases e : i = k
            · cases l with
              | nil => cases hi
              | cons x y =>
                simp at hi
                have := (hl.2.2 x (by simp)).2
                rw [hi, e, hu] at this
                cases this
            · omega
        · obtain ⟨b, hbb⟩ : ∃ b, bst c n f (r + 1) (us.set k true) = b := ⟨_, rfl⟩
          rw [pickM_new (b := b) hu hbb]
          have hu : us.getD k false = false := by simpa using hu
          obtain ⟨⟨g1, g2⟩, g3⟩ := ih (r + 1) (us.set k true) (by simp [hn]) (by have := lefts_set (us := us) (k := k) (by omega) hu; omega)
          rw [hbb] at g1 g2 g3
          have hck : cst c r (k :: b.2) = b.1 + cAtM c r k := by rw [cst, g3]; omega
          have hch : chz n (f + 1) us (k :: b.2) := (chz_cons hn).2 ⟨by omega, hu, g1⟩
          -- all that begin with k are no better
          have hkk : ∀ l, chz n (f + 1) us (k :: l) → cst c r (k :: b.2) ≤ cst c r (k :: l) ∧ (cst c r (k :: l) = cst c r (k :: b.2) → lx (k :: b.2) (k :: l)) := by
            intro l hl
            obtain ⟨_, _, hl⟩ := (chz_cons hn).1 hl
            obtain ⟨q1, q2⟩ := g2 l hl
            rw [cst, cst]
            exact ⟨by omega, fun e => .inr ⟨rfl, q2 (by omega)⟩⟩
          by_cases hb : a.1 < 0 ∨ b.1 + cAtM c r k < a.1
          · rw [if_pos hb]
            refine .inr ⟨hch, ⟨k, by omega, rfl⟩, hck.symm, fun l hl hh => ?_⟩
            show cst c r (k :: b.2) ≤ cst c r l ∧ (cst c r l = cst c r (k :: b.2) → lx (k :: b.2) l)
            cases l with
            | nil => have := hl.1; simp at this
            | cons x y =>
              have hx := hh x rfl
              by_cases e : x = k
              · subst e; exact hkk y hl
              · rcases h0 with ⟨h1, _⟩ | ⟨h1, _, h4, h5⟩
                · have := (hl.2.2 x (by simp)).2
                  rw [h1 x (by omega)] at this
                  cases this
                · have hx2 := h5 (x :: y) hl (fun j hj => by simp at hj; omega)
                  have := cst_nonneg hc a.2 r
                  rcases hb with hb | hb
                  · omega
                  · exact ⟨by omega, fun e => by omega⟩
          · rw [if_neg hb]
            rcases h0 with ⟨_, rfl⟩ | ⟨h1, ⟨j, h2, h3⟩, h4, h5⟩
            · exact absurd (.inl (by decide)) hb
            · refine .inr ⟨h1, ⟨j, by omega, h3⟩, h4, fun l hl hh => ?_⟩
              cases l with
              | nil => have := hl.1; simp at this
              | cons x y =>
                have hx := hh x rfl
                by_cases e : x = k
                · subst e
                  obtain ⟨q1, q2⟩ := hkk y hl
                  have hb : ¬ (b.1 + cAtM c r x < a.1) := fun h => hb (.inr h)
                  refine ⟨by omega, fun _ => ?_⟩
                  cases ha : a.2 with
                  | nil => trivial
                  | cons u v =>
                    rw [ha] at h3
                    simp at h3
                    exact .inl (by omega)
                · exact h5 (x :: y) hl (fun j hj => by simp at hj; omega)
    have hk := key n (Nat.le_refl _)
    show isB c n (f + 1) r us ((List.range n).foldl (pickM c r us fun k => bst c n f (r + 1) (us.set k true)) (-1, [])).2 ∧ _
    rcases hk with ⟨h1, _⟩ | ⟨h1, _, h4, h5⟩
    · exfalso
      have : false ∈ us := List.count_pos_iff.1 (show 0 < us.count false by unfold lefts at hl; omega)
      obtain ⟨j, hj, e⟩ := List.mem_iff_getElem.1 this
      have h2 := h1 j (by omega)
      have h3 : us.getD j false = us[j] := by simp [hj]
      rw [h3, e] at h2
      cases h2
    · refine ⟨⟨h1, fun l hl => h5 l hl fun j hj => ?_⟩, h4⟩
      cases l with
      | nil => cases hj
      | cons x y => simp at hj; rw [← hj]; exact (hl.2.2 x (by simp)).1

/-- A row that costs more for all columns. -/
theorem cst_shift {c d : List (List Int)} {row : Nat} {y : Int} (h : ∀ r k, r = row → cAtM d r k = cAtM c r k + y) (h2 : ∀ r k, r ≠ row → cAtM d r k = cAtM c r k) : ∀ (m : List Nat) (r : Nat), cst d r m = cst c r m + if r ≤ row ∧ row < r + m.length then y else 0
  | [], r => by rw [cst, cst, if_neg (by simp only [List.length_nil]; omega)]; rfl
  | k :: m, r => by
    rw [cst, cst, cst_shift h h2 m (r + 1)]
    by_cases e : r = row
    · rw [h r k e, if_neg (by omega), if_pos (by simp; omega)]; omega
    · rw [h2 r k e]
      by_cases e2 : r + 1 ≤ row ∧ row < r + 1 + m.length
      · rw [if_pos e2, if_pos (by simp; omega)]; omega
      · rw [if_neg e2, if_neg (by simp only [List.length_cons]; omega)]; omega

/-- The best choice stays the best. -/
theorem isB_shift {c d : List (List Int)} {row n f r : Nat} {us : List Bool} {y : Int} (h : ∀ r k, r = row → cAtM d r k = cAtM c r k + y) (h2 : ∀ r k, r ≠ row → cAtM d r k = cAtM c r k) {m : List Nat} (hm : isB c n f r us m) : isB d n f r us m := by
  refine ⟨hm.1, fun l hl => ?_⟩
  obtain ⟨q1, q2⟩ := hm.2 l hl
  rw [cst_shift h h2 m r, cst_shift h h2 l r, hm.1.1, hl.1]
  exact ⟨by omega, fun e => q2 (by omega)⟩

theorem lx_up : ∀ (l : List Nat) (r : Nat), l.Nodup → (∀ k ∈ l, r ≤ k) → lx (List.range' r l.length) l
  | [], _, _, _ => trivial
  | a :: x, r, hn, hr => by
    obtain ⟨h1, h2⟩ := List.nodup_cons.1 hn
    have ha := hr a (by simp)
    rw [List.length_cons, List.range'_succ]
    by_cases e : r = a
    · exact .inr ⟨e, lx_up x (r + 1) h2 fun k hk => by
        have := hr k (by simp [hk])
        have : k ≠ r := fun e2 => h1 (by rw [← e, ← e2]; exact hk)
        omega⟩
    · exact .inl (by omega)

theorem cst_diag {c : List (List Int)} (h : ∀ i, cAtM c i i = 0) : ∀ (f r : Nat), cst c r (List.range' r f) = 0
  | 0, _ => rfl
  | f + 1, r => by rw [List.range'_succ, cst, h, cst_diag h f (r + 1)]; rfl

/-- Where each row costs nothing at its own column, each has its own. -/
theorem isB_diag {c : List (List Int)} {n : Nat} {us : List Bool} (hc : ∀ r k, 0 ≤ cAtM c r k) (h : ∀ i, cAtM c i i = 0) (hu : ∀ k, us.getD k false = false) : isB c n n 0 us (List.range n) := by
  rw [List.range_eq_range']
  refine ⟨⟨by simp, List.nodup_range', fun k hk => ⟨?_, hu k⟩⟩, fun l hl => ?_⟩
  · have := List.mem_range'_1.1 hk; omega
  · rw [cst_diag h]
    have := cst_nonneg hc l 0
    refine ⟨this, fun _ => ?_⟩
    have h1 := lx_up l 0 hl.2.1 (fun k _ => Nat.zero_le k)
    rw [hl.1] at h1
    exact h1

end Go.Proofs.YtfmhapajdnmhoafDoor.Dist
namespace Go.Proofs.YtfmhapajdnmhoafDoor.Dist

/-- Does a line differ; in how many lines texts do. -/
def dif1 (a b : List ByteArray) (i : Nat) : Nat := if i < a.length ∧ i < b.length ∧ a.getD i ByteArray.empty = b.getD i ByteArray.empty then 0 else 1
def difT (a b : List ByteArray) : Nat → Nat
  | 0 => 0
  | i + 1 => difT a b i + dif1 a b i
def dif (a b : List ByteArray) : Nat := difT a b (max a.length b.length)

theorem difT_le (a b : List ByteArray) : ∀ i, difT a b i ≤ i
  | 0 => Nat.le_refl _
  | i + 1 => by
    have := difT_le a b i
    have : dif1 a b i ≤ 1 := by unfold dif1; split <;> omega
    rw [difT]; omega

theorem dif_self (a : List ByteArray) : dif a a = 0 := by
  have : ∀ i, i ≤ a.length → difT a a i = 0 := by
    intro i
    induction i with
    | zero => intro _; rfl
    | succ i ih => intro h; rw [difT, ih (by omega)]; unfold dif1; rw [if_pos ⟨by omega, by omega, rfl⟩]
  unfold dif
  rw [Nat.max_self]
  exact this _ (Nat.le_refl _)

theorem dif1_comm (a b : List ByteArray) (i : Nat) : dif1 a b i = dif1 b a i := by
  unfold dif1
  by_cases h : i < a.length ∧ i < b.length ∧ a.getD i ByteArray.empty = b.getD i ByteArray.empty
  · rw [if_pos h, if_pos ⟨h.2.1, h.1, h.2.2.symm⟩]
  · rw [if_neg h, if_neg fun x => h ⟨x.2.1, x.1, x.2.2.symm⟩]

theorem dif_comm (a b : List ByteArray) : dif a b = dif b a := by
  have : ∀ i, difT a b i = difT b a i := by
    intro i
    induction i with
    | zero => rfl
    | succ i ih => rw [difT, difT, ih, dif1_comm]
  unfold dif
  rw [Nat.max_comm, this]

/-- The cost of a pair of places; the square. -/
def rcs (np nq : Nat) (ts : List (List ByteArray)) (i k : Nat) : Int :=
  if i < np ∧ k < nq then (dif (ts.getD i []) (ts.getD (np + k) []) : Int)
  else if i < np then (((ts.getD i []).length + 1) / 2 + 1 : Nat)
  else if k < nq then (((ts.getD (np + k) []).length + 1) / 2 + 1 : Nat)
  else 0
def rmx (np nq : Nat) (ts : List (List ByteArray)) : List (List Int) := (List.range (np + nq)).map fun i => (List.range (np + nq)).map fun k => rcs np nq ts i k

theorem cAtM_rmx {np nq : Nat} {ts : List (List ByteArray)} (i k : Nat) : cAtM (rmx np nq ts) i k = if i < np + nq ∧ k < np + nq then rcs np nq ts i k else 0 := by
  unfold cAtM rmx
  by_cases hi : i < np + nq
  · by_cases hk : k < np + nq
    · rw [if_pos ⟨hi, hk⟩]; simp [hi, hk]
    · rw [if_neg fun x => hk x.2]; simp [hi, hk]
  · rw [if_neg fun x => hi x.1]; simp [hi]

theorem rcs_nonneg (np nq : Nat) (ts : List (List ByteArray)) (i k : Nat) : 0 ≤ rcs np nq ts i k := by
  unfold rcs
  split
  · omega
  · split
    · omega
    · split <;> omega

theorem rmx_nonneg (np nq : Nat) (ts : List (List ByteArray)) (i k : Nat) : 0 ≤ cAtM (rmx np nq ts) i k := by
  rw [cAtM_rmx]
  split
  · exact rcs_nonneg _ _ _ _ _
  · omega

/-- Of a series with itself each place costs nothing. -/
theorem rmx_diag {n : Nat} {ts : List (List ByteArray)} (h : ∀ i, i < n → ts.getD i [] = ts.getD (n + i) []) (i : Nat) : cAtM (rmx n n ts) i i = 0 := by
  rw [cAtM_rmx]
  by_cases hi : i < n
  · rw [if_pos ⟨by omega, by omega⟩]
    unfold rcs
    rw [if_pos ⟨hi, hi⟩, h i hi, dif_self]; rfl
  · by_cases hj : i < n + n
    · rw [if_pos ⟨hj, hj⟩]
      unfold rcs
      rw [if_neg fun x => hi x.1, if_neg hi, if_neg hi]
    · rw [if_neg fun x => hj x.1]

/-- Which is which: by the first; those alone there last. -/
def rgo (np nq : Nat) (m : List Nat) : List (Int × Int) :=
  ((List.range np).map fun (i : Nat) => ((i : Int), if m.getD i 0 < nq then (m.getD i 0 : Int) else -1)) ++ (List.range nq).flatMap fun (k : Nat) => ((List.range' np nq).filter fun (i : Nat) => decide (m.getD i 0 = k)).map fun _ => ((-1 : Int), (k : Int))

end Go.Proofs.YtfmhapajdnmhoafDoor.Dist
namespace Go.Proofs.YtfmhapajdnmhoafDoor.Dist

theorem cst_app (c : List (List Int)) : ∀ (a b : List Nat) (r : Nat), cst c r (a ++ b) = cst c r a + cst c (r + a.length) b
  | [], b, r => by rw [List.nil_append, cst, List.length_nil, Nat.add_zero]; omega
  | k :: a, b, r => by
    rw [List.cons_append, cst, cst, cst_app c a b (r + 1), List.length_cons, show r + 1 + a.length = r + (a.length + 1) by omega]; omega
theorem lx_app : ∀ (p a b : List Nat), lx (p ++ a) (p ++ b) ↔ lx a b
  | [], _, _ => Iff.rfl
  | k :: p, a, b => by
    rw [List.cons_append, List.cons_append, lx, lx_app p a b]
    constructor
    · rintro (h | h)
      · omega
      · exact h.2
    · exact fun h => .inr ⟨rfl, h⟩

/-- Two rows one behind the other that cost the same. -/
theorem isB_up {c : List (List Int)} {n f : Nat} {us : List Bool} {p q : List Nat} {a b : Nat} (h : isB c n f 0 us (p ++ a :: b :: q)) (hc : ∀ k, cAtM c p.length k = cAtM c (p.length + 1) k) : a < b := by
  obtain ⟨⟨h1, h2, h3⟩, h4⟩ := h
  have hp : (p ++ b :: a :: q).Perm (p ++ a :: b :: q) := List.Perm.append_left p (List.Perm.swap a b q)
  have hz : chz n f us (p ++ b :: a :: q) := ⟨by rw [hp.length_eq]; exact h1, hp.nodup_iff.2 h2, fun k hk => h3 k (hp.mem_iff.1 hk)⟩
  have he : cst c 0 (p ++ b :: a :: q) = cst c 0 (p ++ a :: b :: q) := by
    rw [cst_app, cst_app, cst, cst, cst, cst, Nat.zero_add, hc a, hc b]; omega
  have hl := (lx_app _ _ _).1 ((h4 _ hz).2 he)
  have hn : a ≠ b := by
    rintro rfl
    have := (List.nodup_append.1 h2).2.1
    simp at this
  rcases hl with hl | hl
  · exact hl
  · exact absurd hl.1 hn

theorem split_two (m : List Nat) (i : Nat) (h : i + 1 < m.length) : m = m.take i ++ m.getD i 0 :: m.getD (i + 1) 0 :: m.drop (i + 2) := by
  conv => lhs; rw [← List.take_append_drop i m]
  rw [List.drop_eq_getElem_cons (by omega), List.drop_eq_getElem_cons (i := i + 1) h]
  simp [show i < m.length by omega, h]

theorem rise {c : List (List Int)} {n f lo hi : Nat} {us : List Bool} {m : List Nat} (h : isB c n f 0 us m) (hf : hi ≤ f) (hc : ∀ i, lo ≤ i → i + 1 < hi → ∀ k, cAtM c i k = cAtM c (i + 1) k) (i : Nat) (h1 : lo ≤ i) : ∀ j, i < j → j < hi → m.getD i 0 < m.getD j 0
  | 0, h2, _ => absurd h2 (Nat.not_lt_zero _)
  | j + 1, h2, h3 => by
    have hl := h.1.1
    have hs : m.getD j 0 < m.getD (j + 1) 0 := by
      rw [split_two m j (by omega)] at h
      refine isB_up h fun k => ?_
      rw [List.length_take, Nat.min_eq_left (by omega)]
      exact hc j (by omega) h3 k
    by_cases e : i = j
    · subst e; exact hs
    · exact Nat.lt_trans (rise h hf hc i h1 j (by omega) (by omega)) hs

theorem flat_none {α β : Type} (g : α → List β) : ∀ (l : List α), (∀ i ∈ l, g i = []) → l.flatMap g = []
  | [], _ => rfl
  | i :: l, h => by rw [List.flatMap_cons, h i (by simp), flat_none g l fun j hj => h j (by simp [hj])]; rfl
theorem filt_none {α : Type} (g : α → Bool) : ∀ (l : List α), (∀ i ∈ l, g i = false) → l.filter g = []
  | [], _ => rfl
  | i :: l, h => by rw [List.filter_cons_of_neg (by rw [h i (by simp)]; decide), filt_none g l fun j hj => h j (by simp [hj])]

theorem flat_step {β : Type} (f : Nat → Nat) (g : Nat → β) (q : Nat) : ∀ (l : List Nat), l.Pairwise (fun i j => f i < f j) →
    l.flatMap (fun i => if f i < q + 1 then [g (f i)] else []) = l.flatMap (fun i => if f i < q then [g (f i)] else []) ++ (l.filter fun i => decide (f i = q)).map fun _ => g q
  | [], _ => rfl
  | i :: l, h => by
    obtain ⟨h1, h2⟩ := List.pairwise_cons.1 h
    have ih := flat_step f g q l h2
    rw [List.flatMap_cons, List.flatMap_cons]
    by_cases e1 : f i < q
    · rw [if_pos (by omega), if_pos e1, ih, List.filter_cons_of_neg (by simp; omega), List.append_assoc]
    · have n1 : l.flatMap (fun i => if f i < q + 1 then [g (f i)] else []) = [] := flat_none _ _ fun j hj => by
        have := h1 j hj
        rw [if_neg (by omega)]
      have n2 : l.flatMap (fun i => if f i < q then [g (f i)] else []) = [] := flat_none _ _ fun j hj => by
        have := h1 j hj
        rw [if_neg (by omega)]
      have n3 : (l.filter fun i => decide (f i = q)) = [] := filt_none _ _ fun j hj => by
        have := h1 j hj
        simp; omega
      rw [n1, n2, if_neg e1]
      by_cases e2 : f i = q
      · rw [if_pos (by omega), List.filter_cons_of_pos (by simp [e2]), n3, e2]; rfl
      · rw [if_neg (by omega), List.filter_cons_of_neg (by simp [e2]), n3]; rfl

theorem flat_all {β : Type} (f : Nat → Nat) (g : Nat → β) {l : List Nat} (h : l.Pairwise fun i j => f i < f j) : ∀ q, l.flatMap (fun i => if f i < q then [g (f i)] else []) = (List.range q).flatMap fun k => (l.filter fun i => decide (f i = k)).map fun _ => g k
  | 0 => flat_none _ _ fun j _ => if_neg (Nat.not_lt_zero _)
  | q + 1 => by
    rw [flat_step f g q l h, flat_all f g h q, List.range_succ, List.flatMap_append, List.flatMap_cons, List.flatMap_nil, List.append_nil]

/-- The program's pairs, row by row. -/
def plI (i n : Nat) : Int := if i < n then (i : Int) else -1
def pr1 (np nq : Nat) (m : List Nat) (i : Nat) : List (Int × Int) :=
  if plI i np = -1 ∧ plI (m.getD i 0) nq = -1 then [] else [(plI i np, plI (m.getD i 0) nq)]
def prs (np nq : Nat) (m : List Nat) (k : Nat) : List (Int × Int) := (List.range k).flatMap (pr1 np nq m)
theorem prs_zero (np nq : Nat) (m : List Nat) : prs np nq m 0 = [] := rfl
theorem prs_succ (np nq : Nat) (m : List Nat) (k : Nat) : prs np nq m (k + 1) = prs np nq m k ++ pr1 np nq m k := by
  unfold prs
  rw [List.range_succ, List.flatMap_append, List.flatMap_cons, List.flatMap_nil, List.append_nil]

theorem flat_map {α β : Type} (g : α → List β) (f : α → β) : ∀ (l : List α), (∀ i ∈ l, g i = [f i]) → l.flatMap g = l.map f
  | [], _ => rfl
  | i :: l, h => by rw [List.flatMap_cons, h i (by simp), flat_map g f l fun j hj => h j (by simp [hj])]; rfl
theorem flat_eq {α β : Type} (g f : α → List β) : ∀ (l : List α), (∀ i ∈ l, g i = f i) → l.flatMap g = l.flatMap f
  | [], _ => rfl
  | i :: l, h => by rw [List.flatMap_cons, List.flatMap_cons, h i (by simp), flat_eq g f l fun j hj => h j (by simp [hj])]

theorem rcs_low {np nq : Nat} {ts : List (List ByteArray)} {i k : Nat} (h : np ≤ i) : rcs np nq ts i k = if k < nq then (((ts.getD (np + k) []).length + 1) / 2 + 1 : Nat) else 0 := by
  unfold rcs
  rw [if_neg (fun x => absurd x.1 (by omega)), if_neg (by omega : ¬ i < np)]
  split <;> simp

theorem prs_rgo {np nq : Nat} {ts : List (List ByteArray)} {us : List Bool} {m : List Nat} (h : isB (rmx np nq ts) (np + nq) (np + nq) 0 us m) : prs np nq m (np + nq) = rgo np nq m := by
  have hpw : (List.range' np nq).Pairwise fun i j => m.getD i 0 < m.getD j 0 := by
    refine List.Pairwise.imp_of_mem ?_ (List.pairwise_lt_range' (s := np) (n := nq))
    intro i j hi hj hij
    have hi := List.mem_range'_1.1 hi
    have hj := List.mem_range'_1.1 hj
    refine rise h (Nat.le_refl _) (lo := np) (fun r h1 h2 k => ?_) i hi.1 j hij hj.2
    rw [cAtM_rmx, cAtM_rmx]
    by_cases hk : k < np + nq
    · rw [if_pos ⟨by omega, hk⟩, if_pos ⟨h2, hk⟩]
      rw [rcs_low h1, rcs_low (by omega)]
    · rw [if_neg fun x => hk x.2, if_neg fun x => hk x.2]
  unfold prs rgo
  rw [List.range_eq_range', ← List.range'_append_1, List.flatMap_append, Nat.zero_add, ← List.range_eq_range']
  congr 1
  · refine flat_map _ _ _ fun i hi => ?_
    have hi := List.mem_range.1 hi
    unfold pr1
    have e : plI i np = (i : Int) := if_pos hi
    rw [e, if_neg (by omega)]; rfl
  · rw [← flat_all (fun i => m.getD i 0) (fun k => ((-1 : Int), (k : Int))) hpw nq]
    refine flat_eq _ _ _ fun i hi => ?_
    have hi := List.mem_range'_1.1 hi
    have e : plI i np = -1 := if_neg (by omega)
    unfold pr1
    rw [e]
    by_cases hm : m.getD i 0 < nq
    · rw [if_pos hm, show plI (m.getD i 0) nq = ((m.getD i 0 : Nat) : Int) from if_pos hm, if_neg (by omega)]
    · rw [if_neg hm, show plI (m.getD i 0) nq = -1 from if_neg hm, if_pos ⟨rfl, rfl⟩]

/-- The program's count of lines that differ: of all those that are not the same at their place. -/
def dfP (a b : List ByteArray) : Nat → Int
  | 0 => (max a.length b.length : Nat)
  | i + 1 => if a.getD i ByteArray.empty = b.getD i ByteArray.empty then dfP a b i - 1 else dfP a b i
theorem dfP_dif (a b : List ByteArray) : ∀ i, i ≤ min a.length b.length → dfP a b i = ((max a.length b.length : Nat) : Int) - i + difT a b i
  | 0, _ => by rw [dfP, difT]; omega
  | i + 1, h => by
    rw [dfP, difT, dif1, dfP_dif a b i (by omega)]
    by_cases e : a.getD i ByteArray.empty = b.getD i ByteArray.empty
    · rw [if_pos e, if_pos ⟨by omega, by omega, e⟩]; omega
    · rw [if_neg e, if_neg fun x => e x.2.2]; omega
theorem dfP_all (a b : List ByteArray) : dfP a b (min a.length b.length) = dif a b := by
  have : ∀ j, difT a b (min a.length b.length + j) = difT a b (min a.length b.length) + j := by
    intro j
    induction j with
    | zero => rfl
    | succ j ih =>
      rw [← Nat.add_assoc, difT, ih, dif1, if_neg (by omega)]; omega
  have h2 := this (max a.length b.length - min a.length b.length)
  rw [show min a.length b.length + (max a.length b.length - min a.length b.length) = max a.length b.length by omega] at h2
  rw [dfP_dif a b _ (Nat.le_refl _)]
  unfold dif
  omega

end Go.Proofs.YtfmhapajdnmhoafDoor.Dist
namespace Go.Proofs.YtfmhapajdnmhoafDoor.Dist

/-- A set without one. -/
def wo (s c : Nat) : Nat := s &&& (s ^^^ 2 ^ c)
theorem wo_bit (s c j : Nat) : (wo s c).testBit j = (s.testBit j && decide (c ≠ j)) := by
  unfold wo
  rw [Nat.testBit_and, Nat.testBit_xor, Nat.testBit_two_pow]
  cases s.testBit j <;> by_cases e : c = j <;> simp [e]
theorem wo_le (s c : Nat) : wo s c ≤ s := Nat.and_le_left
theorem wo_lt {s c : Nat} (h : s.testBit c = true) : wo s c < s := by
  refine Nat.lt_of_le_of_ne (wo_le s c) fun e => ?_
  have := wo_bit s c c
  rw [e, h] at this
  simp at this

/-- The columns that are used. -/
def usS (n s : Nat) : List Bool := (List.range n).map fun k => !s.testBit k
theorem usS_len (n s : Nat) : (usS n s).length = n := by simp [usS]
theorem usS_at {n s k : Nat} (h : k < n) : (usS n s).getD k false = !s.testBit k := by simp [usS, h]
theorem usS_wo {n s k : Nat} : usS n (wo s k) = (usS n s).set k true := by
  refine List.ext_getElem (by simp [usS]) fun i h1 h2 => ?_
  have hi : i < n := by simpa [usS] using h1
  rw [List.getElem_set]
  by_cases e : k = i
  · subst e
    simp [usS, wo_bit]
  · simp [usS, wo_bit, e]
theorem usS_all (n : Nat) : usS n (2 ^ n - 1) = List.replicate n false := by
  refine List.ext_getElem (by simp [usS]) fun i h1 h2 => ?_
  have hi : i < n := by simpa [usS] using h1
  simp [usS, Nat.testBit_two_pow_sub_one, hi]

/-- How many are left. -/
def szS (n s : Nat) : Nat := lefts (usS n s)
theorem szS_wo {n s k : Nat} (hk : k < n) (h : s.testBit k = true) : szS n (wo s k) + 1 = szS n s := by
  unfold szS
  rw [usS_wo]
  exact lefts_set (by rw [usS_len]; exact hk) (by rw [usS_at hk, h]; rfl)
theorem szS_all (n : Nat) : szS n (2 ^ n - 1) = n := by
  unfold szS lefts
  rw [usS_all]
  simp
theorem szS_le (n s : Nat) : szS n s ≤ n := by
  have h := List.count_le_length (a := false) (l := usS n s)
  rw [usS_len] at h
  exact h
theorem szS_one {n s k : Nat} (hk : k < n) (h : s.testBit k = true) : 0 < szS n s := by
  have := szS_wo hk h
  omega
theorem szS_zero (n : Nat) : szS n 0 = 0 := by
  unfold szS lefts usS
  rw [List.count_eq_zero]
  intro h
  obtain ⟨_, _, h⟩ := List.mem_map.1 h
  simp at h
theorem bit_lt {n s k : Nat} (hs : s < 2 ^ n) (h : s.testBit k = true) : k < n := by
  refine Nat.lt_of_not_le fun hk => ?_
  have := Nat.testBit_lt_two_pow (Nat.lt_of_lt_of_le hs (Nat.pow_le_pow_right (by decide) hk))
  rw [h] at this
  cases this
theorem szS_iff {n s : Nat} (hs : s < 2 ^ n) : szS n s = 0 ↔ s = 0 := by
  constructor
  · intro h
    refine Nat.eq_of_testBit_eq fun k => ?_
    rw [Nat.zero_testBit]
    cases e : s.testBit k
    · rfl
    · have := szS_one (bit_lt hs e) e
      omega
  · rintro rfl; exact szS_zero n
theorem wo_pow {n s k : Nat} (hs : s < 2 ^ n) : wo s k < 2 ^ n := Nat.lt_of_le_of_lt (wo_le s k) hs

/-- The best choice of the last rows of the columns that are left; what it costs. -/
def bsS (c : List (List Int)) (n s : Nat) : Int × List Nat := bst c n (szS n s) (n - szS n s) (usS n s)

theorem bsS_best {c : List (List Int)} (hc : ∀ r k, 0 ≤ cAtM c r k) (n s : Nat) : isB c n (szS n s) (n - szS n s) (usS n s) (bsS c n s).2 ∧ (bsS c n s).1 = cst c (n - szS n s) (bsS c n s).2 :=
  bst_best hc _ _ _ (usS_len n s) rfl
theorem bsS_nonneg {c : List (List Int)} (hc : ∀ r k, 0 ≤ cAtM c r k) (n s : Nat) : 0 ≤ (bsS c n s).1 := by
  rw [(bsS_best hc n s).2]
  exact cst_nonneg hc _ _
theorem bsS_zero (c : List (List Int)) (n : Nat) : bsS c n 0 = (0, []) := by
  unfold bsS
  rw [szS_zero]; rfl

/-- One column of the program's choice: (the column, what it costs). -/
def ch1 (row : List Int) (s : Nat) (g : Nat → Int) (a : Int × Int) (k : Nat) : Int × Int :=
  if s.testBit k = true then (if a.1 = -1 ∨ row.getD k 0 + g k < a.2 then ((k : Int), row.getD k 0 + g k) else a) else a
def chs (row : List Int) (s : Nat) (g : Nat → Int) (n : Nat) : Int × Int := (List.range n).foldl (ch1 row s g) (-1, 0)
theorem chs_zero (row : List Int) (s : Nat) (g : Nat → Int) : chs row s g 0 = (-1, 0) := rfl
theorem chs_succ (row : List Int) (s : Nat) (g : Nat → Int) (k : Nat) : chs row s g (k + 1) = ch1 row s g (chs row s g k) k := by
  unfold chs
  rw [List.range_succ, List.foldl_append, List.foldl_cons, List.foldl_nil]

theorem chs_bst {c : List (List Int)} (hc : ∀ r k, 0 ≤ cAtM c r k) {n s r : Nat} {g : Nat → Int} (hr : r + szS n s = n) (h0 : 0 < szS n s) (hg : ∀ k, k < n → s.testBit k = true → g k = (bsS c n (wo s k)).1) :
    ∃ k, k < n ∧ s.testBit k = true ∧ (bsS c n s).2 = k :: (bsS c n (wo s k)).2 ∧ chs (c.getD r []) s g n = ((k : Int), (bsS c n s).1) := by
  obtain ⟨f, hf⟩ : ∃ f, szS n s = f + 1 := ⟨szS n s - 1, by omega⟩
  have e : bsS c n s = (List.range n).foldl (pickM c r (usS n s) fun k => bst c n f (r + 1) ((usS n s).set k true)) (-1, []) := by
    unfold bsS
    rw [hf, show n - (f + 1) = r by omega]; rfl
  have hb : ∀ k, k < n → s.testBit k = true → bst c n f (r + 1) ((usS n s).set k true) = bsS c n (wo s k) := by
    intro k hk ht
    have := szS_wo hk ht
    unfold bsS
    rw [usS_wo, show szS n (wo s k) = f by omega, show n - f = r + 1 by omega]
  have key : ∀ i, i ≤ n → let a := (List.range i).foldl (pickM c r (usS n s) fun k => bst c n f (r + 1) ((usS n s).set k true)) (-1, [])
      let b := chs (c.getD r []) s g i
      (a = (-1, []) ∧ b = (-1, 0)) ∨ (∃ k, k < n ∧ s.testBit k = true ∧ 0 ≤ a.1 ∧ a.2 = k :: (bsS c n (wo s k)).2 ∧ b = ((k : Int), a.1)) := by
    intro i
    induction i with
    | zero => intro _; exact .inl ⟨rfl, rfl⟩
    | succ i ih =>
      intro hi
      have ih := ih (by omega)
      simp only [] at ih ⊢
      rw [chs_succ, List.range_succ, List.foldl_append, List.foldl_cons, List.foldl_nil]
      generalize (List.range i).foldl (pickM c r (usS n s) fun k => bst c n f (r + 1) ((usS n s).set k true)) (-1, []) = a at ih ⊢
      generalize chs (c.getD r []) s g i = b at ih ⊢
      by_cases ht : s.testBit i = true
      · rw [pickM_new (by rw [usS_at (by omega), ht]; decide) (hb i (by omega) ht)]
        unfold ch1
        rw [if_pos ht, hg i (by omega) ht]
        have hn := bsS_nonneg hc n (wo s i)
        have hci : 0 ≤ cAtM c r i := hc r i
        have hcc : (c.getD r []).getD i 0 = cAtM c r i := rfl
        rw [hcc]
        rcases ih with ⟨rfl, rfl⟩ | ⟨k, hk, hkt, h1, h2, rfl⟩
        · rw [if_pos (.inl (by decide)), if_pos (.inl rfl)]
          exact .inr ⟨i, by omega, ht, by simp only []; omega, rfl, by rw [Int.add_comm]⟩
        · by_cases hlt : (bsS c n (wo s i)).1 + cAtM c r i < a.1
          · rw [if_pos (.inr hlt), if_pos (.inr (by simp only []; omega))]
            exact .inr ⟨i, by omega, ht, by simp only []; omega, rfl, by rw [Int.add_comm]⟩
          · rw [if_neg (by rintro (h | h) <;> omega), if_neg (by rintro (h | h) <;> simp only [] at h <;> omega)]
            exact .inr ⟨k, hk, hkt, h1, h2, rfl⟩
      · have ht : s.testBit i = false := by simpa using ht
        rw [pickM_used (by rw [usS_at (by omega), ht]; rfl)]
        unfold ch1
        rw [if_neg (by rw [ht]; decide)]
        exact ih
  have hk := key n (Nat.le_refl _)
  simp only [] at hk
  rw [← e] at hk
  rcases hk with ⟨h1, _⟩ | ⟨k, hk, ht, h1, h2, h3⟩
  · exfalso
    have := (bsS_best hc n s).1.1.1
    rw [h1, hf] at this
    simp at this
  · exact ⟨k, hk, ht, h2, h3⟩

/-- All columns left: the document's own choice. -/
theorem bsS_all (c : List (List Int)) (n : Nat) : bsS c n (2 ^ n - 1) = bst c n n 0 (List.replicate n false) := by
  unfold bsS
  rw [szS_all, Nat.sub_self, usS_all]

/-- Is it a choice of the columns that are left? -/
def isC : Nat → List Int → Bool
  | s, [] => s == 0
  | s, c :: m => if 0 ≤ c ∧ s.testBit c.toNat = true then isC (wo s c.toNat) m else false
theorem isC_iff {n : Nat} : ∀ {m : List Int} {s : Nat}, s < 2 ^ n → (isC s m = true ↔ (∀ x ∈ m, 0 ≤ x ∧ s.testBit x.toNat = true) ∧ m.Nodup ∧ m.length = szS n s)
  | [], s, hs => by
    rw [isC, beq_iff_eq, ← szS_iff hs]
    constructor
    · intro h; exact ⟨fun x hx => (nomatch hx), List.nodup_nil, by rw [h]; rfl⟩
    · intro h; exact h.2.2.symm
  | c :: m, s, hs => by
    rw [isC]
    by_cases h : 0 ≤ c ∧ s.testBit c.toNat = true
    · rw [if_pos h, isC_iff (m := m) (wo_pow hs), List.nodup_cons, List.length_cons]
      have h1 := szS_wo (bit_lt hs h.2) h.2
      constructor
      · rintro ⟨p1, p2, p3⟩
        refine ⟨fun x hx => ?_, ⟨fun hm => ?_, p2⟩, by omega⟩
        · rcases List.mem_cons.1 hx with rfl | hx
          · exact h
          · have := p1 x hx
            rw [wo_bit] at this
            simp only [Bool.and_eq_true] at this
            exact ⟨this.1, this.2.1⟩
        · have := (p1 c hm).2
          rw [wo_bit] at this
          simp at this
      · rintro ⟨p1, ⟨p2, p3⟩, p4⟩
        refine ⟨fun x hx => ?_, p3, by omega⟩
        obtain ⟨q1, q2⟩ := p1 x (by simp [hx])
        refine ⟨q1, ?_⟩
        rw [wo_bit, q2]
        have : c.toNat ≠ x.toNat := fun e => p2 (by rw [show c = x by omega]; exact hx)
        simp [this]
    · rw [if_neg h]
      constructor
      · intro h; cases h
      · intro p; exact absurd (p.1 c (by simp)) h

/-- A choice: as many as there are columns, each of them one, each once. -/
def okC (n : Nat) (m : List Int) : Prop := m.length = n ∧ (∀ x ∈ m, 0 ≤ x ∧ x < n) ∧ m.Nodup
theorem isC_all {n : Nat} {m : List Int} : isC (2 ^ n - 1) m = true ↔ okC n m := by
  have hp : 0 < 2 ^ n := Nat.pow_pos (by decide)
  rw [isC_iff (n := n) (by omega), szS_all]
  have hb : ∀ x : Int, 0 ≤ x → ((2 ^ n - 1).testBit x.toNat = true ↔ x < n) := by
    intro x hx
    rw [Nat.testBit_two_pow_sub_one, decide_eq_true_eq]
    omega
  constructor
  · rintro ⟨p1, p2, p3⟩
    exact ⟨p3, fun x hx => ⟨(p1 x hx).1, (hb x (p1 x hx).1).1 (p1 x hx).2⟩, p2⟩
  · rintro ⟨p1, p2, p3⟩
    exact ⟨fun x hx => ⟨(p2 x hx).1, (hb x (p2 x hx).1).2 (p2 x hx).2⟩, p3, p1⟩

end Go.Proofs.YtfmhapajdnmhoafDoor.Dist
namespace Go.Proofs.YtfmhapajdnmhoafDoor.Dist

/-- The fault of a row's costs; of a row; of rows; of a square. -/
def rng : List Int → Int
  | [] => 0
  | c :: r => if c < 0 ∨ 100000 < c then 1 else rng r
def rwf (n : Nat) (row : List Int) : Int := if row.length ≠ n then 2 else rng row
def rws (n : Nat) : List (List Int) → Int
  | [] => 0
  | r :: t => if rwf n r ≠ 0 then rwf n r else rws n t
def sqf (cs : List (List Int)) : Int := if 8 < cs.length then 3 else rws cs.length cs

theorem rng_all : ∀ {l : List Int}, (∀ j, j < l.length → ¬(l.getD j 0 < 0 ∨ 100000 < l.getD j 0)) → rng l = 0
  | [], _ => rfl
  | c :: r, h => by
    rw [rng, if_neg (by simpa using h 0 (by simp))]
    exact rng_all fun j hj => by simpa using h (j + 1) (by simpa using hj)
theorem rng_at : ∀ {l : List Int} {j : Nat}, j < l.length → (l.getD j 0 < 0 ∨ 100000 < l.getD j 0) → rng l = 1
  | [], _, h, _ => absurd h (by simp)
  | c :: r, 0, _, h => by rw [rng, if_pos (by simpa using h)]
  | c :: r, j + 1, hj, h => by
    rw [rng]
    split
    · rfl
    · exact rng_at (l := r) (j := j) (by simpa using hj) (by simpa using h)
theorem rng_or (l : List Int) : rng l = 0 ∨ rng l = 1 := by
  induction l with
  | nil => exact .inl rfl
  | cons c r ih =>
    rw [rng]
    split
    · exact .inr rfl
    · exact ih
theorem rng_zero : ∀ {l : List Int}, rng l = 0 → ∀ c ∈ l, 0 ≤ c ∧ c ≤ 100000
  | [], _, c, h => by cases h
  | x :: r, h0, c, h => by
    rw [rng] at h0
    split at h0
    · cases h0
    · rcases List.mem_cons.1 h with rfl | h
      · omega
      · exact rng_zero h0 c h
theorem rws_all {n : Nat} : ∀ {l : List (List Int)}, (∀ j, j < l.length → rwf n (l.getD j []) = 0) → rws n l = 0
  | [], _ => rfl
  | r :: t, h => by
    have h0 : rwf n r = 0 := by simpa using h 0 (by simp)
    rw [rws, if_neg (by simp [h0])]
    exact rws_all fun j hj => by simpa using h (j + 1) (by simpa using hj)
theorem rws_at {n : Nat} : ∀ {l : List (List Int)} {k : Nat}, k < l.length → (∀ j, j < k → rwf n (l.getD j []) = 0) → rwf n (l.getD k []) ≠ 0 → rws n l = rwf n (l.getD k [])
  | [], _, h, _, _ => absurd h (by simp)
  | r :: t, 0, _, _, h => by
    have h : rwf n r ≠ 0 := by simpa using h
    rw [rws, if_pos h]; rfl
  | r :: t, k + 1, hk, h, hb => by
    have h0 : rwf n r = 0 := by simpa using h 0 (by simp)
    rw [rws, if_neg (by simp [h0])]
    have := rws_at (l := t) (k := k) (by simpa using hk) (fun j hj => by simpa using h (j + 1) (by omega)) (by simpa using hb)
    simpa using this
theorem rws_zero {n : Nat} : ∀ {l : List (List Int)}, rws n l = 0 → ∀ r ∈ l, rwf n r = 0
  | [], _, r, h => by cases h
  | x :: t, h0, r, h => by
    rw [rws] at h0
    split at h0
    · rename_i hne; exact absurd h0 hne
    · rename_i hz
      rcases List.mem_cons.1 h with rfl | h
      · exact Decidable.not_not.1 hz
      · exact rws_zero h0 r h
theorem rwf_len {n : Nat} {r : List Int} (h : rwf n r = 0) : r.length = n ∧ rng r = 0 := by
  unfold rwf at h
  split at h
  · cases h
  · rename_i hl; exact ⟨Decidable.not_not.1 hl, h⟩

/-- A square of costs. -/
theorem sqf_zero {cs : List (List Int)} (h : sqf cs = 0) : cs.length ≤ 8 ∧ ∀ r ∈ cs, r.length = cs.length ∧ ∀ c ∈ r, 0 ≤ c ∧ c ≤ 100000 := by
  unfold sqf at h
  split at h
  · cases h
  · refine ⟨by omega, fun r hr => ?_⟩
    obtain ⟨h1, h2⟩ := rwf_len (rws_zero h r hr)
    exact ⟨h1, rng_zero h2⟩
theorem sqf_len {cs : List (List Int)} (h : sqf cs = 0) {i : Nat} (hi : i < cs.length) : (cs.getD i []).length = cs.length := by
  have := (sqf_zero h).2 cs[i] (List.getElem_mem hi)
  simpa [hi] using this.1
theorem sqf_cost {cs : List (List Int)} (h : sqf cs = 0) (i k : Nat) : 0 ≤ cAtM cs i k ∧ cAtM cs i k ≤ 100000 := by
  unfold cAtM
  by_cases hi : i < cs.length
  · have h2 := ((sqf_zero h).2 cs[i] (List.getElem_mem hi)).2
    have e : cs.getD i [] = cs[i] := by simp [hi]
    rw [e]
    by_cases hk : k < cs[i].length
    · have := h2 (cs[i])[k] (List.getElem_mem hk)
      simpa [hk] using this
    · simp [hk]
  · simp [hi]
theorem sqf_nonneg {cs : List (List Int)} (h : sqf cs = 0) (i k : Nat) : 0 ≤ cAtM cs i k := (sqf_cost h i k).1

theorem cst_le {c : List (List Int)} (h : ∀ i k, cAtM c i k ≤ 100000) : ∀ (m : List Nat) (r : Nat), cst c r m ≤ 100000 * m.length
  | [], _ => by rw [cst]; simp
  | k :: m, r => by
    have := cst_le h m (r + 1)
    have := h r k
    rw [cst, List.length_cons]; omega
theorem bsS_le {c : List (List Int)} (h0 : sqf c = 0) (n s : Nat) (hn : n ≤ 8) : (bsS c n s).1 ≤ 800000 := by
  obtain ⟨h1, h2⟩ := bsS_best (sqf_nonneg h0) n s
  have := cst_le (fun i k => (sqf_cost h0 i k).2) (bsS c n s).2 (n - szS n s)
  have h3 := h1.1.1
  have := szS_le n s
  rw [h2]; omega

end Go.Proofs.YtfmhapajdnmhoafDoor.Dist
