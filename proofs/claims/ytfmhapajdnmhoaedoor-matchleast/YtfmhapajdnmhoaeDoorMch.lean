/-
  Plain mathematics: the best choice of a square of costs: the least together, the first of several.
-/
import Derived.Test.YtfmhapajdnmhoaeDoorPlain

namespace Go.Proofs.YtfmhapajdnmhoaeDoor.Dist

/-- A cost; the costs of a choice, from a row on. -/
def cAtM (c : List (List Int)) (r k : Nat) : Int := (c.getD r []).getD k 0
def cst (c : List (List Int)) : Nat → List Nat → Int
  | _, [] => 0
  | r, k :: m => cAtM c r k + cst c (r + 1) m
/-- The first of two choices. -/
def lx : List Nat → List Nat → Prop
  | [], _ => True
  | _ :: _, [] => False
  | a :: x, b :: y => a < b ∨ (a = b ∧ lx x y)
/-- A choice of the columns that are left. -/
def chz (n f : Nat) (us : List Bool) (m : List Nat) : Prop := m.length = f ∧ m.Nodup ∧ ∀ k ∈ m, k < n ∧ us.getD k false = false
/-- The best of them. -/
def isB (c : List (List Int)) (n f r : Nat) (us : List Bool) (m : List Nat) : Prop := chz n f us m ∧ ∀ l, chz n f us l → cst c r m ≤ cst c r l ∧ (cst c r l = cst c r m → lx m l)

theorem lx_refl (m : List Nat) : lx m m := by
  induction m with
  | nil => trivial
  | cons a x ih => exact .inr ⟨rfl, ih⟩

theorem lx_anti : ∀ {a b : List Nat}, a.length = b.length → lx a b → lx b a → a = b
  | [], [], _, _, _ => rfl
  | [], _ :: _, h, _, _ => by simp at h
  | _ :: _, [], h, _, _ => by simp at h
  | x :: a, y :: b, h, h1, h2 => by
    rcases h1 with h1 | ⟨rfl, h1⟩
    · rcases h2 with h2 | ⟨rfl, _⟩
      · omega
      · omega
    · rcases h2 with h2 | ⟨_, h2⟩
      · omega
      · rw [lx_anti (by simpa using h) h1 h2]

/-- There is one best choice. -/
theorem isB_one {c : List (List Int)} {n f r : Nat} {us : List Bool} {a b : List Nat} (ha : isB c n f r us a) (hb : isB c n f r us b) : a = b := by
  obtain ⟨a1, a2⟩ := ha
  obtain ⟨b1, b2⟩ := hb
  obtain ⟨p1, p2⟩ := a2 b b1
  obtain ⟨q1, q2⟩ := b2 a a1
  have e : cst c r a = cst c r b := by omega
  exact lx_anti (by rw [a1.1, b1.1]) (p2 e.symm) (q2 e)

def pickM (c : List (List Int)) (r : Nat) (us : List Bool) (g : Nat → Int × List Nat) (a : Int × List Nat) (k : Nat) : Int × List Nat :=
  if us.getD k false = true then a else if a.1 < 0 ∨ (g k).1 + cAtM c r k < a.1 then ((g k).1 + cAtM c r k, k :: (g k).2) else a
theorem pickM_used {c : List (List Int)} {r : Nat} {us : List Bool} {g : Nat → Int × List Nat} {a : Int × List Nat} {k : Nat} (h : us.getD k false = true) : pickM c r us g a k = a := by unfold pickM; rw [if_pos h]
theorem pickM_new {c : List (List Int)} {r : Nat} {us : List Bool} {g : Nat → Int × List Nat} {a b : Int × List Nat} {k : Nat} (h : ¬ us.getD k false = true) (hg : g k = b) : pickM c r us g a k = if a.1 < 0 ∨ b.1 + cAtM c r k < a.1 then (b.1 + cAtM c r k, k :: b.2) else a := by unfold pickM; rw [if_neg h, hg]
/-- The document's choice: column by column, the least so far. -/
def bst (c : List (List Int)) (n : Nat) : Nat → Nat → List Bool → Int × List Nat
  | 0, _, _ => (0, [])
  | f + 1, r, us => (List.range n).foldl (pickM c r us fun k => bst c n f (r + 1) (us.set k true)) (-1, [])

theorem cst_nonneg {c : List (List Int)} (h : ∀ r k, 0 ≤ cAtM c r k) : ∀ (m : List Nat) (r : Nat), 0 ≤ cst c r m
  | [], _ => by rw [cst]; omega
  | k :: m, r => by
    have := cst_nonneg h m (r + 1)
    have := h r k
    rw [cst]; omega

theorem set_getD {us : List Bool} {k j : Nat} (hk : k < us.length) : (us.set k true).getD j false = if j = k then true else us.getD j false := by
  by_cases e : j = k
  · subst e
    rw [if_pos rfl]
    simp [hk]
  · rw [if_neg e]
    simp [show ¬ k = j from fun x => e x.symm]

/-- A choice whose first is told, and its rest. -/
theorem chz_cons {n f : Nat} {us : List Bool} {k : Nat} {m : List Nat} (hn : us.length = n) : chz n (f + 1) us (k :: m) ↔ k < n ∧ us.getD k false = false ∧ chz n f (us.set k true) m := by
  constructor
  · rintro ⟨h1, h2, h3⟩
    obtain ⟨h4, h5⟩ := List.nodup_cons.1 h2
    obtain ⟨h6, h7⟩ := h3 k (by simp)
    refine ⟨h6, h7, by simpa using h1, h5, fun j hj => ⟨(h3 j (by simp [hj])).1, ?_⟩⟩
    rw [set_getD (by omega), if_neg (fun e => h4 (by rw [← e]; exact hj))]
    exact (h3 j (by simp [hj])).2
  · rintro ⟨h1, h2, h3, h4, h5⟩
    refine ⟨by simp [h3], List.nodup_cons.2 ⟨fun hk => ?_, h4⟩, fun j hj => ?_⟩
    · have := (h5 k hk).2
      rw [set_getD (by omega), if_pos rfl] at this
      cases this
    · rcases List.mem_cons.1 hj with rfl | hj
      · exact ⟨h1, h2⟩
      · obtain ⟨h6, h7⟩ := h5 j hj
        refine ⟨h6, ?_⟩
        by_cases e : j = k
        · rw [e]; exact h2
        · rw [set_getD (by omega), if_neg e] at h7; exact h7

/-- The columns that are left. -/
def lefts (us : List Bool) : Nat := us.count false
theorem lefts_set {us : List Bool} {k : Nat} (hk : k < us.length) (h : us.getD k false = false) : lefts (us.set k true) + 1 = lefts us := by
  unfold lefts
  have e : us[k] = false := by simpa [hk] using h
  rw [List.count_set hk, e]
  have := List.count_pos_iff.2 (show false ∈ us by rw [← e]; exact List.getElem_mem hk)
  simp
  omega

/-- How far the columns of a row have been gone through. -/
def soFar (c : List (List Int)) (n f r : Nat) (us : List Bool) (k : Nat) (a : Int × List Nat) : Prop :=
  ((∀ j, j < k → us.getD j false = true) ∧ a = (-1, [])) ∨ (chz n (f + 1) us a.2 ∧ (∃ j, j < k ∧ a.2.head? = some j) ∧ a.1 = cst c r a.2 ∧ ∀ l, chz n (f + 1) us l → (∀ j, l.head? = some j → j < k) → cst c r a.2 ≤ cst c r l ∧ (cst c r l = cst c r a.2 → lx a.2 l))

theorem bst_best {c : List (List Int)} {n : Nat} (hc : ∀ r k, 0 ≤ cAtM c r k) : ∀ (f r : Nat) (us : List Bool), us.length = n → lefts us = f → isB c n f r us (bst c n f r us).2 ∧ (bst c n f r us).1 = cst c r (bst c n f r us).2 := by
  intro f
  induction f with
  | zero =>
    intro r us _ _
    refine ⟨⟨⟨rfl, List.nodup_nil, fun k hk => by cases hk⟩, fun l hl => ?_⟩, rfl⟩
    have : l = [] := List.length_eq_zero_iff.1 hl.1
    subst this
    exact ⟨Int.le_refl _, fun _ => trivial⟩
  | succ f ih =>
    intro r us hn hl
    have key : ∀ k, k ≤ n → soFar c n f r us k ((List.range k).foldl (pickM c r us fun k => bst c n f (r + 1) (us.set k true)) (-1, [])) := by
      intro k
      induction k with
      | zero => intro _; exact .inl ⟨fun j hj => absurd hj (Nat.not_lt_zero _), rfl⟩
      | succ k ihk =>
        intro hk
        have h0 := ihk (by omega)
        rw [List.range_succ, List.foldl_append, List.foldl_cons, List.foldl_nil]
        generalize (List.range k).foldl (pickM c r us fun k => bst c n f (r + 1) (us.set k true)) (-1, []) = a at h0 ⊢
        by_cases hu : us.getD k false = true
        · rw [pickM_used hu]
          rcases h0 with ⟨h1, h2⟩ | ⟨h1, ⟨j, h2, h3⟩, h4, h5⟩
          · refine .inl ⟨fun j hj => ?_, h2⟩
            by_cases e : j = k
            · rw [e]; exact hu
            · exact h1 j (by omega)
          · refine .inr ⟨h1, ⟨j, by omega, h3⟩, h4, fun l hl hh => h5 l hl fun i hi => ?_⟩
            have := hh i hi
            by_cases e : i = k
            · cases l with
              | nil => cases hi
              | cons x y =>
                simp at hi
                have := (hl.2.2 x (by simp)).2
                rw [hi, e, hu] at this
                cases this
            · omega
        · obtain ⟨b, hbb⟩ : ∃ b, bst c n f (r + 1) (us.set k true) = b := ⟨_, rfl⟩
          rw [pickM_new (b := b) hu hbb]
          have hu : us.getD k false = false := by simpa using hu
          obtain ⟨⟨g1, g2⟩, g3⟩ := ih (r + 1) (us.set k true) (by simp [hn]) (by have := lefts_set (us := us) (k := k) (by omega) hu; omega)
          rw [hbb] at g1 g2 g3
          have hck : cst c r (k :: b.2) = b.1 + cAtM c r k := by rw [cst, g3]; omega
          have hch : chz n (f + 1) us (k :: b.2) := (chz_cons hn).2 ⟨by omega, hu, g1⟩
          -- all that begin with k are no better
          have hkk : ∀ l, chz n (f + 1) us (k :: l) → cst c r (k :: b.2) ≤ cst c r (k :: l) ∧ (cst c r (k :: l) = cst c r (k :: b.2) → lx (k :: b.2) (k :: l)) := by
            intro l hl
            obtain ⟨_, _, hl⟩ := (chz_cons hn).1 hl
            obtain ⟨q1, q2⟩ := g2 l hl
            rw [cst, cst]
            exact ⟨by omega, fun e => .inr ⟨rfl, q2 (by omega)⟩⟩
          by_cases hb : a.1 < 0 ∨ b.1 + cAtM c r k < a.1
          · rw [if_pos hb]
            refine .inr ⟨hch, ⟨k, by omega, rfl⟩, hck.symm, fun l hl hh => ?_⟩
            show cst c r (k :: b.2) ≤ cst c r l ∧ (cst c r l = cst c r (k :: b.2) → lx (k :: b.2) l)
            cases l with
            | nil => have := hl.1; simp at this
            | cons x y =>
              have hx := hh x rfl
              by_cases e : x = k
              · subst e; exact hkk y hl
              · rcases h0 with ⟨h1, _⟩ | ⟨h1, _, h4, h5⟩
                · have := (hl.2.2 x (by simp)).2
                  rw [h1 x (by omega)] at this
                  cases this
                · have hx2 := h5 (x :: y) hl (fun j hj => by simp at hj; omega)
                  have := cst_nonneg hc a.2 r
                  rcases hb with hb | hb
                  · omega
                  · exact ⟨by omega, fun e => by omega⟩
          · rw [if_neg hb]
            rcases h0 with ⟨_, rfl⟩ | ⟨h1, ⟨j, h2, h3⟩, h4, h5⟩
            · exact absurd (.inl (by decide)) hb
            · refine .inr ⟨h1, ⟨j, by omega, h3⟩, h4, fun l hl hh => ?_⟩
              cases l with
              | nil => have := hl.1; simp at this
              | cons x y =>
                have hx := hh x rfl
                by_cases e : x = k
                · subst e
                  obtain ⟨q1, q2⟩ := hkk y hl
                  have hb : ¬ (b.1 + cAtM c r x < a.1) := fun h => hb (.inr h)
                  refine ⟨by omega, fun _ => ?_⟩
                  cases ha : a.2 with
                  | nil => trivial
                  | cons u v =>
                    rw [ha] at h3
                    simp at h3
                    exact .inl (by omega)
                · exact h5 (x :: y) hl (fun j hj => by simp at hj; omega)
    have hk := key n (Nat.le_refl _)
    show isB c n (f + 1) r us ((List.range n).foldl (pickM c r us fun k => bst c n f (r + 1) (us.set k true)) (-1, [])).2 ∧ _
    rcases hk with ⟨h1, _⟩ | ⟨h1, _, h4, h5⟩
    · exfalso
      have : false ∈ us := List.count_pos_iff.1 (show 0 < us.count false by unfold lefts at hl; omega)
      obtain ⟨j, hj, e⟩ := List.mem_iff_getElem.1 this
      have h2 := h1 j (by omega)
      have h3 : us.getD j false = us[j] := by simp [hj]
      rw [h3, e] at h2
      cases h2
    · refine ⟨⟨h1, fun l hl => h5 l hl fun j hj => ?_⟩, h4⟩
      cases l with
      | nil => cases hj
      | cons x y => simp at hj; rw [← hj]; exact (hl.2.2 x (by simp)).1

/-- A row that costs more for all columns. -/
theorem cst_shift {c d : List (List Int)} {row : Nat} {y : Int} (h : ∀ r k, r = row → cAtM d r k = cAtM c r k + y) (h2 : ∀ r k, r ≠ row → cAtM d r k = cAtM c r k) : ∀ (m : List Nat) (r : Nat), cst d r m = cst c r m + if r ≤ row ∧ row < r + m.length then y else 0
  | [], r => by rw [cst, cst, if_neg (by simp only [List.length_nil]; omega)]; rfl
  | k :: m, r => by
    rw [cst, cst, cst_shift h h2 m (r + 1)]
    by_cases e : r = row
    · rw [h r k e, if_neg (by omega), if_pos (by simp; omega)]; omega
    · rw [h2 r k e]
      by_cases e2 : r + 1 ≤ row ∧ row < r + 1 + m.length
      · rw [if_pos e2, if_pos (by simp; omega)]; omega
      · rw [if_neg e2, if_neg (by simp only [List.length_cons]; omega)]; omega

/-- The best choice stays the best. -/
theorem isB_shift {c d : List (List Int)} {row n f r : Nat} {us : List Bool} {y : Int} (h : ∀ r k, r = row → cAtM d r k = cAtM c r k + y) (h2 : ∀ r k, r ≠ row → cAtM d r k = cAtM c r k) {m : List Nat} (hm : isB c n f r us m) : isB d n f r us m := by
  refine ⟨hm.1, fun l hl => ?_⟩
  obtain ⟨q1, q2⟩ := hm.2 l hl
  rw [cst_shift h h2 m r, cst_shift h h2 l r, hm.1.1, hl.1]
  exact ⟨by omega, fun e => q2 (by omega)⟩

theorem lx_up : ∀ (l : List Nat) (r : Nat), l.Nodup → (∀ k ∈ l, r ≤ k) → lx (List.range' r l.length) l
  | [], _, _, _ => trivial
  | a :: x, r, hn, hr => by
    obtain ⟨h1, h2⟩ := List.nodup_cons.1 hn
    have ha := hr a (by simp)
    rw [List.length_cons, List.range'_succ]
    by_cases e : r = a
    · exact .inr ⟨e, lx_up x (r + 1) h2 fun k hk => by
        have := hr k (by simp [hk])
        have : k ≠ r := fun e2 => h1 (by rw [← e, ← e2]; exact hk)
        omega⟩
    · exact .inl (by omega)

theorem cst_diag {c : List (List Int)} (h : ∀ i, cAtM c i i = 0) : ∀ (f r : Nat), cst c r (List.range' r f) = 0
  | 0, _ => rfl
  | f + 1, r => by rw [List.range'_succ, cst, h, cst_diag h f (r + 1)]; rfl

/-- Where each row costs nothing at its own column, each has its own. -/
theorem isB_diag {c : List (List Int)} {n : Nat} {us : List Bool} (hc : ∀ r k, 0 ≤ cAtM c r k) (h : ∀ i, cAtM c i i = 0) (hu : ∀ k, us.getD k false = false) : isB c n n 0 us (List.range n) := by
  rw [List.range_eq_range']
  refine ⟨⟨by simp, List.nodup_range', fun k hk => ⟨?_, hu k⟩⟩, fun l hl => ?_⟩
  · have := List.mem_range'_1.1 hk; omega
  · rw [cst_diag h]
    have := cst_nonneg hc l 0
    refine ⟨this, fun _ => ?_⟩
    have h1 := lx_up l 0 hl.2.1 (fun k _ => Nat.zero_le k)
    rw [hl.1] at h1
    exact h1

end Go.Proofs.YtfmhapajdnmhoaeDoor.Dist
