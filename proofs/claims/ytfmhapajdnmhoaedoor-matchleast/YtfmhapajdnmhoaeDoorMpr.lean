/-
  Plain mathematics: rows that cost the same have rising columns in the best choice; so pairs row by row are told as the document tells them.
-/
import Derived.Test.YtfmhapajdnmhoaeDoorMrg

namespace Go.Proofs.YtfmhapajdnmhoaeDoor.Dist

theorem cst_app (c : List (List Int)) : ∀ (a b : List Nat) (r : Nat), cst c r (a ++ b) = cst c r a + cst c (r + a.length) b
  | [], b, r => by rw [List.nil_append, cst, List.length_nil, Nat.add_zero]; omega
  | k :: a, b, r => by
    rw [List.cons_append, cst, cst, cst_app c a b (r + 1), List.length_cons, show r + 1 + a.length = r + (a.length + 1) by omega]; omega
theorem lx_app : ∀ (p a b : List Nat), lx (p ++ a) (p ++ b) ↔ lx a b
  | [], _, _ => Iff.rfl
  | k :: p, a, b => by
    rw [List.cons_append, List.cons_append, lx, lx_app p a b]
    constructor
    · rintro (h | h)
      · omega
      · exact h.2
    · exact fun h => .inr ⟨rfl, h⟩

/-- Two rows one behind the other that cost the same. -/
theorem isB_up {c : List (List Int)} {n f : Nat} {us : List Bool} {p q : List Nat} {a b : Nat} (h : isB c n f 0 us (p ++ a :: b :: q)) (hc : ∀ k, cAtM c p.length k = cAtM c (p.length + 1) k) : a < b := by
  obtain ⟨⟨h1, h2, h3⟩, h4⟩ := h
  have hp : (p ++ b :: a :: q).Perm (p ++ a :: b :: q) := List.Perm.append_left p (List.Perm.swap a b q)
  have hz : chz n f us (p ++ b :: a :: q) := ⟨by rw [hp.length_eq]; exact h1, hp.nodup_iff.2 h2, fun k hk => h3 k (hp.mem_iff.1 hk)⟩
  have he : cst c 0 (p ++ b :: a :: q) = cst c 0 (p ++ a :: b :: q) := by
    rw [cst_app, cst_app, cst, cst, cst, cst, Nat.zero_add, hc a, hc b]; omega
  have hl := (lx_app _ _ _).1 ((h4 _ hz).2 he)
  have hn : a ≠ b := by
    rintro rfl
    have := (List.nodup_append.1 h2).2.1
    simp at this
  rcases hl with hl | hl
  · exact hl
  · exact absurd hl.1 hn

theorem split_two (m : List Nat) (i : Nat) (h : i + 1 < m.length) : m = m.take i ++ m.getD i 0 :: m.getD (i + 1) 0 :: m.drop (i + 2) := by
  conv => lhs; rw [← List.take_append_drop i m]
  rw [List.drop_eq_getElem_cons (by omega), List.drop_eq_getElem_cons (i := i + 1) h]
  simp [show i < m.length by omega, h]

theorem rise {c : List (List Int)} {n f lo hi : Nat} {us : List Bool} {m : List Nat} (h : isB c n f 0 us m) (hf : hi ≤ f) (hc : ∀ i, lo ≤ i → i + 1 < hi → ∀ k, cAtM c i k = cAtM c (i + 1) k) (i : Nat) (h1 : lo ≤ i) : ∀ j, i < j → j < hi → m.getD i 0 < m.getD j 0
  | 0, h2, _ => absurd h2 (Nat.not_lt_zero _)
  | j + 1, h2, h3 => by
    have hl := h.1.1
    have hs : m.getD j 0 < m.getD (j + 1) 0 := by
      rw [split_two m j (by omega)] at h
      refine isB_up h fun k => ?_
      rw [List.length_take, Nat.min_eq_left (by omega)]
      exact hc j (by omega) h3 k
    by_cases e : i = j
    · subst e; exact hs
    · exact Nat.lt_trans (rise h hf hc i h1 j (by omega) (by omega)) hs

theorem flat_none {α β : Type} (g : α → List β) : ∀ (l : List α), (∀ i ∈ l, g i = []) → l.flatMap g = []
  | [], _ => rfl
  | i :: l, h => by rw [List.flatMap_cons, h i (by simp), flat_none g l fun j hj => h j (by simp [hj])]; rfl
theorem filt_none {α : Type} (g : α → Bool) : ∀ (l : List α), (∀ i ∈ l, g i = false) → l.filter g = []
  | [], _ => rfl
  | i :: l, h => by rw [List.filter_cons_of_neg (by rw [h i (by simp)]; decide), filt_none g l fun j hj => h j (by simp [hj])]

theorem flat_step {β : Type} (f : Nat → Nat) (g : Nat → β) (q : Nat) : ∀ (l : List Nat), l.Pairwise (fun i j => f i < f j) →
    l.flatMap (fun i => if f i < q + 1 then [g (f i)] else []) = l.flatMap (fun i => if f i < q then [g (f i)] else []) ++ (l.filter fun i => decide (f i = q)).map fun _ => g q
  | [], _ => rfl
  | i :: l, h => by
    obtain ⟨h1, h2⟩ := List.pairwise_cons.1 h
    have ih := flat_step f g q l h2
    rw [List.flatMap_cons, List.flatMap_cons]
    by_cases e1 : f i < q
    · rw [if_pos (by omega), if_pos e1, ih, List.filter_cons_of_neg (by simp; omega), List.append_assoc]
    · have n1 : l.flatMap (fun i => if f i < q + 1 then [g (f i)] else []) = [] := flat_none _ _ fun j hj => by
        have := h1 j hj
        rw [if_neg (by omega)]
      have n2 : l.flatMap (fun i => if f i < q then [g (f i)] else []) = [] := flat_none _ _ fun j hj => by
        have := h1 j hj
        rw [if_neg (by omega)]
      have n3 : (l.filter fun i => decide (f i = q)) = [] := filt_none _ _ fun j hj => by
        have := h1 j hj
        simp; omega
      rw [n1, n2, if_neg e1]
      by_cases e2 : f i = q
      · rw [if_pos (by omega), List.filter_cons_of_pos (by simp [e2]), n3, e2]; rfl
      · rw [if_neg (by omega), List.filter_cons_of_neg (by simp [e2]), n3]; rfl

theorem flat_all {β : Type} (f : Nat → Nat) (g : Nat → β) {l : List Nat} (h : l.Pairwise fun i j => f i < f j) : ∀ q, l.flatMap (fun i => if f i < q then [g (f i)] else []) = (List.range q).flatMap fun k => (l.filter fun i => decide (f i = k)).map fun _ => g k
  | 0 => flat_none _ _ fun j _ => if_neg (Nat.not_lt_zero _)
  | q + 1 => by
    rw [flat_step f g q l h, flat_all f g h q, List.range_succ, List.flatMap_append, List.flatMap_cons, List.flatMap_nil, List.append_nil]

/-- The program's pairs, row by row. -/
def plI (i n : Nat) : Int := if i < n then (i : Int) else -1
def pr1 (np nq : Nat) (m : List Nat) (i : Nat) : List (Int × Int) :=
  if plI i np = -1 ∧ plI (m.getD i 0) nq = -1 then [] else [(plI i np, plI (m.getD i 0) nq)]
def prs (np nq : Nat) (m : List Nat) (k : Nat) : List (Int × Int) := (List.range k).flatMap (pr1 np nq m)
theorem prs_zero (np nq : Nat) (m : List Nat) : prs np nq m 0 = [] := rfl
theorem prs_succ (np nq : Nat) (m : List Nat) (k : Nat) : prs np nq m (k + 1) = prs np nq m k ++ pr1 np nq m k := by
  unfold prs
  rw [List.range_succ, List.flatMap_append, List.flatMap_cons, List.flatMap_nil, List.append_nil]

theorem flat_map {α β : Type} (g : α → List β) (f : α → β) : ∀ (l : List α), (∀ i ∈ l, g i = [f i]) → l.flatMap g = l.map f
  | [], _ => rfl
  | i :: l, h => by rw [List.flatMap_cons, h i (by simp), flat_map g f l fun j hj => h j (by simp [hj])]; rfl
theorem flat_eq {α β : Type} (g f : α → List β) : ∀ (l : List α), (∀ i ∈ l, g i = f i) → l.flatMap g = l.flatMap f
  | [], _ => rfl
  | i :: l, h => by rw [List.flatMap_cons, List.flatMap_cons, h i (by simp), flat_eq g f l fun j hj => h j (by simp [hj])]

theorem rcs_low {np nq : Nat} {ts : List (List ByteArray)} {i k : Nat} (h : np ≤ i) : rcs np nq ts i k = if k < nq then (((ts.getD (np + k) []).length + 1) / 2 + 1 : Nat) else 0 := by
  unfold rcs
  rw [if_neg (fun x => absurd x.1 (by omega)), if_neg (by omega : ¬ i < np)]
  split <;> simp

theorem prs_rgo {np nq : Nat} {ts : List (List ByteArray)} {us : List Bool} {m : List Nat} (h : isB (rmx np nq ts) (np + nq) (np + nq) 0 us m) : prs np nq m (np + nq) = rgo np nq m := by
  have hpw : (List.range' np nq).Pairwise fun i j => m.getD i 0 < m.getD j 0 := by
    refine List.Pairwise.imp_of_mem ?_ (List.pairwise_lt_range' (s := np) (n := nq))
    intro i j hi hj hij
    have hi := List.mem_range'_1.1 hi
    have hj := List.mem_range'_1.1 hj
    refine rise h (Nat.le_refl _) (lo := np) (fun r h1 h2 k => ?_) i hi.1 j hij hj.2
    rw [cAtM_rmx, cAtM_rmx]
    by_cases hk : k < np + nq
    · rw [if_pos ⟨by omega, hk⟩, if_pos ⟨h2, hk⟩]
      rw [rcs_low h1, rcs_low (by omega)]
    · rw [if_neg fun x => hk x.2, if_neg fun x => hk x.2]
  unfold prs rgo
  rw [List.range_eq_range', ← List.range'_append_1, List.flatMap_append, Nat.zero_add, ← List.range_eq_range']
  congr 1
  · refine flat_map _ _ _ fun i hi => ?_
    have hi := List.mem_range.1 hi
    unfold pr1
    have e : plI i np = (i : Int) := if_pos hi
    rw [e, if_neg (by omega)]; rfl
  · rw [← flat_all (fun i => m.getD i 0) (fun k => ((-1 : Int), (k : Int))) hpw nq]
    refine flat_eq _ _ _ fun i hi => ?_
    have hi := List.mem_range'_1.1 hi
    have e : plI i np = -1 := if_neg (by omega)
    unfold pr1
    rw [e]
    by_cases hm : m.getD i 0 < nq
    · rw [if_pos hm, show plI (m.getD i 0) nq = ((m.getD i 0 : Nat) : Int) from if_pos hm, if_neg (by omega)]
    · rw [if_neg hm, show plI (m.getD i 0) nq = -1 from if_neg hm, if_pos ⟨rfl, rfl⟩]

/-- The program's count of lines that differ: of all those that are not the same at their place. -/
def dfP (a b : List ByteArray) : Nat → Int
  | 0 => (max a.length b.length : Nat)
  | i + 1 => if a.getD i ByteArray.empty = b.getD i ByteArray.empty then dfP a b i - 1 else dfP a b i
theorem dfP_dif (a b : List ByteArray) : ∀ i, i ≤ min a.length b.length → dfP a b i = ((max a.length b.length : Nat) : Int) - i + difT a b i
  | 0, _ => by rw [dfP, difT]; omega
  | i + 1, h => by
    rw [dfP, difT, dif1, dfP_dif a b i (by omega)]
    by_cases e : a.getD i ByteArray.empty = b.getD i ByteArray.empty
    · rw [if_pos e, if_pos ⟨by omega, by omega, e⟩]; omega
    · rw [if_neg e, if_neg fun x => e x.2.2]; omega
theorem dfP_all (a b : List ByteArray) : dfP a b (min a.length b.length) = dif a b := by
  have : ∀ j, difT a b (min a.length b.length + j) = difT a b (min a.length b.length) + j := by
    intro j
    induction j with
    | zero => rfl
    | succ j ih =>
      rw [← Nat.add_assoc, difT, ih, dif1, if_neg (by omega)]; omega
  have h2 := this (max a.length b.length - min a.length b.length)
  rw [show min a.length b.length + (max a.length b.length - min a.length b.length) = max a.length b.length by omega] at h2
  rw [dfP_dif a b _ (Nat.le_refl _)]
  unfold dif
  omega

end Go.Proofs.YtfmhapajdnmhoaeDoor.Dist
