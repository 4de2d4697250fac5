/-
  The plain mathematics of texts as lines: a text is cut at a byte in one way only; what is joined is cut so, what is cut is joined so. Files by path, as mathematics: paths in order of their bytes; what lies ahead of a path and what behind it; a file put and a file dropped.
-/
import Derived.Lib.Split
import Derived.Laws.Strings3
import Derived.Lib.Strings
namespace Go.Proofs.YtfmhapajdnmhoafDoor
open Go

/-- Each piece and the byte behind it. -/
def joinC (c : UInt8) : List (List UInt8) → List UInt8
  | [] => []
  | x :: t => x ++ c :: joinC c t

theorem joinC_append (c : UInt8) (a b : List (List UInt8)) : joinC c (a ++ b) = joinC c a ++ joinC c b := by
  induction a with
  | nil => rfl
  | cons x t ih => simp [joinC, ih]

theorem joinC_len (c : UInt8) (a : List (List UInt8)) : a.length ≤ (joinC c a).length := by
  induction a with
  | nil => simp [joinC]
  | cons x t ih => simp [joinC]; omega

/-- The pieces that end at the byte, and what is behind the last one. -/
def parts (c : UInt8) : List UInt8 → List (List UInt8) × List UInt8
  | [] => ([], [])
  | b :: r =>
    if b = c then ([] :: (parts c r).1, (parts c r).2)
    else match (parts c r).1 with
      | [] => ([], b :: (parts c r).2)
      | x :: t => ((b :: x) :: t, (parts c r).2)

theorem parts_free (c : UInt8) (a : List UInt8) (h : c ∉ a) : parts c a = ([], a) := by
  induction a with
  | nil => rfl
  | cons b r ih =>
    have hb : ¬ b = c := fun e => h (by simp [e])
    have hr : c ∉ r := fun e => h (by simp [e])
    simp [parts, hb, ih hr]

theorem parts_hit (c : UInt8) (a r : List UInt8) (h : c ∉ a) : parts c (a ++ c :: r) = (a :: (parts c r).1, (parts c r).2) := by
  induction a with
  | nil => simp [parts]
  | cons b t ih =>
    have hb : ¬ b = c := fun e => h (by simp [e])
    have ht : c ∉ t := fun e => h (by simp [e])
    rw [List.cons_append, parts, if_neg hb, ih ht]

theorem cases_at (c : UInt8) (s : List UInt8) : c ∉ s ∨ ∃ a r, c ∉ a ∧ s = a ++ c :: r := by
  induction s with
  | nil => left; simp
  | cons b t ih =>
    by_cases hb : b = c
    · right; exact ⟨[], t, by simp, by simp [hb]⟩
    · rcases ih with h | ⟨a, r, ha, rfl⟩
      · left; simp [h, Ne.symm hb]
      · right; exact ⟨b :: a, r, by simp [ha, Ne.symm hb], rfl⟩

theorem parts_of (c : UInt8) (i : List (List UInt8)) (l : List UInt8) (hi : ∀ x ∈ i, c ∉ x) (hl : c ∉ l) : parts c (joinC c i ++ l) = (i, l) := by
  induction i with
  | nil => simpa [joinC] using parts_free c l hl
  | cons x t ih =>
    have := ih (fun y hy => hi y (by simp [hy]))
    simp only [joinC, List.append_assoc, List.cons_append]
    rw [parts_hit c x _ (hi x (by simp)), this]

theorem parts_spec (c : UInt8) : ∀ (n : Nat) (s : List UInt8), s.length ≤ n → (∀ x ∈ (parts c s).1, c ∉ x) ∧ c ∉ (parts c s).2 ∧ joinC c (parts c s).1 ++ (parts c s).2 = s
  | 0, s, h => by
    have : s = [] := by cases s with
      | nil => rfl
      | cons _ _ => simp at h
    subst this; simp [parts, joinC]
  | n + 1, s, h => by
    rcases cases_at c s with hc | ⟨a, r, ha, rfl⟩
    · rw [parts_free c s hc]; simp [joinC, hc]
    · have ⟨h1, h2, h3⟩ := parts_spec c n r (by simp at h; omega)
      rw [parts_hit c a r ha]
      refine ⟨?_, h2, ?_⟩
      · intro x hx
        rcases List.mem_cons.1 hx with rfl | hx
        · exact ha
        · exact h1 x hx
      · simp [joinC, h3]

theorem parts_free1 (c : UInt8) (s : List UInt8) : ∀ x ∈ (parts c s).1, c ∉ x := (parts_spec c s.length s (Nat.le_refl _)).1
theorem parts_free2 (c : UInt8) (s : List UInt8) : c ∉ (parts c s).2 := (parts_spec c s.length s (Nat.le_refl _)).2.1
theorem parts_join (c : UInt8) (s : List UInt8) : joinC c (parts c s).1 ++ (parts c s).2 = s := (parts_spec c s.length s (Nat.le_refl _)).2.2

/-! ### 'Lib.index' and 'Lib.indexByte' at one byte -/
theorem index_miss (c : UInt8) (s : List UInt8) (h : c ∉ s) : Lib.index s [c] = -1 := by
  induction s with
  | nil => simp [Lib.index]
  | cons b t ih =>
    have hb : ¬ c = b := fun e => h (by simp [e])
    have ht : c ∉ t := fun e => h (by simp [e])
    rw [Lib.index, ih ht]
    simp [List.isPrefixOf, hb]

theorem index_hit (c : UInt8) (a r : List UInt8) (h : c ∉ a) : Lib.index (a ++ c :: r) [c] = a.length := by
  induction a with
  | nil => simp [Lib.index, List.isPrefixOf]
  | cons b t ih =>
    have hb : ¬ c = b := fun e => h (by simp [e])
    have ht : c ∉ t := fun e => h (by simp [e])
    have hne : ¬ ((t.length : Int) = -1) := by omega
    rw [List.cons_append, Lib.index, ih ht]
    simp [List.isPrefixOf, hb, hne]

theorem indexByte_miss (c : UInt8) (s : List UInt8) (h : c ∉ s) : Lib.indexByte s c = -1 := by
  induction s with
  | nil => rfl
  | cons b t ih =>
    have hb : ¬ b = c := fun e => h (by simp [e])
    have ht : c ∉ t := fun e => h (by simp [e])
    simp [Lib.indexByte, ih ht, hb]

theorem indexByte_hit (c : UInt8) (a r : List UInt8) (h : c ∉ a) : Lib.indexByte (a ++ c :: r) c = a.length := by
  induction a with
  | nil => simp [Lib.indexByte]
  | cons b t ih =>
    have hb : ¬ b = c := fun e => h (by simp [e])
    have ht : c ∉ t := fun e => h (by simp [e])
    have hne : ¬ ((t.length : Int) = -1) := by omega
    simp [Lib.indexByte, ih ht, hb, hne]

theorem indexByte_nonneg (c : UInt8) (s : List UInt8) : 0 ≤ Lib.indexByte s c ↔ c ∈ s := by
  rcases cases_at c s with h | ⟨a, r, ha, rfl⟩
  · rw [indexByte_miss c s h]; simp [h]
  · rw [indexByte_hit c a r ha]; simp

/-! ### The faults -/
/-- A line's fault: 2: it has a byte 10; 3: it is too long; else 0. -/
def lf (s : List UInt8) : Int := if 10 ∈ s then 2 else if 80 < s.length then 3 else 0
def lsg : List (List UInt8) → Int
  | [] => 0
  | s :: t => if lf s = 0 then lsg t else lf s
/-- Lines' fault. -/
def lsf (l : List (List UInt8)) : Int := if 60 < l.length then 3 else lsg l

theorem lf_cases (s : List UInt8) : lf s = 0 ∨ lf s = 2 ∨ lf s = 3 := by
  unfold lf; split
  · simp
  · split <;> simp

theorem lsg_cases (l : List (List UInt8)) : lsg l = 0 ∨ lsg l = 2 ∨ lsg l = 3 := by
  induction l with
  | nil => simp [lsg]
  | cons s t ih =>
    unfold lsg; split
    · exact ih
    · exact lf_cases s

theorem lsf_cases (l : List (List UInt8)) : lsf l = 0 ∨ lsf l = 2 ∨ lsf l = 3 := by
  unfold lsf; split
  · simp
  · exact lsg_cases l

theorem lsg_all (l : List (List UInt8)) : lsg l = 0 ↔ ∀ s ∈ l, lf s = 0 := by
  induction l with
  | nil => simp [lsg]
  | cons s t ih =>
    unfold lsg
    by_cases h : lf s = 0
    · rw [if_pos h, ih]; simp [h]
    · rw [if_neg h]; simp [h]

theorem lf_zero {s : List UInt8} (h : lf s = 0) : 10 ∉ s ∧ s.length ≤ 80 := by
  unfold lf at h
  split at h
  · simp at h
  · split at h
    · simp at h
    · exact ⟨by assumption, by omega⟩

theorem lsf_zero {l : List (List UInt8)} (h : lsf l = 0) : l.length ≤ 60 ∧ ∀ s ∈ l, lf s = 0 := by
  unfold lsf at h
  split at h
  · simp at h
  · exact ⟨by omega, (lsg_all l).1 h⟩

theorem lsf_zero_mk {l : List (List UInt8)} (h1 : l.length ≤ 60) (h2 : ∀ s ∈ l, lf s = 0) : lsf l = 0 := by
  unfold lsf
  rw [if_neg (by omega)]; exact (lsg_all l).2 h2

/-- How many bytes lines without a fault have, joined. -/
theorem joinC_small {l : List (List UInt8)} (h2 : ∀ s ∈ l, lf s = 0) : (joinC 10 l).length ≤ 81 * l.length := by
  induction l with
  | nil => simp [joinC]
  | cons s t ih =>
    have := ih (fun x hx => h2 x (by simp [hx]))
    have := (lf_zero (h2 s (by simp))).2
    simp [joinC]; omega

/-- What Split answers: the fault of a text. -/
def splitC (s : List UInt8) : Int := if (parts 10 s).2 = [] then lsf (parts 10 s).1 else 5

/-- Does a text end with byte 10, or is it empty? -/
theorem last_of (s : List UInt8) : (parts 10 s).2 = [] ↔ s = [] ∨ ∃ r, s = r ++ [10] := by
  have hj := parts_join 10 s
  have hf := parts_free2 10 s
  constructor
  · intro h
    rw [h, List.append_nil] at hj
    rcases List.eq_nil_or_concat (parts 10 s).1 with h0 | ⟨i, x, h0⟩
    · left; rw [← hj, h0]; rfl
    · right
      refine ⟨joinC 10 i ++ x, ?_⟩
      rw [List.concat_eq_append] at h0
      rw [← hj, h0, joinC_append]; simp [joinC]
  · rintro (rfl | ⟨r, hr⟩)
    · rfl
    · rcases List.eq_nil_or_concat (parts 10 s).2 with h0 | ⟨i, x, h0⟩
      · exact h0
      · exfalso
        rw [List.concat_eq_append] at h0
        rw [h0, ← List.append_assoc, hr] at hj
        have hx : x = 10 := by
          have := congrArg List.getLast? hj
          simpa using this
        apply hf; rw [h0, hx]; simp

theorem splitC_join {l : List (List UInt8)} (h : lsf l = 0) : parts 10 (joinC 10 l) = (l, []) ∧ splitC (joinC 10 l) = 0 := by
  have ⟨_, h2⟩ := lsf_zero h
  have e := parts_of 10 l [] (fun x hx => (lf_zero (h2 x hx)).1) (by simp)
  rw [List.append_nil] at e
  exact ⟨e, by unfold splitC; rw [e]; simpa using h⟩

theorem join_split {s : List UInt8} (h : splitC s = 0) : joinC 10 (parts 10 s).1 = s ∧ lsf (parts 10 s).1 = 0 := by
  unfold splitC at h
  split at h
  · rename_i h0
    have hj := parts_join 10 s
    rw [h0, List.append_nil] at hj
    exact ⟨hj, h⟩
  · simp at h

/-! ### 'splitK' at one byte -/
theorem splitK_miss (c : UInt8) (k : Nat) (s : List UInt8) (h : c ∉ s) : Lib.splitK [c] 0 k s = [s] := by
  cases k with
  | zero => rfl
  | succ k => rw [Lib.splitK, index_miss c s h]; simp

theorem splitK_hit (c : UInt8) (k : Nat) (a r : List UInt8) (h : c ∉ a) : Lib.splitK [c] 0 (k + 1) (a ++ c :: r) = a :: Lib.splitK [c] 0 k r := by
  rw [Lib.splitK, index_hit c a r h]
  have hne : ¬ ((a.length : Int) = -1) := by omega
  simp [hne]

/-- Cut at most k times: the first k pieces, and the rest. -/
theorem splitK_parts (c : UInt8) : ∀ (k : Nat) (s : List UInt8), ∃ r, Lib.splitK [c] 0 k s = (parts c s).1.take k ++ [r] ∧ ((parts c s).1.length ≤ k → r = (parts c s).2)
  | 0, s => ⟨s, by simp [Lib.splitK], fun h => by
      have h0 : (parts c s).1 = [] := List.length_eq_zero_iff.1 (by omega)
      have := parts_join c s
      rw [h0] at this; simpa [joinC] using this.symm⟩
  | k + 1, s => by
    rcases cases_at c s with h | ⟨a, r, ha, rfl⟩
    · exact ⟨s, by rw [splitK_miss c _ s h, parts_free c s h]; simp, fun _ => by rw [parts_free c s h]⟩
    · obtain ⟨x, hx, hx2⟩ := splitK_parts c k r
      exact ⟨x, by rw [splitK_hit c k a r ha, parts_hit c a r ha, hx]; simp, fun hl => by
        rw [parts_hit c a r ha] at hl ⊢
        exact hx2 (by simpa using hl)⟩

end Go.Proofs.YtfmhapajdnmhoafDoor
namespace Go.Proofs.YtfmhapajdnmhoafDoor
open Go

/-- A file: its path, its lines. -/
abbrev Fl := ByteArray × List ByteArray

def fz : Fl := (ByteArray.empty, [])

theorem bytesLess_irrefl (x : List UInt8) : Op.bytesLess x x = false := by
  induction x with
  | nil => rfl
  | cons a t ih => simp [Op.bytesLess, ih]

theorem bytesLess_trans {x y z : List UInt8} (h1 : Op.bytesLess x y = true) (h2 : Op.bytesLess y z = true) : Op.bytesLess x z = true := by
  induction x generalizing y z with
  | nil =>
    cases z with
    | nil => cases y <;> simp [Op.bytesLess] at h1 h2
    | cons c z => rfl
  | cons a x ih =>
    cases y with
    | nil => simp [Op.bytesLess] at h1
    | cons b y =>
      cases z with
      | nil => simp [Op.bytesLess] at h2
      | cons c z =>
        simp only [Op.bytesLess, Bool.or_eq_true, Bool.and_eq_true, decide_eq_true_eq, beq_iff_eq] at h1 h2 ⊢
        rcases h1 with h1 | ⟨rfl, h1⟩
        · rcases h2 with h2 | ⟨rfl, h2⟩
          · exact .inl (UInt8.lt_trans h1 h2)
          · exact .inl h1
        · rcases h2 with h2 | ⟨rfl, h2⟩
          · exact .inl h2
          · exact .inr ⟨rfl, ih h1 h2⟩

theorem bytesLess_tri {x y : List UInt8} (h1 : Op.bytesLess x y = false) (h2 : Op.bytesLess y x = false) : x = y := by
  induction x generalizing y with
  | nil =>
    cases y with
    | nil => rfl
    | cons b y => simp [Op.bytesLess] at h1
  | cons a x ih =>
    cases y with
    | nil => simp [Op.bytesLess] at h2
    | cons b y =>
      simp only [Op.bytesLess, Bool.or_eq_false_iff, Bool.and_eq_false_iff, decide_eq_false_iff_not, beq_eq_false_iff_ne] at h1 h2
      have e : a = b := UInt8.le_antisymm (UInt8.not_lt.1 h2.1) (UInt8.not_lt.1 h1.1)
      subst e
      have h3 := h1.2.resolve_left (fun h => h rfl)
      have h4 := h2.2.resolve_left (fun h => h rfl)
      rw [ih h3 h4]

/-- A path lies ahead of another one. -/
def bl (a b : ByteArray) : Bool := Op.bytesLess a.toList b.toList

theorem bl_irrefl (a : ByteArray) : bl a a = false := bytesLess_irrefl _
theorem bl_trans {a b c : ByteArray} (h1 : bl a b = true) (h2 : bl b c = true) : bl a c = true := bytesLess_trans h1 h2
theorem ba_ext {a b : ByteArray} (h : a.toList = b.toList) : a = b := by
  rw [Lib.toList_data, Lib.toList_data] at h
  exact ByteArray.ext (Array.toList_inj.1 h)
theorem bl_tri {a b : ByteArray} (h1 : bl a b = false) (h2 : bl b a = false) : a = b := ba_ext (bytesLess_tri h1 h2)
theorem bl_asymm {a b : ByteArray} (h : bl a b = true) : bl b a = false := by
  cases e : bl b a with
  | false => rfl
  | true => rw [← bl_irrefl a]; exact (bl_trans h e).symm
theorem bl_ne {a b : ByteArray} (h : bl a b = true) : a ≠ b := fun e => by rw [e, bl_irrefl] at h; cases h
theorem ba_beq (a b : ByteArray) : (a.toList == b.toList) = decide (a = b) := by
  by_cases h : a = b
  · subst h; simp
  · rw [decide_eq_false h, beq_eq_false_iff_ne]; exact fun e => h (ba_ext e)
/-- Not ahead of it: behind it, or the same. -/
theorem bl_le (a b : ByteArray) : (Op.bytesLess a.toList b.toList || a.toList == b.toList) = !bl b a := by
  rw [ba_beq]
  cases h : bl b a with
  | true =>
    have h1 := bl_asymm h
    unfold bl at h1
    rw [h1, decide_eq_false (fun e => bl_ne h e.symm)]; rfl
  | false =>
    cases h1 : Op.bytesLess a.toList b.toList with
    | true => rfl
    | false => rw [bl_tri (a := a) (b := b) h1 h]; simp

/-- Files whose paths rise. -/
def Ris (l : List Fl) : Prop := l.Pairwise fun x y => bl x.1 y.1 = true

def lo (l : List Fl) (p : ByteArray) : List Fl := l.filter fun x => bl x.1 p
def hi (l : List Fl) (p : ByteArray) : List Fl := l.filter fun x => bl p x.1
def eqs (l : List Fl) (p : ByteArray) : List Fl := l.filter fun x => decide (x.1 = p)

theorem mem_lo {l : List Fl} {p : ByteArray} {x : Fl} : x ∈ lo l p ↔ x ∈ l ∧ bl x.1 p = true := by simp [lo]
theorem mem_hi {l : List Fl} {p : ByteArray} {x : Fl} : x ∈ hi l p ↔ x ∈ l ∧ bl p x.1 = true := by simp [hi]
theorem mem_eqs {l : List Fl} {p : ByteArray} {x : Fl} : x ∈ eqs l p ↔ x ∈ l ∧ x.1 = p := by simp [eqs]

theorem lo_append (a b : List Fl) (p : ByteArray) : lo (a ++ b) p = lo a p ++ lo b p := List.filter_append _ _
theorem hi_append (a b : List Fl) (p : ByteArray) : hi (a ++ b) p = hi a p ++ hi b p := List.filter_append _ _
theorem eqs_append (a b : List Fl) (p : ByteArray) : eqs (a ++ b) p = eqs a p ++ eqs b p := List.filter_append _ _

theorem lo_all {l : List Fl} {p : ByteArray} (h : ∀ x ∈ l, bl x.1 p = true) : lo l p = l ∧ eqs l p = [] ∧ hi l p = [] := by
  refine ⟨List.filter_eq_self.2 h, List.filter_eq_nil_iff.2 fun x hx => ?_, List.filter_eq_nil_iff.2 fun x hx => ?_⟩
  · simpa using bl_ne (h x hx)
  · rw [bl_asymm (h x hx)]; simp
theorem hi_all {l : List Fl} {p : ByteArray} (h : ∀ x ∈ l, bl p x.1 = true) : lo l p = [] ∧ eqs l p = [] ∧ hi l p = l := by
  refine ⟨List.filter_eq_nil_iff.2 fun x hx => ?_, List.filter_eq_nil_iff.2 fun x hx => ?_, List.filter_eq_self.2 h⟩
  · rw [bl_asymm (h x hx)]; simp
  · simpa using fun e => bl_ne (h x hx) e.symm

/-- Files that rise are those ahead of a path, that of the path, those behind it. -/
theorem Ris.split {l : List Fl} (h : Ris l) (p : ByteArray) : l = lo l p ++ (eqs l p ++ hi l p) := by
  induction l with
  | nil => rfl
  | cons x t ih =>
    obtain ⟨h1, h2⟩ := List.pairwise_cons.1 h
    have ih := ih h2
    by_cases a : bl x.1 p = true
    · have e1 : lo (x :: t) p = x :: lo t p := List.filter_cons_of_pos a
      have e2 : eqs (x :: t) p = eqs t p := List.filter_cons_of_neg (by simpa using bl_ne a)
      have e3 : hi (x :: t) p = hi t p := List.filter_cons_of_neg (by rw [bl_asymm a]; simp)
      rw [e1, e2, e3, List.cons_append, ← ih]
    · have a : bl x.1 p = false := by simpa using a
      have hle : ∀ y ∈ t, bl p y.1 = true := fun y hy => by
        cases e : bl p x.1 with
        | true => exact bl_trans e (h1 y hy)
        | false => rw [← bl_tri a e]; exact h1 y hy
      obtain ⟨t1, t2, t3⟩ := hi_all hle
      have e1 : lo (x :: t) p = lo t p := List.filter_cons_of_neg (by rw [a]; simp)
      rw [e1, t1, List.nil_append]
      cases e : bl p x.1 with
      | true =>
        have e2 : eqs (x :: t) p = eqs t p := List.filter_cons_of_neg (by simpa using fun e' => bl_ne e e'.symm)
        have e3 : hi (x :: t) p = x :: hi t p := List.filter_cons_of_pos e
        rw [e2, e3, t2, t3]; rfl
      | false =>
        have e2 : eqs (x :: t) p = x :: eqs t p := List.filter_cons_of_pos (by simpa using bl_tri a e)
        have e3 : hi (x :: t) p = hi t p := List.filter_cons_of_neg (by rw [e]; simp)
        rw [e2, e3, t2, t3]; rfl

theorem Ris.one {l : List Fl} (h : Ris l) (p : ByteArray) : eqs l p = [] ∨ ∃ x, eqs l p = [x] ∧ x.1 = p := by
  have h2 : (eqs l p).Pairwise fun x y => bl x.1 y.1 = true := List.Pairwise.sublist (List.filter_sublist) h
  cases e : eqs l p with
  | nil => exact .inl rfl
  | cons x t =>
    have hx := (mem_eqs.1 (show x ∈ eqs l p by rw [e]; simp)).2
    cases t with
    | nil => exact .inr ⟨x, rfl, hx⟩
    | cons y t =>
      have hy := (mem_eqs.1 (show y ∈ eqs l p by rw [e]; simp)).2
      rw [e] at h2
      have := (List.pairwise_cons.1 h2).1 y (by simp)
      rw [hx, hy, bl_irrefl] at this; cases this

/-- The place of a path. -/
def pl (l : List Fl) (p : ByteArray) : Nat := (lo l p).length

theorem Ris.take {l : List Fl} (h : Ris l) (p : ByteArray) : l.take (pl l p) = lo l p := by
  have := congrArg (List.take (pl l p)) (h.split p)
  rw [this]
  unfold pl
  exact List.take_left
theorem Ris.drop {l : List Fl} (h : Ris l) (p : ByteArray) : l.drop (pl l p) = eqs l p ++ hi l p := by
  have := congrArg (List.drop (pl l p)) (h.split p)
  rw [this]
  unfold pl
  exact List.drop_left
theorem pl_le (l : List Fl) (p : ByteArray) : pl l p ≤ l.length := List.length_filter_le _ _

theorem Ris.drop_more {l : List Fl} (h : Ris l) {p : ByteArray} (h1 : eqs l p ≠ []) : l.drop (pl l p + 1) = hi l p ∧ pl l p < l.length ∧ (l.getD (pl l p) fz).1 = p ∧ eqs l p = [l.getD (pl l p) fz] := by
  rcases h.one p with e | ⟨x, e, hx⟩
  · exact absurd e h1
  · have hd := h.drop p
    rw [e] at hd
    have hlt : pl l p < l.length := by
      by_cases hh : pl l p < l.length
      · exact hh
      · rw [List.drop_of_length_le (by omega)] at hd; cases hd
    have hg : l.getD (pl l p) fz = x := by
      have := congrArg List.head? hd
      rw [List.head?_drop] at this
      simp at this
      simp [List.getD, this]
    refine ⟨?_, hlt, by rw [hg]; exact hx, by rw [hg, e]⟩
    have := congrArg (List.drop 1) hd
    rw [List.drop_drop] at this
    simpa using this

theorem Ris.none_at {l : List Fl} (h : Ris l) {p : ByteArray} (h1 : eqs l p = []) (h2 : pl l p < l.length) : (l.getD (pl l p) fz).1 ≠ p := by
  have hd := h.drop p
  rw [h1, List.nil_append] at hd
  rw [List.drop_eq_getElem_cons h2] at hd
  have hm : l[pl l p] ∈ hi l p := hd ▸ List.mem_cons_self
  have e : l.getD (pl l p) fz = l[pl l p] := by simp [h2]
  rw [e]
  exact fun e => bl_ne (mem_hi.1 hm).2 e.symm

/-- A file put; a file dropped. -/
def putM (l : List Fl) (f : Fl) : List Fl := lo l f.1 ++ f :: hi l f.1
def dropM (l : List Fl) (p : ByteArray) : List Fl := lo l p ++ hi l p

theorem Ris.lohi {l : List Fl} (h : Ris l) (p : ByteArray) : Ris (lo l p) ∧ Ris (hi l p) := ⟨List.Pairwise.sublist (List.filter_sublist) h, List.Pairwise.sublist (List.filter_sublist) h⟩

theorem Ris.put {l : List Fl} (h : Ris l) (f : Fl) : Ris (putM l f) := by
  unfold putM Ris
  obtain ⟨h1, h2⟩ := h.lohi f.1
  refine List.pairwise_append.2 ⟨h1, List.pairwise_cons.2 ⟨fun y hy => (mem_hi.1 hy).2, h2⟩, fun x hx y hy => ?_⟩
  rcases List.mem_cons.1 hy with rfl | hy
  · exact (mem_lo.1 hx).2
  · exact bl_trans (mem_lo.1 hx).2 (mem_hi.1 hy).2

theorem Ris.dropd {l : List Fl} (h : Ris l) (p : ByteArray) : Ris (dropM l p) := by
  unfold dropM Ris
  obtain ⟨h1, h2⟩ := h.lohi p
  exact List.pairwise_append.2 ⟨h1, h2, fun x hx y hy => bl_trans (mem_lo.1 hx).2 (mem_hi.1 hy).2⟩

theorem lo_put (l : List Fl) (f : Fl) : lo (putM l f) f.1 = lo l f.1 ∧ eqs (putM l f) f.1 = [f] ∧ hi (putM l f) f.1 = hi l f.1 := by
  obtain ⟨a1, a2, a3⟩ := lo_all (l := lo l f.1) (p := f.1) (fun x hx => (mem_lo.1 hx).2)
  obtain ⟨b1, b2, b3⟩ := hi_all (l := hi l f.1) (p := f.1) (fun x hx => (mem_hi.1 hx).2)
  unfold putM
  rw [show lo l f.1 ++ f :: hi l f.1 = lo l f.1 ++ ([f] ++ hi l f.1) from rfl, lo_append, lo_append, eqs_append, eqs_append, hi_append, hi_append, a1, a2, a3, b1, b2, b3]
  have c1 : lo [f] f.1 = [] := List.filter_cons_of_neg (by rw [bl_irrefl]; simp)
  have c2 : eqs [f] f.1 = [f] := List.filter_cons_of_pos (by simp)
  have c3 : hi [f] f.1 = [] := List.filter_cons_of_neg (by rw [bl_irrefl]; simp)
  rw [c1, c2, c3]; simp

theorem drop_put (l : List Fl) (f : Fl) : dropM (putM l f) f.1 = dropM l f.1 := by
  unfold dropM
  obtain ⟨a1, _, a3⟩ := lo_put l f
  rw [a1, a3]

theorem eqs_dropM (l : List Fl) (p : ByteArray) : eqs (dropM l p) p = [] := by
  unfold dropM
  rw [eqs_append, (lo_all (l := lo l p) (p := p) (fun x hx => (mem_lo.1 hx).2)).2.1, (hi_all (l := hi l p) (p := p) (fun x hx => (mem_hi.1 hx).2)).2.1]; rfl

theorem Ris.dropM_none {l : List Fl} (h : Ris l) {p : ByteArray} (h1 : eqs l p = []) : dropM l p = l := by
  have := h.split p
  rw [h1, List.nil_append] at this
  exact this.symm

theorem Ris.put_length {l : List Fl} (h : Ris l) (f : Fl) : (eqs l f.1 ≠ [] → (putM l f).length = l.length) ∧ (eqs l f.1 = [] → (putM l f).length = l.length + 1) := by
  have e := congrArg List.length (h.split f.1)
  rw [List.length_append, List.length_append] at e
  unfold putM
  rw [List.length_append, List.length_cons]
  refine ⟨fun h1 => ?_, fun h1 => ?_⟩
  · rcases h.one f.1 with h2 | ⟨x, h2, _⟩
    · exact absurd h2 h1
    · rw [h2] at e; simp at e; omega
  · rw [h1] at e; simp at e; omega

theorem Ris.drop_length {l : List Fl} (h : Ris l) (p : ByteArray) : (dropM l p).length ≤ l.length := by
  have e := congrArg List.length (h.split p)
  rw [List.length_append, List.length_append] at e
  unfold dropM
  rw [List.length_append]; omega

/-- Of another path all is as it was. -/
theorem eqs_put {l : List Fl} {f : Fl} {p : ByteArray} (hne : p ≠ f.1) (h : Ris l) : eqs (putM l f) p = eqs l p := by
  have e := congrArg (fun x => eqs x p) (h.split f.1)
  simp only [eqs_append] at e
  have e0 : eqs (eqs l f.1) p = [] := List.filter_eq_nil_iff.2 fun x hx => by simpa [(mem_eqs.1 hx).2] using fun e => hne e.symm
  rw [e0, List.nil_append] at e
  have e1 : eqs [f] p = [] := List.filter_cons_of_neg (by simpa using fun e => hne e.symm)
  unfold putM
  rw [show lo l f.1 ++ f :: hi l f.1 = lo l f.1 ++ ([f] ++ hi l f.1) from rfl, eqs_append, eqs_append, e1, List.nil_append, ← e]

theorem mem_putM {l : List Fl} {f x : Fl} (h : x ∈ putM l f) : x = f ∨ x ∈ l := by
  unfold putM at h
  rcases List.mem_append.1 h with h | h
  · exact .inr (mem_lo.1 h).1
  · rcases List.mem_cons.1 h with h | h
    · exact .inl h
    · exact .inr (mem_hi.1 h).1
theorem mem_dropM {l : List Fl} {p : ByteArray} {x : Fl} (h : x ∈ dropM l p) : x ∈ l := by
  unfold dropM at h
  rcases List.mem_append.1 h with h | h
  · exact (mem_lo.1 h).1
  · exact (mem_hi.1 h).1

/-- Paths that rise from each to the next rise. -/
theorem ris_of {l : List Fl} (h : ∀ i, i + 1 < l.length → bl (l.getD i fz).1 (l.getD (i + 1) fz).1 = true) : Ris l := by
  induction l with
  | nil => exact List.Pairwise.nil
  | cons x t ih =>
    have ht : Ris t := ih fun i hi => by
      have := h (i + 1) (by simpa using hi)
      simpa using this
    refine List.pairwise_cons.2 ⟨?_, ht⟩
    cases t with
    | nil => intro y hy; cases hy
    | cons z t =>
      have h0 : bl x.1 z.1 = true := by have := h 0 (by simp); simpa using this
      intro y hy
      rcases List.mem_cons.1 hy with rfl | hy
      · exact h0
      · exact bl_trans h0 ((List.pairwise_cons.1 ht).1 y hy)

theorem Ris.next {l : List Fl} (h : Ris l) {i : Nat} (hi : i + 1 < l.length) : bl (l.getD i fz).1 (l.getD (i + 1) fz).1 = true := by
  have := List.pairwise_iff_getElem.1 h i (i + 1) (by omega) hi (by omega)
  simpa [show i < l.length by omega, hi] using this

/-- How many of the first places lie ahead: the binary search's answer. -/
theorem pl_range (l : List Fl) (p : ByteArray) : (List.range l.length).countP (fun i => !(!bl (l.getD i fz).1 p)) = pl l p := by
  have h : l = (List.range l.length).map (fun i => l.getD i fz) := by
    apply List.ext_getElem
    · simp
    · intro i h1 h2; simp [h1]
  unfold pl lo
  rw [← List.countP_eq_length_filter]
  conv => rhs; rw [h]
  rw [List.countP_map]
  congr 1
  funext i
  simp

theorem Ris.mono_at {l : List Fl} (h : Ris l) {p : ByteArray} {a b : Nat} (hab : a ≤ b) (hb : b < l.length) (ha : (!bl (l.getD a fz).1 p) = true) : (!bl (l.getD b fz).1 p) = true := by
  by_cases e : a = b
  · rw [← e]; exact ha
  · have hp := List.pairwise_iff_getElem.1 h a b (by omega) hb (by omega)
    have e1 : l.getD a fz = l[a]'(by omega) := by simp [show a < l.length by omega]
    have e2 : l.getD b fz = l[b] := by simp [hb]
    rw [e1] at ha
    rw [e2]
    cases e3 : bl l[b].1 p with
    | false => rfl
    | true => rw [bl_trans hp e3] at ha; cases ha

/-- The first place of a path, or less than 0. -/
def plc (l : List Fl) (p : ByteArray) : Int := match l.findIdx? (fun x => decide (x.1 = p)) with
  | some i => i
  | none => -1

theorem plc_none {l : List Fl} {p : ByteArray} (h : ∀ j, j < l.length → (l.getD j fz).1 ≠ p) : plc l p = -1 := by
  have : l.findIdx? (fun x => decide (x.1 = p)) = none := List.findIdx?_eq_none_iff.2 fun x hx => by
    obtain ⟨j, hj, rfl⟩ := List.getElem_of_mem hx
    have := h j hj
    simpa [hj] using this
  unfold plc; rw [this]

theorem plc_at {l : List Fl} {p : ByteArray} {k : Nat} (h : ∀ j, j < k → (l.getD j fz).1 ≠ p) (hk : k < l.length) (he : (l.getD k fz).1 = p) : plc l p = k := by
  have : l.findIdx? (fun x => decide (x.1 = p)) = some k := List.findIdx?_eq_some_iff_getElem.2 ⟨hk, by simpa [hk] using he, fun j hj => by
    have := h j hj
    simpa [show j < l.length by omega] using this⟩
  unfold plc; rw [this]

theorem Ris.plc {l : List Fl} (h : Ris l) (p : ByteArray) : plc l p = if eqs l p = [] then -1 else (pl l p : Int) := by
  by_cases e : eqs l p = []
  · rw [if_pos e]
    refine plc_none fun j hj he => ?_
    have : l.getD j fz ∈ eqs l p := mem_eqs.2 ⟨by simp [hj], he⟩
    rw [e] at this; cases this
  · rw [if_neg e]
    obtain ⟨_, h2, h3, _⟩ := h.drop_more e
    refine plc_at (fun j hj he => ?_) h2 h3
    have hm : l.getD j fz ∈ lo l p := by
      rw [← h.take p]
      have e1 : l.getD j fz = (l.take (pl l p))[j]'(by rw [List.length_take]; omega) := by simp [show j < l.length by omega]
      rw [e1]; exact List.getElem_mem _
    exact bl_ne (mem_lo.1 hm).2 he

/-- What has been put when the first files have been passed. -/
theorem put_ahead {l : List Fl} {f x : Fl} (h : ∀ y ∈ l, bl y.1 f.1 = true) (hx : bl x.1 f.1 = false) : putM (l ++ [x]) f = if x.1 = f.1 then l ++ [f] else l ++ [f] ++ [x] := by
  obtain ⟨a1, _, a3⟩ := lo_all h
  have c1 : lo [x] f.1 = [] := List.filter_cons_of_neg (by rw [hx]; simp)
  unfold putM
  rw [lo_append, hi_append, a1, a3, c1, List.append_nil, List.nil_append]
  by_cases e : x.1 = f.1
  · rw [if_pos e]
    have c3 : hi [x] f.1 = [] := List.filter_cons_of_neg (by rw [e, bl_irrefl]; simp)
    rw [c3]
  · rw [if_neg e]
    have hb : bl f.1 x.1 = true := by
      cases h2 : bl f.1 x.1 with
      | true => rfl
      | false => exact absurd (bl_tri hx h2) e
    have c3 : hi [x] f.1 = [x] := List.filter_cons_of_pos hb
    rw [c3]; simp

theorem put_behind {l : List Fl} {f x : Fl} (hx : bl f.1 x.1 = true) : putM (l ++ [x]) f = putM l f ++ [x] := by
  have c1 : lo [x] f.1 = [] := List.filter_cons_of_neg (by rw [bl_asymm hx]; simp)
  have c3 : hi [x] f.1 = [x] := List.filter_cons_of_pos hx
  unfold putM
  rw [lo_append, hi_append, c1, c3]; simp

theorem put_last {l : List Fl} {f : Fl} (h : ∀ y ∈ l, bl y.1 f.1 = true) : putM l f = l ++ [f] := by
  obtain ⟨a1, _, a3⟩ := lo_all h
  unfold putM
  rw [a1, a3]

end Go.Proofs.YtfmhapajdnmhoafDoor
