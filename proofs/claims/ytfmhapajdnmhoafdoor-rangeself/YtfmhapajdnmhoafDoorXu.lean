/-
  Numbers, spans and heads of hunks as texts, as mathematics: what is written is read, what is read is written so. Lines read one by one as hunks, as mathematics: what is read is written so, what is written is read.
-/
import Derived.Test.YtfmhapajdnmhoafDoorXj
import Derived.Test.YtfmhapajdnmhoafDoorXi
import Derived.Lib.ItoaNum
import Derived.Lib.Atoi
import Derived.Lib.CutLaws
namespace Go.Proofs.YtfmhapajdnmhoafDoor
open Go Dist

/-! ### Numbers -/
theorem dd_small {n : Nat} (h : n < 10) : Lib.decDigits n = [UInt8.ofNat (48 + n)] := by rw [Lib.decDigits, dif_pos h]
theorem dd_big {n : Nat} (h : ¬ n < 10) : Lib.decDigits n = Lib.decDigits (n / 10) ++ [UInt8.ofNat (48 + n % 10)] := by rw [Lib.decDigits, dif_neg h]

theorem digit_of {d : Nat} (h : d < 10) : Lib.digitVal (UInt8.ofNat (48 + d)) = some d := by
  unfold Lib.digitVal
  have e : (UInt8.ofNat (48 + d)).toNat = 48 + d := by simp [UInt8.toNat_ofNat']; omega
  rw [e, if_pos (by omega)]; simp

theorem digit_back {b : UInt8} {d : Nat} (h : Lib.digitVal b = some d) : d < 10 ∧ b = UInt8.ofNat (48 + d) := by
  unfold Lib.digitVal at h
  split at h
  · rename_i hb
    simp only [Option.some.injEq] at h
    refine ⟨by omega, ?_⟩
    rw [← h, show 48 + (b.toNat - 48) = b.toNat by omega]
    simp
  · cases h

theorem decFrom_append (a b : List UInt8) (n : Nat) : Lib.decFrom n (a ++ b) = (Lib.decFrom n a).bind fun m => Lib.decFrom m b := by
  induction a generalizing n with
  | nil => rfl
  | cons x t ih =>
    rw [List.cons_append, Lib.decFrom, Lib.decFrom]
    cases h : Lib.digitVal x with
    | none => rfl
    | some d => exact ih _

theorem decFrom_dd (n : Nat) : Lib.decFrom 0 (Lib.decDigits n) = some n := by
  induction n using Nat.strongRecOn with
  | _ n ih =>
    by_cases h : n < 10
    · rw [dd_small h, Lib.decFrom, digit_of h]; simp [Lib.decFrom]
    · rw [dd_big h, decFrom_append, ih (n / 10) (by omega), Option.bind_some, Lib.decFrom, digit_of (by omega)]
      simp only [Lib.decFrom]
      congr 1; omega

/-- The bytes of a number are digits. -/
theorem dd_bytes (n : Nat) : ∀ b ∈ Lib.decDigits n, 48 ≤ b.toNat ∧ b.toNat ≤ 57 := by
  induction n using Nat.strongRecOn with
  | _ n ih =>
    have hd : ∀ d, d < 10 → 48 ≤ (UInt8.ofNat (48 + d)).toNat ∧ (UInt8.ofNat (48 + d)).toNat ≤ 57 := fun d hd => by
      have e : (UInt8.ofNat (48 + d)).toNat = 48 + d := by simp [UInt8.toNat_ofNat']; omega
      rw [e]; omega
    by_cases h : n < 10
    · rw [dd_small h]
      intro b hb
      simp only [List.mem_singleton] at hb
      rw [hb]; exact hd n h
    · rw [dd_big h]
      intro b hb
      rcases List.mem_append.1 hb with hb | hb
      · exact ih _ (by omega) b hb
      · simp only [List.mem_singleton] at hb
        rw [hb]; exact hd _ (by omega)

theorem dd_pos (n : Nat) : Lib.decDigits n ≠ [] := by
  intro e
  have := Lib.decDigits_length n
  rw [e] at this
  have := Lib.nDigits_pos n
  simp at *; omega

/-- A number has no needless digit. -/
theorem dd_head (n : Nat) : (Lib.decDigits n).head? = some 48 → n = 0 := by
  induction n using Nat.strongRecOn with
  | _ n ih =>
    by_cases h : n < 10
    · rw [dd_small h]
      intro e
      simp only [List.head?_cons, Option.some.injEq] at e
      have := congrArg UInt8.toNat e
      simp [UInt8.toNat_ofNat'] at this
      omega
    · rw [dd_big h, List.head?_append]
      intro e
      cases hh : (Lib.decDigits (n / 10)).head? with
      | none => exact absurd (List.head?_eq_none_iff.1 hh) (dd_pos _)
      | some b =>
        rw [hh] at e
        simp only [Option.some_or, Option.some.injEq] at e
        have h0 := ih (n / 10) (by omega) (by rw [hh, e])
        omega

/-- Digits without a needless one are a number's. -/
theorem dd_only {s : List UInt8} : ∀ {n : Nat}, s ≠ [] → (s.length = 1 ∨ s.head? ≠ some 48) → Lib.decFrom 0 s = some n → s = Lib.decDigits n := by
  induction hl : s.length using Nat.strongRecOn generalizing s with
  | _ k ih =>
    intro n h0 h1 h2
    rcases List.eq_nil_or_concat s with e | ⟨t, b, e⟩
    · exact absurd e h0
    rw [List.concat_eq_append] at e
    subst e
    rw [decFrom_append] at h2
    cases ht : Lib.decFrom 0 t with
    | none => rw [ht] at h2; simp at h2
    | some m =>
      rw [ht, Option.bind_some, Lib.decFrom] at h2
      cases hb : Lib.digitVal b with
      | none => rw [hb] at h2; simp at h2
      | some d =>
        rw [hb] at h2
        simp only [Lib.decFrom, Option.some.injEq] at h2
        obtain ⟨hd, rfl⟩ := digit_back hb
        by_cases ht0 : t = []
        · subst ht0
          simp [Lib.decFrom] at ht
          subst ht
          rw [← h2, Nat.zero_mul, Nat.zero_add, dd_small hd]; rfl
        · have hh : (t ++ [UInt8.ofNat (48 + d)]).head? = t.head? := by
            rw [List.head?_append]
            cases t with
            | nil => exact absurd rfl ht0
            | cons x r => rfl
          have h1' : t.head? ≠ some 48 := by
            rcases h1 with h1 | h1
            · rw [← hl, List.length_append] at h1
              have : t.length ≠ 0 := fun e => ht0 (List.length_eq_zero_iff.1 e)
              rw [List.length_singleton] at h1
              omega
            · rwa [hh] at h1
          have e := ih t.length (by rw [← hl, List.length_append]; simp) rfl ht0 (.inr h1') ht
          have hm : m ≠ 0 := by
            intro e0
            rw [e0, dd_small (by decide)] at e
            rw [e] at h1'
            exact h1' rfl
          rw [← h2, dd_big (by omega), show (m * 10 + d) / 10 = m by omega, show (m * 10 + d) % 10 = d by omega, ← e]

theorem dd_len {n : Nat} (h : n ≤ 999) : (Lib.decDigits n).length ≤ 3 := by
  rw [Lib.decDigits_length]
  by_cases h1 : n < 10
  · rw [Lib.nDigits_small h1]; omega
  · rw [Lib.nDigits_big h1]
    by_cases h2 : n / 10 < 10
    · rw [Lib.nDigits_small h2]; omega
    · rw [Lib.nDigits_big h2, Lib.nDigits_small (by omega)]; omega

theorem dd_le {n : Nat} (h : (Lib.decDigits n).length ≤ 3) : n ≤ 999 := by
  rw [Lib.decDigits_length] at h
  have h1 := Lib.lt_pow_nDigits n
  have h2 : (10 : Nat) ^ Lib.nDigits n ≤ 10 ^ 3 := Nat.pow_le_pow_right (by decide) h
  omega

theorem atoi_dd (n : Nat) : Lib.atoi (Lib.decDigits n) = some (n : Int) := by
  cases h : Lib.decDigits n with
  | nil => exact absurd h (dd_pos n)
  | cons b r =>
    have hb := dd_bytes n b (by rw [h]; simp)
    have h1 : (b == 45) = false := by
      rw [beq_eq_false_iff_ne]; intro e; rw [e] at hb; simp at hb
    have h2 : (b == 43) = false := by
      rw [beq_eq_false_iff_ne]; intro e; rw [e] at hb; simp at hb
    rw [Lib.atoi, h1, h2]
    simp only [Bool.false_eq_true, if_false]
    rw [← h]
    unfold Lib.decNat
    rw [decFrom_dd, h]
    rfl

/-- A number of three digits at most, none needless. -/
def num (s : List UInt8) : Option Nat :=
  if s.length ≤ 3 then match Lib.decFrom 0 s with
    | some n => if Lib.decDigits n = s then some n else none
    | none => none
  else none

theorem num_iff {s : List UInt8} {n : Nat} : num s = some n ↔ n ≤ 999 ∧ s = Lib.decDigits n := by
  constructor
  · intro h
    unfold num at h
    split at h
    · rename_i hl
      split at h
      · split at h
        · rename_i e
          simp only [Option.some.injEq] at h
          subst h
          exact ⟨dd_le (by rw [e]; exact hl), e.symm⟩
        · cases h
      · cases h
    · cases h
  · rintro ⟨h1, rfl⟩
    unfold num
    rw [if_pos (dd_len h1), decFrom_dd]
    simp

theorem num_none {s : List UInt8} : num s = none ↔ ∀ n, n ≤ 999 → s ≠ Lib.decDigits n := by
  constructor
  · intro h n hn e
    have := num_iff.2 ⟨hn, e⟩
    rw [h] at this; cases this
  · intro h
    cases hn : num s with
    | none => rfl
    | some n => exact absurd (num_iff.1 hn).2 (h n (num_iff.1 hn).1)

/-- By the library's reading. -/
theorem num_atoi {s : List UInt8} (hl : s.length ≤ 3) {n : Int} (h : Lib.atoi s = some n) : num s = if 0 ≤ n ∧ Lib.decDigits n.toNat = s then some n.toNat else none := by
  split
  · rename_i hc
    exact num_iff.2 ⟨dd_le (by rw [hc.2]; exact hl), hc.2.symm⟩
  · rename_i hc
    rw [num_none]
    intro m _ e
    apply hc
    rw [e, atoi_dd] at h
    simp only [Option.some.injEq] at h
    subst h
    exact ⟨by omega, by rw [e]; simp⟩

theorem num_atoi_none {s : List UInt8} (h : Lib.atoi s = none) : num s = none := by
  rw [num_none]
  intro m _ e
  rw [e, atoi_dd] at h; cases h

theorem num_long {s : List UInt8} (h : 3 < s.length) : num s = none := by unfold num; rw [if_neg (by omega)]

/-- By the document's reading. -/
theorem num_ref {s : List UInt8} : num s = if s.length < 1 ∨ 3 < s.length ∨ (1 < s.length ∧ s.head? = some 48) then none else Lib.decFrom 0 s := by
  split
  · rename_i hc
    rw [num_none]
    intro n hn e
    rcases hc with h | h | ⟨h1, h2⟩
    · have := dd_pos n
      rw [← e] at this
      exact this (List.length_eq_zero_iff.1 (by omega))
    · have := dd_len hn
      rw [← e] at this
      omega
    · rw [e] at h2
      have := dd_head n h2
      subst this
      rw [e, dd_small (by decide)] at h1
      simp at h1
  · rename_i hc
    have h0 : s ≠ [] := fun e => hc (.inl (by rw [e]; decide))
    cases hd : Lib.decFrom 0 s with
    | none =>
      rw [num_none]
      intro n _ e
      rw [e, decFrom_dd] at hd; cases hd
    | some n =>
      have e := dd_only h0 (by
        by_cases h1 : s.length = 1
        · exact .inl h1
        · refine .inr fun h2 => hc (.inr (.inr ⟨?_, h2⟩))
          have : s.length ≠ 0 := fun e => h0 (List.length_eq_zero_iff.1 e)
          omega) hd
      rw [num_iff]
      exact ⟨dd_le (by rw [← e]; omega), e⟩

/-! ### Texts cut at a text -/
theorem isPrefixOf_iff {a s : List UInt8} : a.isPrefixOf s = true ↔ ∃ r, s = a ++ r := by
  rw [List.isPrefixOf_iff_prefix]
  constructor
  · rintro ⟨r, rfl⟩; exact ⟨r, rfl⟩
  · rintro ⟨r, rfl⟩; exact ⟨r, rfl⟩

theorem isSuffixOf_iff {a s : List UInt8} : a.isSuffixOf s = true ↔ ∃ r, s = r ++ a := by
  rw [List.isSuffixOf_iff_suffix]
  constructor
  · rintro ⟨r, rfl⟩; exact ⟨r, rfl⟩
  · rintro ⟨r, rfl⟩; exact ⟨r, rfl⟩

/-- What is found stands there. -/
theorem index_there : ∀ (s t : List UInt8) (k : Nat), Lib.index s t = k → ∃ r, s = s.take k ++ (t ++ r)
  | [], t, k, h => by
    unfold Lib.index at h
    split at h
    · rename_i ht
      have : t = [] := by simpa using ht
      exact ⟨[], by simp [this]⟩
    · omega
  | b :: l, t, k, h => by
    unfold Lib.index at h
    split at h
    · rename_i hp
      obtain ⟨r, hr⟩ := isPrefixOf_iff.1 hp
      obtain rfl : k = 0 := by omega
      exact ⟨r, by simpa using hr⟩
    · split at h
      · omega
      · cases k with
        | zero =>
          have := Lib.index_ge l t
          rename_i hne
          simp at hne
          omega
        | succ k =>
          obtain ⟨r, hr⟩ := index_there l t k (by omega)
          exact ⟨r, by rw [List.take_succ_cons, List.cons_append, ← hr]⟩

/-- Of a text whose first byte is not ahead the place is at once behind. -/
theorem index_two (x y : UInt8) (a r : List UInt8) (h : x ∉ a) : Lib.index (a ++ (x :: y :: r)) [x, y] = a.length := by
  induction a with
  | nil => simp [Lib.index, List.isPrefixOf]
  | cons b t ih =>
    have hb : ¬ x = b := fun e => h (by simp [e])
    have ht : x ∉ t := fun e => h (by simp [e])
    have hne : ¬ ((t.length : Int) = -1) := by omega
    rw [List.cons_append, Lib.index, ih ht]
    simp [List.isPrefixOf, hb, hne]

theorem cut_there {s t a b : List UInt8} (h : Lib.cut s t = (a, b, true)) : s = a ++ (t ++ b) := by
  unfold Lib.cut at h
  split at h
  · rename_i h0
    obtain ⟨k, hk⟩ : ∃ k : Nat, Lib.index s t = k := ⟨(Lib.index s t).toNat, by omega⟩
    obtain ⟨r, hr⟩ := index_there s t k hk
    rw [hk] at h
    simp only [Int.toNat_natCast, Prod.mk.injEq, and_true] at h
    obtain ⟨h1, h2⟩ := h
    have hl : (s.take k).length = k := by
      rw [List.length_take]
      have := congrArg List.length hr
      rw [List.length_append, List.length_append, List.length_take] at this
      by_cases e : k ≤ s.length
      · omega
      · exfalso
        have := Lib.index_room s t (by omega)
        rw [hk] at this
        omega
    have hb : b = r := by
      rw [← h2, hr, ← List.append_assoc, List.drop_left' (by rw [List.length_append, hl])]
    rw [← h1, hb]; exact hr
  · simp at h

theorem cut_one (c : UInt8) (a b : List UInt8) (h : c ∉ a) : Lib.cut (a ++ c :: b) [c] = (a, b, true) := by
  unfold Lib.cut
  rw [index_hit c a b h, if_pos (by omega)]
  simp only [Int.toNat_natCast, List.length_singleton, List.take_left', Prod.mk.injEq, true_and, and_true]
  rw [show a ++ c :: b = (a ++ [c]) ++ b by simp, List.drop_left' (by simp)]

theorem cut_two (x y : UInt8) (a b : List UInt8) (h : x ∉ a) : Lib.cut (a ++ x :: y :: b) [x, y] = (a, b, true) := by
  unfold Lib.cut
  rw [index_two x y a b h, if_pos (by omega)]
  simp only [Int.toNat_natCast, List.take_left', Prod.mk.injEq, true_and, and_true]
  rw [show a ++ x :: y :: b = (a ++ [x, y]) ++ b by simp, List.drop_left' (by simp)]

/-! ### Spans -/
/-- The text of so many lines behind so many. -/
def spn (a n : Nat) : List UInt8 := Lib.decDigits (if n = 0 then a else a + 1) ++ 44 :: Lib.decDigits n

def spc (a b : Option Nat) : Option (Nat × Nat) := match a, b with
  | some a, some b => if b = 0 then some (a, 0) else if a = 0 then none else some (a - 1, b)
  | _, _ => none

def spo (s : List UInt8) : Option (Nat × Nat) := if (Lib.cut s [44]).2.2 = true then spc (num (Lib.cut s [44]).1) (num (Lib.cut s [44]).2.1) else none

theorem dd_not {n : Nat} {c : UInt8} (h : c.toNat < 48 ∨ 57 < c.toNat) : c ∉ Lib.decDigits n := fun hc => by
  have := dd_bytes n c hc
  omega

theorem spo_iff {s : List UInt8} {a n : Nat} : spo s = some (a, n) ↔ s = spn a n ∧ n ≤ 999 ∧ (if n = 0 then a else a + 1) ≤ 999 := by
  constructor
  · intro h
    unfold spo at h
    split at h
    · rename_i hc
      obtain ⟨x, hx⟩ : ∃ x, (Lib.cut s [44]).1 = x := ⟨_, rfl⟩
      obtain ⟨y, hy⟩ : ∃ y, (Lib.cut s [44]).2.1 = y := ⟨_, rfl⟩
      have hs := cut_there (s := s) (t := [44]) (a := x) (b := y) (by rw [← hx, ← hy, ← hc])
      rw [hx, hy] at h
      unfold spc at h
      split at h
      · rename_i p q hp hq
        obtain ⟨hp1, hp2⟩ := num_iff.1 hp
        obtain ⟨hq1, hq2⟩ := num_iff.1 hq
        unfold spn
        split at h
        · rename_i e
          simp only [Option.some.injEq, Prod.mk.injEq] at h
          obtain ⟨rfl, rfl⟩ := h
          subst e
          rw [if_pos rfl]
          exact ⟨by rw [hs, hp2, hq2]; rfl, hq1, hp1⟩
        · split at h
          · cases h
          · simp only [Option.some.injEq, Prod.mk.injEq] at h
            obtain ⟨h1, rfl⟩ := h
            rename_i e1 e2
            rw [if_neg e1, show a + 1 = p by omega]
            exact ⟨by rw [hs, hp2, hq2]; rfl, hq1, hp1⟩
      · cases h
    · cases h
  · rintro ⟨rfl, h1, h2⟩
    unfold spo spn
    rw [cut_one 44 _ _ (dd_not (by decide))]
    rw [if_pos rfl, num_iff.2 ⟨h2, rfl⟩, num_iff.2 ⟨h1, rfl⟩]
    unfold spc
    by_cases e : n = 0
    · simp [e]
    · simp [e]

theorem spn_not {a n : Nat} {c : UInt8} (h : c.toNat < 44 ∨ 57 < c.toNat) : c ∉ spn a n := by
  unfold spn
  intro hc
  rcases List.mem_append.1 hc with hc | hc
  · exact dd_not (by omega) hc
  · rcases List.mem_cons.1 hc with hc | hc
    · subst hc; simp at h
    · exact dd_not (by omega) hc

/-! ### Heads -/
/-- The head of a hunk: so many lines behind so many, of the old file and of the new one. -/
def hdl (a n b m : Nat) : List UInt8 := [64, 64, 32, 45] ++ (spn a n ++ (32 :: 43 :: (spn b m ++ [32, 64, 64])))

def hdc (a b : Option (Nat × Nat)) : Option (Nat × Nat × Nat × Nat) := match a, b with
  | some (a, n), some (b, m) => some (a, n, b, m)
  | _, _ => none

/-- What lies between a head's beginning and its end. -/
def hin (s : List UInt8) : List UInt8 := Lib.trimSuffix (Lib.trimPrefix s [64, 64, 32, 45]) [32, 64, 64]
def hfit (s : List UInt8) : Bool := Lib.hasPrefix s [64, 64, 32, 45] && (Lib.hasSuffix (Lib.trimPrefix s [64, 64, 32, 45]) [32, 64, 64] && (Lib.cut (hin s) [32, 43]).2.2)

def hdo (s : List UInt8) : Option (Nat × Nat × Nat × Nat) := if hfit s = true then hdc (spo (Lib.cut (hin s) [32, 43]).1) (spo (Lib.cut (hin s) [32, 43]).2.1) else none

theorem hin_of (t : List UInt8) : Lib.hasPrefix ([64, 64, 32, 45] ++ (t ++ [32, 64, 64])) [64, 64, 32, 45] = true ∧ Lib.hasSuffix (Lib.trimPrefix ([64, 64, 32, 45] ++ (t ++ [32, 64, 64])) [64, 64, 32, 45]) [32, 64, 64] = true ∧ hin ([64, 64, 32, 45] ++ (t ++ [32, 64, 64])) = t := by
  have h1 : Lib.hasPrefix ([64, 64, 32, 45] ++ (t ++ [32, 64, 64])) [64, 64, 32, 45] = true := isPrefixOf_iff.2 ⟨_, rfl⟩
  have h2 : Lib.trimPrefix ([64, 64, 32, 45] ++ (t ++ [32, 64, 64])) [64, 64, 32, 45] = t ++ [32, 64, 64] := by
    unfold Lib.trimPrefix; rw [if_pos h1]; rfl
  have h3 : Lib.hasSuffix (t ++ [32, 64, 64]) [32, 64, 64] = true := isSuffixOf_iff.2 ⟨_, rfl⟩
  refine ⟨h1, by rw [h2]; exact h3, ?_⟩
  unfold hin
  rw [h2]
  unfold Lib.trimSuffix
  rw [if_pos h3]
  simp

theorem hfit_iff {s : List UInt8} : hfit s = true ↔ ∃ a b, Lib.cut (hin s) [32, 43] = (a, b, true) ∧ s = [64, 64, 32, 45] ++ (hin s ++ [32, 64, 64]) := by
  constructor
  · intro h
    unfold hfit at h
    simp only [Bool.and_eq_true] at h
    obtain ⟨h1, h2, h3⟩ := h
    refine ⟨(Lib.cut (hin s) [32, 43]).1, (Lib.cut (hin s) [32, 43]).2.1, by rw [← h3], ?_⟩
    obtain ⟨r, hr⟩ := isPrefixOf_iff.1 h1
    have e1 : Lib.trimPrefix s [64, 64, 32, 45] = r := by
      unfold Lib.trimPrefix
      rw [if_pos h1, hr]; rfl
    rw [e1] at h2
    obtain ⟨t, ht⟩ := isSuffixOf_iff.1 h2
    have e2 : hin s = t := by
      unfold hin
      rw [e1]
      unfold Lib.trimSuffix
      rw [if_pos h2, ht]; simp
    rw [e2, ← ht]; exact hr
  · rintro ⟨a, b, h1, h2⟩
    have h3 := hin_of (hin s)
    rw [← h2] at h3
    unfold hfit
    rw [h3.1, h3.2.1, h1]; rfl

theorem hdo_iff {s : List UInt8} {a n b m : Nat} : hdo s = some (a, n, b, m) ↔ s = hdl a n b m ∧ n ≤ 999 ∧ (if n = 0 then a else a + 1) ≤ 999 ∧ m ≤ 999 ∧ (if m = 0 then b else b + 1) ≤ 999 := by
  constructor
  · intro h
    unfold hdo at h
    split at h
    · rename_i hf
      obtain ⟨x, y, h1, h2⟩ := hfit_iff.1 hf
      rw [h1] at h
      have h3 := cut_there h1
      simp only at h
      unfold hdc at h
      split at h
      · rename_i p q r t hp hq
        simp only [Option.some.injEq, Prod.mk.injEq] at h
        obtain ⟨rfl, rfl, rfl, rfl⟩ := h
        obtain ⟨p1, p2, p3⟩ := spo_iff.1 hp
        obtain ⟨q1, q2, q3⟩ := spo_iff.1 hq
        refine ⟨?_, p2, p3, q2, q3⟩
        unfold hdl
        rw [h2, h3, p1, q1]; simp
      · cases h
    · cases h
  · rintro ⟨rfl, h1, h2, h3, h4⟩
    have e : hdl a n b m = [64, 64, 32, 45] ++ ((spn a n ++ (32 :: 43 :: spn b m)) ++ [32, 64, 64]) := by unfold hdl; simp
    have h5 := hin_of (spn a n ++ (32 :: 43 :: spn b m))
    rw [← e] at h5
    have h6 := cut_two 32 43 (spn a n) (spn b m) (spn_not (by decide))
    unfold hdo
    have h7 : hfit (hdl a n b m) = true := by
      rw [hfit_iff, h5.2.2]
      exact ⟨_, _, h6, e⟩
    rw [if_pos h7, h5.2.2, h6]
    rw [spo_iff.2 ⟨rfl, h1, h2⟩, spo_iff.2 ⟨rfl, h3, h4⟩]
    rfl

theorem hdl_not {a n b m : Nat} : (10 : UInt8) ∉ hdl a n b m := by
  unfold hdl
  intro h
  simp only [List.mem_append, List.mem_cons, List.not_mem_nil, or_false] at h
  rcases h with h | h | h | h | h | h
  · revert h; decide
  · exact spn_not (by decide) h
  · revert h; decide
  · revert h; decide
  · exact spn_not (by decide) h
  · revert h; decide

end Go.Proofs.YtfmhapajdnmhoafDoor
namespace Go.Proofs.YtfmhapajdnmhoafDoor
open Go Dist

abbrev Uk := Int × Int × List (Int × ByteArray)
/-- Hunks that have been read; how many lines of the old file and of the new one the last one still wants. -/
abbrev Us := List Uk × Nat × Nat

def bar (l : List UInt8) : ByteArray := ⟨l.toArray⟩
theorem bar_data (l : List UInt8) : (bar l).data.toList = l := by simp [bar]
theorem data_bar (s : ByteArray) : bar s.data.toList = s := by cases s; simp [bar]
theorem bar_size (l : List UInt8) : (bar l).size = l.length := by simp [bar, ByteArray.size]

/-- A mark more in the last hunk. -/
def psh (hs : List Uk) (m : Int × ByteArray) : List Uk := match hs.getLast? with
  | none => []
  | some h => hs.dropLast ++ [(h.1, h.2.1, h.2.2 ++ [m])]

theorem psh_snoc (hs : List Uk) (h : Uk) (m : Int × ByteArray) : psh (hs ++ [h]) m = hs ++ [(h.1, h.2.1, h.2.2 ++ [m])] := by simp [psh]

/-- What is wanted behind a mark. -/
def wnt (c : UInt8) (b a : Nat) : Option (Nat × Nat) :=
  if c = 32 then (if 0 < b ∧ 0 < a then some (b - 1, a - 1) else none)
  else if c = 45 then (if 0 < b then some (b - 1, a) else none)
  else if c = 43 then (if 0 < a then some (b, a - 1) else none)
  else none

def ust (st : Us) (s : List UInt8) : Option Us :=
  if st.2.1 = 0 ∧ st.2.2 = 0 then (hdo s).map fun h => (st.1 ++ [((h.1 : Int), (h.2.2.1 : Int), [])], h.2.1, h.2.2.2)
  else match s with
    | [] => none
    | c :: t => (wnt c st.2.1 st.2.2).map fun p => (psh st.1 ((c.toNat : Int), bar t), p.1, p.2)

/-- Lines read: the first that cannot stand there, or what has been read. -/
def rdl : Us → List (List UInt8) → Nat → Nat × Option Us
  | st, [], i => (i, some st)
  | st, s :: r, i => match ust st s with
    | none => (i, none)
    | some st' => rdl st' r (i + 1)

theorem rdl_snoc {st : Us} {ls : List (List UInt8)} {s : List UInt8} {i j : Nat} {st' : Us} (h : rdl st ls i = (j, some st')) : rdl st (ls ++ [s]) i = match ust st' s with
    | none => (j, none)
    | some st'' => (j + 1, some st'') := by
  induction ls generalizing st i with
  | nil =>
    simp only [rdl, Prod.mk.injEq, Option.some.injEq] at h
    obtain ⟨rfl, rfl⟩ := h
    rw [List.nil_append, rdl]
    cases ust st s <;> rfl
  | cons x r ih =>
    rw [rdl] at h
    rw [List.cons_append, rdl]
    cases hx : ust st x with
    | none => rw [hx] at h; simp at h
    | some st2 => rw [hx] at h; exact ih h

theorem rdl_bad {st : Us} {ls r : List (List UInt8)} {i j : Nat} (h : rdl st ls i = (j, none)) : rdl st (ls ++ r) i = (j, none) := by
  induction ls generalizing st i with
  | nil => simp [rdl] at h
  | cons x t ih =>
    rw [rdl] at h
    rw [List.cons_append, rdl]
    cases hx : ust st x with
    | none => rw [hx] at h; exact h
    | some st2 => rw [hx] at h; exact ih h

theorem rdl_good {st : Us} {ls r : List (List UInt8)} {i j : Nat} {st' : Us} (h : rdl st (ls ++ r) i = (j, some st')) : ∃ st2, rdl st ls i = (i + ls.length, some st2) := by
  induction ls generalizing st i with
  | nil => exact ⟨st, rfl⟩
  | cons x t ih =>
    rw [List.cons_append, rdl] at h
    rw [rdl]
    cases hx : ust st x with
    | none => rw [hx] at h; simp at h
    | some st2 =>
      rw [hx] at h
      obtain ⟨s3, h3⟩ := ih h
      refine ⟨s3, ?_⟩
      show rdl st2 t (i + 1) = _
      rw [h3, List.length_cons]; congr 1; omega

/-- The first k lines can stand there. -/
def Run (ls : List (List UInt8)) (k : Nat) (st : Us) : Prop := k ≤ ls.length ∧ rdl ([], 0, 0) (ls.take k) 0 = (k, some st)

theorem Run.zero (ls : List (List UInt8)) : Run ls 0 ([], 0, 0) := ⟨Nat.zero_le _, rfl⟩

theorem tks (ls : List (List UInt8)) (k : Nat) (hk : k < ls.length) : ls.take (k + 1) = ls.take k ++ [ls.getD k []] := by
  have e : ls.getD k [] = ls[k] := by simp [hk]
  rw [e, List.take_succ_eq_append_getElem hk]

theorem Run.next {ls : List (List UInt8)} {k : Nat} {st st' : Us} (h : Run ls k st) (hk : k < ls.length) (hs : ust st (ls.getD k []) = some st') : Run ls (k + 1) st' := by
  refine ⟨hk, ?_⟩
  rw [tks ls k hk, rdl_snoc h.2, hs]

theorem Run.bad {ls : List (List UInt8)} {k : Nat} {st : Us} (h : Run ls k st) (hk : k < ls.length) (hs : ust st (ls.getD k []) = none) : rdl ([], 0, 0) ls 0 = (k, none) := by
  have h1 : rdl ([], 0, 0) (ls.take (k + 1)) 0 = (k, none) := by rw [tks ls k hk, rdl_snoc h.2, hs]
  have h2 := rdl_bad (r := ls.drop (k + 1)) h1
  rwa [List.take_append_drop] at h2

theorem Run.all {ls : List (List UInt8)} {st : Us} (h : Run ls ls.length st) : rdl ([], 0, 0) ls 0 = (ls.length, some st) := by
  have := h.2
  rwa [List.take_length] at this

/-- What is always so of what has been read of k lines. -/
def Okr (st : Us) (k : Nat) : Prop := (st.1 = [] → st.2.1 = 0 ∧ st.2.2 = 0) ∧ st.2.1 ≤ 999 ∧ st.2.2 ≤ 999 ∧ st.1.length ≤ k ∧ ∀ h ∈ st.1, 0 ≤ h.1 ∧ h.1 ≤ 999 ∧ 0 ≤ h.2.1 ∧ h.2.1 ≤ 999 ∧ h.2.2.length ≤ k

theorem wnt_some {c : UInt8} {b a b' a' : Nat} (h : wnt c b a = some (b', a')) (t : ByteArray) : sgn (c.toNat : Int) ∧ ob [((c.toNat : Int), t)] + b' = b ∧ nb [((c.toNat : Int), t)] + a' = a := by
  unfold wnt at h
  rw [ob_one, nb_one]
  split at h
  · rename_i hc
    subst hc
    split at h
    · simp only [Option.some.injEq, Prod.mk.injEq] at h
      simp [sgn]; omega
    · cases h
  · split at h
    · rename_i hc
      subst hc
      split at h
      · simp only [Option.some.injEq, Prod.mk.injEq] at h
        simp [sgn]; omega
      · cases h
    · split at h
      · rename_i hc
        subst hc
        split at h
        · simp only [Option.some.injEq, Prod.mk.injEq] at h
          simp [sgn]; omega
        · cases h
      · cases h

theorem Okr.step {st st' : Us} {k : Nat} {s : List UInt8} (h : Okr st k) (hs : ust st s = some st') : Okr st' (k + 1) := by
  obtain ⟨h1, h2, h3, h4, h5⟩ := h
  unfold ust at hs
  split at hs
  · cases hd : hdo s with
    | none => rw [hd] at hs; cases hs
    | some x =>
      obtain ⟨a, n, b, m⟩ := x
      rw [hd] at hs
      simp only [Option.map_some, Option.some.injEq] at hs
      subst hs
      obtain ⟨_, d1, d2, d3, d4⟩ := hdo_iff.1 hd
      refine ⟨fun e => by simp at e, d1, d3, by simp; omega, fun h hh => ?_⟩
      rcases List.mem_append.1 hh with hh | hh
      · obtain ⟨g1, g2, g3, g4, g5⟩ := h5 h hh
        exact ⟨g1, g2, g3, g4, by omega⟩
      · simp only [List.mem_singleton] at hh
        subst hh
        refine ⟨by simp, ?_, by simp, ?_, by simp⟩
        · show (a : Int) ≤ 999; split at d2 <;> omega
        · show (b : Int) ≤ 999; split at d4 <;> omega
  · rename_i hz
    cases s with
    | nil => cases hs
    | cons c t =>
      simp only at hs
      cases hw : wnt c st.2.1 st.2.2 with
      | none => rw [hw] at hs; cases hs
      | some x =>
        obtain ⟨b', a'⟩ := x
        rw [hw] at hs
        simp only [Option.map_some, Option.some.injEq] at hs
        obtain ⟨w1, w2, w3⟩ := wnt_some hw (bar t)
        rcases List.eq_nil_or_concat st.1 with e | ⟨hs0, g, e⟩
        · exact absurd (h1 e) hz
        rw [List.concat_eq_append] at e
        rw [e, psh_snoc] at hs
        subst hs
        rw [e] at h4 h5
        refine ⟨fun e => by simp at e, by show b' ≤ 999; omega, by show a' ≤ 999; omega, by simp at h4 ⊢; omega, fun h hh => ?_⟩
        rcases List.mem_append.1 hh with hh | hh
        · obtain ⟨g1, g2, g3, g4, g5⟩ := h5 h (by simp [hh])
          exact ⟨g1, g2, g3, g4, by omega⟩
        · simp only [List.mem_singleton] at hh
          subst hh
          obtain ⟨g1, g2, g3, g4, g5⟩ := h5 g (by simp)
          exact ⟨g1, g2, g3, g4, by simp; omega⟩

theorem Run.ok {ls : List (List UInt8)} {k : Nat} {st : Us} (h : Run ls k st) : Okr st k := by
  induction k generalizing st with
  | zero =>
    have := h.2
    simp only [List.take_zero, rdl, Prod.mk.injEq, Option.some.injEq, true_and] at this
    subst this
    exact ⟨fun _ => ⟨rfl, rfl⟩, by decide, by decide, by simp, by simp⟩
  | succ k ih =>
    have hk : k < ls.length := h.1
    have h2 := h.2
    rw [tks ls k hk] at h2
    obtain ⟨s2, h3⟩ := rdl_good h2
    rw [List.length_take, Nat.min_eq_left (by omega), Nat.zero_add] at h3
    rw [rdl_snoc h3] at h2
    cases hx : ust s2 (ls.getD k []) with
    | none => rw [hx] at h2; simp at h2
    | some st2 =>
      rw [hx] at h2
      simp only [Prod.mk.injEq, Option.some.injEq, true_and] at h2
      subst h2
      exact (ih ⟨by omega, h3⟩).step hx

/-! ### As lines -/
def mkl (m : Int × ByteArray) : List UInt8 := UInt8.ofNat m.1.toNat :: m.2.data.toList
/-- The lines of a hunk that wants so many lines more. -/
def lnh (h : Uk) (b a : Nat) : List (List UInt8) := hdl h.1.toNat (ob h.2.2 + b) h.2.1.toNat (nb h.2.2 + a) :: h.2.2.map mkl
def lns (l : List Uk) : List (List UInt8) := l.flatMap fun h => lnh h 0 0
def lna (st : Us) : List (List UInt8) := match st.1.getLast? with
  | none => []
  | some h => lns st.1.dropLast ++ lnh h st.2.1 st.2.2

theorem lns_snoc (l : List Uk) (h : Uk) : lns (l ++ [h]) = lns l ++ lnh h 0 0 := by unfold lns; rw [List.flatMap_append]; simp
theorem lns_cons (l : List Uk) (h : Uk) : lns (h :: l) = lnh h 0 0 ++ lns l := by unfold lns; rw [List.flatMap_cons]
theorem lna_snoc (l : List Uk) (h : Uk) (b a : Nat) : lna (l ++ [h], b, a) = lns l ++ lnh h b a := by simp [lna]
theorem lna_zero (l : List Uk) : lna (l, 0, 0) = lns l := by
  rcases List.eq_nil_or_concat l with rfl | ⟨l, h, rfl⟩
  · rfl
  · rw [List.concat_eq_append, lna_snoc, lns_snoc]

theorem mkl_byte (c : UInt8) (t : List UInt8) : mkl ((c.toNat : Int), bar t) = c :: t := by
  unfold mkl
  rw [bar_data]
  simp

theorem ust_lines {st st' : Us} {s : List UInt8} {k : Nat} (h : Okr st k) (hs : ust st s = some st') : lna st' = lna st ++ [s] := by
  unfold ust at hs
  split at hs
  · rename_i hz
    cases hd : hdo s with
    | none => rw [hd] at hs; cases hs
    | some x =>
      obtain ⟨a, n, b, m⟩ := x
      rw [hd] at hs
      simp only [Option.map_some, Option.some.injEq] at hs
      subst hs
      have d := (hdo_iff.1 hd).1
      rw [lna_snoc]
      obtain ⟨l, b0, a0⟩ := st
      simp only at hz
      obtain ⟨rfl, rfl⟩ := hz
      rw [lna_zero]
      congr 1
      unfold lnh
      rw [d]
      simp [ob, nb]
  · rename_i hz
    cases s with
    | nil => cases hs
    | cons c t =>
      simp only at hs
      cases hw : wnt c st.2.1 st.2.2 with
      | none => rw [hw] at hs; cases hs
      | some x =>
        obtain ⟨b', a'⟩ := x
        rw [hw] at hs
        simp only [Option.map_some, Option.some.injEq] at hs
        obtain ⟨w1, w2, w3⟩ := wnt_some hw (bar t)
        obtain ⟨l, b, a⟩ := st
        simp only at hs w2 w3 hz
        rcases List.eq_nil_or_concat l with e | ⟨hs0, g, e⟩
        · exact absurd (h.1 e) hz
        rw [List.concat_eq_append] at e
        subst e
        rw [psh_snoc] at hs
        subst hs
        rw [lna_snoc, lna_snoc]
        unfold lnh
        simp only [List.map_append, ob_append, nb_append]
        rw [show ob g.2.2 + ob [((c.toNat : Int), bar t)] + b' = ob g.2.2 + b by omega, show nb g.2.2 + nb [((c.toNat : Int), bar t)] + a' = nb g.2.2 + a by omega]
        simp [mkl_byte]

/-- What is read is written so. -/
theorem Run.lines {ls : List (List UInt8)} {k : Nat} {st : Us} (h : Run ls k st) : lna st = ls.take k := by
  induction k generalizing st with
  | zero =>
    have := h.2
    simp only [List.take_zero, rdl, Prod.mk.injEq, Option.some.injEq, true_and] at this
    subst this
    rfl
  | succ k ih =>
    have hk : k < ls.length := h.1
    have h2 := h.2
    rw [tks ls k hk] at h2
    obtain ⟨s2, h3⟩ := rdl_good h2
    rw [List.length_take, Nat.min_eq_left (by omega), Nat.zero_add] at h3
    rw [rdl_snoc h3] at h2
    cases hx : ust s2 (ls.getD k []) with
    | none => rw [hx] at h2; simp at h2
    | some st2 =>
      rw [hx] at h2
      simp only [Prod.mk.injEq, Option.some.injEq, true_and] at h2
      subst h2
      have hr : Run ls k s2 := ⟨by omega, h3⟩
      rw [ust_lines hr.ok hx, ih hr, tks ls k hk]

/-- A hunk that is written can be read. -/
def Rd (h : Uk) : Prop := 0 ≤ h.1 ∧ h.1 ≤ 60 ∧ 0 ≤ h.2.1 ∧ h.2.1 ≤ 60 ∧ ob h.2.2 ≤ 60 ∧ nb h.2.2 ≤ 60 ∧ ∀ m ∈ h.2.2, sgn m.1

theorem ust_mark (l : List Uk) (o p : Int) (cur : List (Int × ByteArray)) (m : Int × ByteArray) (b a : Nat) (hm : sgn m.1) : ust (l ++ [(o, p, cur)], ob [m] + b, nb [m] + a) (mkl m) = some (l ++ [(o, p, cur ++ [m])], b, a) := by
  obtain ⟨c, t⟩ := m
  unfold ust mkl
  rw [ob_one, nb_one]
  simp only at hm ⊢
  have hb : bar t.data.toList = t := data_bar t
  rcases hm with rfl | rfl | rfl <;> simp [wnt, psh_snoc, hb] <;> omega

theorem rdl_marks (l : List Uk) (o p : Int) (ms cur : List (Int × ByteArray)) (rest : List (List UInt8)) (i : Nat) (h : ∀ m ∈ ms, sgn m.1) : rdl (l ++ [(o, p, cur)], ob ms, nb ms) (ms.map mkl ++ rest) i = rdl (l ++ [(o, p, cur ++ ms)], 0, 0) rest (i + ms.length) := by
  induction ms generalizing cur i with
  | nil => simp [ob, nb]
  | cons m r ih =>
    have e1 : ob (m :: r) = ob [m] + ob r := ob_append [m] r
    have e2 : nb (m :: r) = nb [m] + nb r := nb_append [m] r
    rw [List.map_cons, List.cons_append, rdl, e1, e2, ust_mark l o p cur m _ _ (h m (by simp))]
    show rdl (l ++ [(o, p, cur ++ [m])], ob r, nb r) (r.map mkl ++ rest) (i + 1) = _
    rw [ih _ _ (fun x hx => h x (by simp [hx]))]
    simp only [List.append_assoc, List.singleton_append, List.length_cons]
    congr 1; omega

theorem rdl_hunk (l : List Uk) (h : Uk) (rest : List (List UInt8)) (i : Nat) (hg : Rd h) : rdl (l, 0, 0) (lnh h 0 0 ++ rest) i = rdl (l ++ [h], 0, 0) rest (i + (lnh h 0 0).length) := by
  obtain ⟨o, p, ms⟩ := h
  obtain ⟨g1, g2, g3, g4, g5, g6, g7⟩ := hg
  simp only at g1 g2 g3 g4 g5 g6 g7
  unfold lnh
  simp only [Nat.add_zero]
  have hd : hdo (hdl o.toNat (ob ms) p.toNat (nb ms)) = some (o.toNat, ob ms, p.toNat, nb ms) := hdo_iff.2 ⟨rfl, by omega, by split <;> omega, by omega, by split <;> omega⟩
  rw [List.cons_append, rdl]
  have hs : ust (l, 0, 0) (hdl o.toNat (ob ms) p.toNat (nb ms)) = some (l ++ [(o, p, [])], ob ms, nb ms) := by
    unfold ust
    rw [if_pos ⟨rfl, rfl⟩, hd]
    simp only [Option.map_some]
    rw [Int.toNat_of_nonneg g1, Int.toNat_of_nonneg g3]
  rw [hs]
  show rdl (l ++ [(o, p, [])], ob ms, nb ms) (ms.map mkl ++ rest) (i + 1) = _
  rw [rdl_marks l o p ms [] rest (i + 1) g7, List.nil_append, List.length_cons, List.length_map]
  congr 1; omega

/-- What is written is read. -/
theorem rdl_all (l k : List Uk) (i : Nat) (h : ∀ x ∈ k, Rd x) : rdl (l, 0, 0) (lns k) i = (i + (lns k).length, some (l ++ k, 0, 0)) := by
  induction k generalizing l i with
  | nil => simp [lns, rdl]
  | cons x r ih =>
    rw [lns_cons, rdl_hunk l x _ _ (h x (by simp)), ih _ _ (fun y hy => h y (by simp [hy]))]
    simp only [List.append_assoc, List.singleton_append, List.length_append]
    congr 1; omega

end Go.Proofs.YtfmhapajdnmhoafDoor
