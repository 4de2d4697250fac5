/-
  Numbers, spans and heads of hunks as texts, as mathematics: what is written is read, what is read is written so.
-/
import Derived.Test.YtjgdicghmkfohacGreatDoorPlain
import Derived.Test.YtjgdicghmkfohacGreatDoorCuts
import Derived.Lib.ItoaNum
import Derived.Lib.Atoi
import Derived.Lib.CutLaws

namespace Go.Proofs.YtjgdicghmkfohacGreatDoor
open Go Dist

/-! ### Numbers -/
theorem dd_small {n : Nat} (h : n < 10) : Lib.decDigits n = [UInt8.ofNat (48 + n)] := by rw [Lib.decDigits, dif_pos h]
theorem dd_big {n : Nat} (h : ¬ n < 10) : Lib.decDigits n = Lib.decDigits (n / 10) ++ [UInt8.ofNat (48 + n % 10)] := by rw [Lib.decDigits, dif_neg h]

theorem digit_of {d : Nat} (h : d < 10) : Lib.digitVal (UInt8.ofNat (48 + d)) = some d := by
  unfold Lib.digitVal
  have e : (UInt8.ofNat (48 + d)).toNat = 48 + d := by simp [UInt8.toNat_ofNat']; omega
  rw [e, if_pos (by omega)]; simp

theorem digit_back {b : UInt8} {d : Nat} (h : Lib.digitVal b = some d) : d < 10 ∧ b = UInt8.ofNat (48 + d) := by
  unfold Lib.digitVal at h
  split at h
  · rename_i hb
    simp only [Option.some.injEq] at h
    refine ⟨by omega, ?_⟩
    rw [← h, show 48 + (b.toNat - 48) = b.toNat by omega]
    simp
  · cases h

theorem decFrom_append (a b : List UInt8) (n : Nat) : Lib.decFrom n (a ++ b) = (Lib.decFrom n a).bind fun m => Lib.decFrom m b := by
  induction a generalizing n with
  | nil => rfl
  | cons x t ih =>
    rw [List.cons_append, Lib.decFrom, Lib.decFrom]
    cases h : Lib.digitVal x with
    | none => rfl
    | some d => exact ih _

theorem decFrom_dd (n : Nat) : Lib.decFrom 0 (Lib.decDigits n) = some n := by
  induction n using Nat.strongRecOn with
  | _ n ih =>
    by_cases h : n < 10
    · rw [dd_small h, Lib.decFrom, digit_of h]; simp [Lib.decFrom]
    · rw [dd_big h, decFrom_append, ih (n / 10) (by omega), Option.bind_some, Lib.decFrom, digit_of (by omega)]
      simp only [Lib.decFrom]
      congr 1; omega

/-- The bytes of a number are digits. -/
theorem dd_bytes (n : Nat) : ∀ b ∈ Lib.decDigits n, 48 ≤ b.toNat ∧ b.toNat ≤ 57 := by
  induction n using Nat.strongRecOn with
  | _ n ih =>
    have hd : ∀ d, d < 10 → 48 ≤ (UInt8.ofNat (48 + d)).toNat ∧ (UInt8.ofNat (48 + d)).toNat ≤ 57 := fun d hd => by
      have e : (UInt8.ofNat (48 + d)).toNat = 48 + d := by simp [UInt8.toNat_ofNat']; omega
      rw [e]; omega
    by_cases h : n < 10
    · rw [dd_small h]
      intro b hb
      simp only [List.mem_singleton] at hb
      rw [hb]; exact hd n h
    · rw [dd_big h]
      intro b hb
      rcases List.mem_append.1 hb with hb | hb
      · exact ih _ (by omega) b hb
      · simp only [List.mem_singleton] at hb
        rw [hb]; exact hd _ (by omega)

theorem dd_pos (n : Nat) : Lib.decDigits n ≠ [] := by
  intro e
  have := Lib.decDigits_length n
  rw [e] at this
  have := Lib.nDigits_pos n
  simp at *; omega

/-- A number has no needless digit. -/
theorem dd_head (n : Nat) : (Lib.decDigits n).head? = some 48 → n = 0 := by
  induction n using Nat.strongRecOn with
  | _ n ih =>
    by_cases h : n < 10
    · rw [dd_small h]
      intro e
      simp only [List.head?_cons, Option.some.injEq] at e
      have := congrArg UInt8.toNat e
      simp [UInt8.toNat_ofNat'] at this
      omega
    · rw [dd_big h, List.head?_append]
      intro e
      cases hh : (Lib.decDigits (n / 10)).head? with
      | none => exact absurd (List.head?_eq_none_iff.1 hh) (dd_pos _)
      | some b =>
        rw [hh] at e
        simp only [Option.some_or, Option.some.injEq] at e
        have h0 := ih (n / 10) (by omega) (by rw [hh, e])
        omega

/-- Digits without a needless one are a number's. -/
theorem dd_only {s : List UInt8} : ∀ {n : Nat}, s ≠ [] → (s.length = 1 ∨ s.head? ≠ some 48) → Lib.decFrom 0 s = some n → s = Lib.decDigits n := by
  induction hl : s.length using Nat.strongRecOn generalizing s with
  | _ k ih =>
    intro n h0 h1 h2
    rcases List.eq_nil_or_concat s with e | ⟨t, b, e⟩
    · exact absurd e h0
    rw [List.concat_eq_append] at e
    subst e
    rw [decFrom_append] at h2
    cases ht : Lib.decFrom 0 t with
    | none => rw [ht] at h2; simp at h2
    | some m =>
      rw [ht, Option.bind_some, Lib.decFrom] at h2
      cases hb : Lib.digitVal b with
      | none => rw [hb] at h2; simp at h2
      | some d =>
        rw [hb] at h2
        simp only [Lib.decFrom, Option.some.injEq] at h2
        obtain ⟨hd, rfl⟩ := digit_back hb
        by_cases ht0 : t = []
        · subst ht0
          simp [Lib.decFrom] at ht
          subst ht
          rw [← h2, Nat.zero_mul, Nat.zero_add, dd_small hd]; rfl
        · have hh : (t ++ [UInt8.ofNat (48 + d)]).head? = t.head? := by
            rw [List.head?_append]
            cases t with
            | nil => exact absurd rfl ht0
            | cons x r => rfl
          have h1' : t.head? ≠ some 48 := by
            rcases h1 with h1 | h1
            · rw [← hl, List.length_append] at h1
              have : t.length ≠ 0 := fun e => ht0 (List.length_eq_zero_iff.1 e)
              rw [List.length_singleton] at h1
              omega
            · rwa [hh] at h1
          have e := ih t.length (by rw [← hl, List.length_append]; simp) rfl ht0 (.inr h1') ht
          have hm : m ≠ 0 := by
            intro e0
            rw [e0, dd_small (by decide)] at e
            rw [e] at h1'
            exact h1' rfl
          rw [← h2, dd_big (by omega), show (m * 10 + d) / 10 = m by omega, show (m * 10 + d) % 10 = d by omega, ← e]

theorem dd_len {n : Nat} (h : n ≤ 999) : (Lib.decDigits n).length ≤ 3 := by
  rw [Lib.decDigits_length]
  by_cases h1 : n < 10
  · rw [Lib.nDigits_small h1]; omega
  · rw [Lib.nDigits_big h1]
    by_cases h2 : n / 10 < 10
    · rw [Lib.nDigits_small h2]; omega
    · rw [Lib.nDigits_big h2, Lib.nDigits_small (by omega)]; omega

theorem dd_le {n : Nat} (h : (Lib.decDigits n).length ≤ 3) : n ≤ 999 := by
  rw [Lib.decDigits_length] at h
  have h1 := Lib.lt_pow_nDigits n
  have h2 : (10 : Nat) ^ Lib.nDigits n ≤ 10 ^ 3 := Nat.pow_le_pow_right (by decide) h
  omega

theorem atoi_dd (n : Nat) : Lib.atoi (Lib.decDigits n) = some (n : Int) := by
  cases h : Lib.decDigits n with
  | nil => exact absurd h (dd_pos n)
  | cons b r =>
    have hb := dd_bytes n b (by rw [h]; simp)
    have h1 : (b == 45) = false := by
      rw [beq_eq_false_iff_ne]; intro e; rw [e] at hb; simp at hb
    have h2 : (b == 43) = false := by
      rw [beq_eq_false_iff_ne]; intro e; rw [e] at hb; simp at hb
    rw [Lib.atoi, h1, h2]
    simp only [Bool.false_eq_true, if_false]
    rw [← h]
    unfold Lib.decNat
    rw [decFrom_dd, h]
    rfl

/-- A number of three digits at most, none needless. -/
def num (s : List UInt8) : Option Nat :=
  if s.length ≤ 3 then match Lib.decFrom 0 s with
    | some n => if Lib.decDigits n = s then some n else none
    | none => none
  else none

theorem num_iff {s : List UInt8} {n : Nat} : num s = some n ↔ n ≤ 999 ∧ s = Lib.decDigits n := by
  constructor
  · intro h
    unfold num at h
    split at h
    · rename_i hl
      split at h
      · split at h
        · rename_i e
          simp only [Option.some.injEq] at h
          subst h
          exact ⟨dd_le (by rw [e]; exact hl), e.symm⟩
        · cases h
      · cases h
    · cases h
  · rintro ⟨h1, rfl⟩
    unfold num
    rw [if_pos (dd_len h1), decFrom_dd]
    simp

theorem num_none {s : List UInt8} : num s = none ↔ ∀ n, n ≤ 999 → s ≠ Lib.decDigits n := by
  constructor
  · intro h n hn e
    have := num_iff.2 ⟨hn, e⟩
    rw [h] at this; cases this
  · intro h
    cases hn : num s with
    | none => rfl
    | some n => exact absurd (num_iff.1 hn).2 (h n (num_iff.1 hn).1)

/-- By the library's reading. -/
theorem num_atoi {s : List UInt8} (hl : s.length ≤ 3) {n : Int} (h : Lib.atoi s = some n) : num s = if 0 ≤ n ∧ Lib.decDigits n.toNat = s then some n.toNat else none := by
  split
  · rename_i hc
    exact num_iff.2 ⟨dd_le (by rw [hc.2]; exact hl), hc.2.symm⟩
  · rename_i hc
    rw [num_none]
    intro m _ e
    apply hc
    rw [e, atoi_dd] at h
    simp only [Option.some.injEq] at h
    subst h
    exact ⟨by omega, by rw [e]; simp⟩

theorem num_atoi_none {s : List UInt8} (h : Lib.atoi s = none) : num s = none := by
  rw [num_none]
  intro m _ e
  rw [e, atoi_dd] at h; cases h

theorem num_long {s : List UInt8} (h : 3 < s.length) : num s = none := by unfold num; rw [if_neg (by omega)]

/-- By the document's reading. -/
theorem num_ref {s : List UInt8} : num s = if s.length < 1 ∨ 3 < s.length ∨ (1 < s.length ∧ s.head? = some 48) then none else Lib.decFrom 0 s := by
  split
  · rename_i hc
    rw [num_none]
    intro n hn e
    rcases hc with h | h | ⟨h1, h2⟩
    · have := dd_pos n
      rw [← e] at this
      exact this (List.length_eq_zero_iff.1 (by omega))
    · have := dd_len hn
      rw [← e] at this
      omega
    · rw [e] at h2
      have := dd_head n h2
      subst this
      rw [e, dd_small (by decide)] at h1
      simp at h1
  · rename_i hc
    have h0 : s ≠ [] := fun e => hc (.inl (by rw [e]; decide))
    cases hd : Lib.decFrom 0 s with
    | none =>
      rw [num_none]
      intro n _ e
      rw [e, decFrom_dd] at hd; cases hd
    | some n =>
      have e := dd_only h0 (by
        by_cases h1 : s.length = 1
        · exact .inl h1
        · refine .inr fun h2 => hc (.inr (.inr ⟨?_, h2⟩))
          have : s.length ≠ 0 := fun e => h0 (List.length_eq_zero_iff.1 e)
          omega) hd
      rw [num_iff]
      exact ⟨dd_le (by rw [← e]; omega), e⟩

/-! ### Texts cut at a text -/
theorem isPrefixOf_iff {a s : List UInt8} : a.isPrefixOf s = true ↔ ∃ r, s = a ++ r := by
  rw [List.isPrefixOf_iff_prefix]
  constructor
  · rintro ⟨r, rfl⟩; exact ⟨r, rfl⟩
  · rintro ⟨r, rfl⟩; exact ⟨r, rfl⟩

theorem isSuffixOf_iff {a s : List UInt8} : a.isSuffixOf s = true ↔ ∃ r, s = r ++ a := by
  rw [List.isSuffixOf_iff_suffix]
  constructor
  · rintro ⟨r, rfl⟩; exact ⟨r, rfl⟩
  · rintro ⟨r, rfl⟩; exact ⟨r, rfl⟩

/-- What is found stands there. -/
theorem index_there : ∀ (s t : List UInt8) (k : Nat), Lib.index s t = k → ∃ r, s = s.take k ++ (t ++ r)
  | [], t, k, h => by
    unfold Lib.index at h
    split at h
    · rename_i ht
      have : t = [] := by simpa using ht
      exact ⟨[], by simp [this]⟩
    · omega
  | b :: l, t, k, h => by
    unfold Lib.index at h
    split at h
    · rename_i hp
      obtain ⟨r, hr⟩ := isPrefixOf_iff.1 hp
      obtain rfl : k = 0 := by omega
      exact ⟨r, by simpa using hr⟩
    · split at h
      · omega
      · cases k with
        | zero =>
          have := Lib.index_ge l t
          rename_i hne
          simp at hne
          omega
        | succ k =>
          obtain ⟨r, hr⟩ := index_there l t k (by omega)
          exact ⟨r, by rw [List.take_succ_cons, List.cons_append, ← hr]⟩

/-- Of a text whose first byte is not ahead the place is at once behind. -/
theorem index_two (x y : UInt8) (a r : List UInt8) (h : x ∉ a) : Lib.index (a ++ (x :: y :: r)) [x, y] = a.length := by
  induction a with
  | nil => simp [Lib.index, List.isPrefixOf]
  | cons b t ih =>
    have hb : ¬ x = b := fun e => h (by simp [e])
    have ht : x ∉ t := fun e => h (by simp [e])
    have hne : ¬ ((t.length : Int) = -1) := by omega
    rw [List.cons_append, Lib.index, ih ht]
    simp [List.isPrefixOf, hb, hne]

theorem cut_there {s t a b : List UInt8} (h : Lib.cut s t = (a, b, true)) : s = a ++ (t ++ b) := by
  unfold Lib.cut at h
  split at h
  · rename_i h0
    obtain ⟨k, hk⟩ : ∃ k : Nat, Lib.index s t = k := ⟨(Lib.index s t).toNat, by omega⟩
    obtain ⟨r, hr⟩ := index_there s t k hk
    rw [hk] at h
    simp only [Int.toNat_natCast, Prod.mk.injEq, and_true] at h
    obtain ⟨h1, h2⟩ := h
    have hl : (s.take k).length = k := by
      rw [List.length_take]
      have := congrArg List.length hr
      rw [List.length_append, List.length_append, List.length_take] at this
      by_cases e : k ≤ s.length
      · omega
      · exfalso
        have := Lib.index_room s t (by omega)
        rw [hk] at this
        omega
    have hb : b = r := by
      rw [← h2, hr, ← List.append_assoc, List.drop_left' (by rw [List.length_append, hl])]
    rw [← h1, hb]; exact hr
  · simp at h

theorem cut_one (c : UInt8) (a b : List UInt8) (h : c ∉ a) : Lib.cut (a ++ c :: b) [c] = (a, b, true) := by
  unfold Lib.cut
  rw [index_hit c a b h, if_pos (by omega)]
  simp only [Int.toNat_natCast, List.length_singleton, List.take_left', Prod.mk.injEq, true_and, and_true]
  rw [show a ++ c :: b = (a ++ [c]) ++ b by simp, List.drop_left' (by simp)]

theorem cut_two (x y : UInt8) (a b : List UInt8) (h : x ∉ a) : Lib.cut (a ++ x :: y :: b) [x, y] = (a, b, true) := by
  unfold Lib.cut
  rw [index_two x y a b h, if_pos (by omega)]
  simp only [Int.toNat_natCast, List.take_left', Prod.mk.injEq, true_and, and_true]
  rw [show a ++ x :: y :: b = (a ++ [x, y]) ++ b by simp, List.drop_left' (by simp)]

/-! ### Spans -/
/-- The text of so many lines behind so many. -/
def spn (a n : Nat) : List UInt8 := Lib.decDigits (if n = 0 then a else a + 1) ++ 44 :: Lib.decDigits n

def spc (a b : Option Nat) : Option (Nat × Nat) := match a, b with
  | some a, some b => if b = 0 then some (a, 0) else if a = 0 then none else some (a - 1, b)
  | _, _ => none

def spo (s : List UInt8) : Option (Nat × Nat) := if (Lib.cut s [44]).2.2 = true then spc (num (Lib.cut s [44]).1) (num (Lib.cut s [44]).2.1) else none

theorem dd_not {n : Nat} {c : UInt8} (h : c.toNat < 48 ∨ 57 < c.toNat) : c ∉ Lib.decDigits n := fun hc => by
  have := dd_bytes n c hc
  omega

theorem spo_iff {s : List UInt8} {a n : Nat} : spo s = some (a, n) ↔ s = spn a n ∧ n ≤ 999 ∧ (if n = 0 then a else a + 1) ≤ 999 := by
  constructor
  · intro h
    unfold spo at h
    split at h
    · rename_i hc
      obtain ⟨x, hx⟩ : ∃ x, (Lib.cut s [44]).1 = x := ⟨_, rfl⟩
      obtain ⟨y, hy⟩ : ∃ y, (Lib.cut s [44]).2.1 = y := ⟨_, rfl⟩
      have hs := cut_there (s := s) (t := [44]) (a := x) (b := y) (by rw [← hx, ← hy, ← hc])
      rw [hx, hy] at h
      unfold spc at h
      split at h
      · rename_i p q hp hq
        obtain ⟨hp1, hp2⟩ := num_iff.1 hp
        obtain ⟨hq1, hq2⟩ := num_iff.1 hq
        unfold spn
        split at h
        · rename_i e
          simp only [Option.some.injEq, Prod.mk.injEq] at h
          obtain ⟨rfl, rfl⟩ := h
          subst e
          rw [if_pos rfl]
          exact ⟨by rw [hs, hp2, hq2]; rfl, hq1, hp1⟩
        · split at h
          · cases h
          · simp only [Option.some.injEq, Prod.mk.injEq] at h
            obtain ⟨h1, rfl⟩ := h
            rename_i e1 e2
            rw [if_neg e1, show a + 1 = p by omega]
            exact ⟨by rw [hs, hp2, hq2]; rfl, hq1, hp1⟩
      · cases h
    · cases h
  · rintro ⟨rfl, h1, h2⟩
    unfold spo spn
    rw [cut_one 44 _ _ (dd_not (by decide))]
    rw [if_pos rfl, num_iff.2 ⟨h2, rfl⟩, num_iff.2 ⟨h1, rfl⟩]
    unfold spc
    by_cases e : n = 0
    · simp [e]
    · simp [e]

theorem spn_not {a n : Nat} {c : UInt8} (h : c.toNat < 44 ∨ 57 < c.toNat) : c ∉ spn a n := by
  unfold spn
  intro hc
  rcases List.mem_append.1 hc with hc | hc
  · exact dd_not (by omega) hc
  · rcases List.mem_cons.1 hc with hc | hc
    · subst hc; simp at h
    · exact dd_not (by omega) hc

/-! ### Heads -/
/-- The head of a hunk: so many lines behind so many, of the old file and of the new one. -/
def hdl (a n b m : Nat) : List UInt8 := [64, 64, 32, 45] ++ (spn a n ++ (32 :: 43 :: (spn b m ++ [32, 64, 64])))

def hdc (a b : Option (Nat × Nat)) : Option (Nat × Nat × Nat × Nat) := match a, b with
  | some (a, n), some (b, m) => some (a, n, b, m)
  | _, _ => none

/-- What lies between a head's beginning and its end. -/
def hin (s : List UInt8) : List UInt8 := Lib.trimSuffix (Lib.trimPrefix s [64, 64, 32, 45]) [32, 64, 64]
def hfit (s : List UInt8) : Bool := Lib.hasPrefix s [64, 64, 32, 45] && (Lib.hasSuffix (Lib.trimPrefix s [64, 64, 32, 45]) [32, 64, 64] && (Lib.cut (hin s) [32, 43]).2.2)

def hdo (s : List UInt8) : Option (Nat × Nat × Nat × Nat) := if hfit s = true then hdc (spo (Lib.cut (hin s) [32, 43]).1) (spo (Lib.cut (hin s) [32, 43]).2.1) else none

theorem hin_of (t : List UInt8) : Lib.hasPrefix ([64, 64, 32, 45] ++ (t ++ [32, 64, 64])) [64, 64, 32, 45] = true ∧ Lib.hasSuffix (Lib.trimPrefix ([64, 64, 32, 45] ++ (t ++ [32, 64, 64])) [64, 64, 32, 45]) [32, 64, 64] = true ∧ hin ([64, 64, 32, 45] ++ (t ++ [32, 64, 64])) = t := by
  have h1 : Lib.hasPrefix ([64, 64, 32, 45] ++ (t ++ [32, 64, 64])) [64, 64, 32, 45] = true := isPrefixOf_iff.2 ⟨_, rfl⟩
  have h2 : Lib.trimPrefix ([64, 64, 32, 45] ++ (t ++ [32, 64, 64])) [64, 64, 32, 45] = t ++ [32, 64, 64] := by
    unfold Lib.trimPrefix; rw [if_pos h1]; rfl
  have h3 : Lib.hasSuffix (t ++ [32, 64, 64]) [32, 64, 64] = true := isSuffixOf_iff.2 ⟨_, rfl⟩
  refine ⟨h1, by rw [h2]; exact h3, ?_⟩
  unfold hin
  rw [h2]
  unfold Lib.trimSuffix
  rw [if_pos h3]
  simp

theorem hfit_iff {s : List UInt8} : hfit s = true ↔ ∃ a b, Lib.cut (hin s) [32, 43] = (a, b, true) ∧ s = [64, 64, 32, 45] ++ (hin s ++ [32, 64, 64]) := by
  constructor
  · intro h
    unfold hfit at h
    simp only [Bool.and_eq_true] at h
    obtain ⟨h1, h2, h3⟩ := h
    refine ⟨(Lib.cut (hin s) [32, 43]).1, (Lib.cut (hin s) [32, 43]).2.1, by rw [← h3], ?_⟩
    obtain ⟨r, hr⟩ := isPrefixOf_iff.1 h1
    have e1 : Lib.trimPrefix s [64, 64, 32, 45] = r := by
      unfold Lib.trimPrefix
      rw [if_pos h1, hr]; rfl
    rw [e1] at h2
    obtain ⟨t, ht⟩ := isSuffixOf_iff.1 h2
    have e2 : hin s = t := by
      unfold hin
      rw [e1]
      unfold Lib.trimSuffix
      rw [if_pos h2, ht]; simp
    rw [e2, ← ht]; exact hr
  · rintro ⟨a, b, h1, h2⟩
    have h3 := hin_of (hin s)
    rw [← h2] at h3
    unfold hfit
    rw [h3.1, h3.2.1, h1]; rfl

theorem hdo_iff {s : List UInt8} {a n b m : Nat} : hdo s = some (a, n, b, m) ↔ s = hdl a n b m ∧ n ≤ 999 ∧ (if n = 0 then a else a + 1) ≤ 999 ∧ m ≤ 999 ∧ (if m = 0 then b else b + 1) ≤ 999 := by
  constructor
  · intro h
    unfold hdo at h
    split at h
    · rename_i hf
      obtain ⟨x, y, h1, h2⟩ := hfit_iff.1 hf
      rw [h1] at h
      have h3 := cut_there h1
      simp only at h
      unfold hdc at h
      split at h
      · rename_i p q r t hp hq
        simp only [Option.some.injEq, Prod.mk.injEq] at h
        obtain ⟨rfl, rfl, rfl, rfl⟩ := h
        obtain ⟨p1, p2, p3⟩ := spo_iff.1 hp
        obtain ⟨q1, q2, q3⟩ := spo_iff.1 hq
        refine ⟨?_, p2, p3, q2, q3⟩
        unfold hdl
        rw [h2, h3, p1, q1]; simp
      · cases h
    · cases h
  · rintro ⟨rfl, h1, h2, h3, h4⟩
    have e : hdl a n b m = [64, 64, 32, 45] ++ ((spn a n ++ (32 :: 43 :: spn b m)) ++ [32, 64, 64]) := by unfold hdl; simp
    have h5 := hin_of (spn a n ++ (32 :: 43 :: spn b m))
    rw [← e] at h5
    have h6 := cut_two 32 43 (spn a n) (spn b m) (spn_not (by decide))
    unfold hdo
    have h7 : hfit (hdl a n b m) = true := by
      rw [hfit_iff, h5.2.2]
      exact ⟨_, _, h6, e⟩
    rw [if_pos h7, h5.2.2, h6]
    rw [spo_iff.2 ⟨rfl, h1, h2⟩, spo_iff.2 ⟨rfl, h3, h4⟩]
    rfl

theorem hdl_not {a n b m : Nat} : (10 : UInt8) ∉ hdl a n b m := by
  unfold hdl
  intro h
  simp only [List.mem_append, List.mem_cons, List.not_mem_nil, or_false] at h
  rcases h with h | h | h | h | h | h
  · revert h; decide
  · exact spn_not (by decide) h
  · revert h; decide
  · revert h; decide
  · exact spn_not (by decide) h
  · revert h; decide

end Go.Proofs.YtjgdicghmkfohacGreatDoor
