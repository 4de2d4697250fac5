/-
  Walks of the document's own answers for numbers and spans as texts: Dec, span, Number, Find, Starts, Ends. Walks of the document's own answers for spans and heads of hunks, read. Walk of the document's own answer for a head of a hunk, read.
-/
import Derived.Test.YtjgdicghmkfohadGreatDoorUnm
import Derived.Lib.IndexBytes
import Derived.Test.YtjgdicghmkfohadGreatDoorUmc
import Derived.Test.YtjgdicghmkfohadGreatDoorHks
namespace Go.Proofs.YtjgdicghmkfohadGreatDoor
open Go.RowKit

theorem digit_text : ∀ d : Fin 10, (ByteArray.mk #[48, 49, 50, 51, 52, 53, 54, 55, 56, 57]).extract d.val (d.val + 1) = ByteArray.mk #[UInt8.ofNat (48 + d.val)] := by decide +kernel

theorem digit_app (d : Nat) (hd : d < 10) (t : List UInt8) : (ByteArray.mk #[48, 49, 50, 51, 52, 53, 54, 55, 56, 57]).extract d (d + 1) ++ ByteArray.mk t.toArray = ByteArray.mk (UInt8.ofNat (48 + d) :: t).toArray := by
  have := digit_text ⟨d, hd⟩
  rw [show (ByteArray.mk #[48, 49, 50, 51, 52, 53, 54, 55, 56, 57]).extract d (d + 1) = ByteArray.mk #[UInt8.ofNat (48 + d)] from this]
  apply ByteArray.ext
  apply Array.toList_inj.1
  simp

set_option maxRecDepth 100000 in
set_option maxHeartbeats 1000000 in
theorem decOf (n : Nat) (w : World) (hn : n ≤ 999) : Calls Tryz.prog 42 #[.int .i64 n] w fun e w' => e = .returned (.string ⟨(Lib.decDigits n).toArray⟩) ∧ w' = w := by
  have HD : Hid (Lib.decDigits n = Lib.decDigits n ++ []) := by show Lib.decDigits n = _; simp
  have HL : Hid ((Lib.decDigits n).length ≤ 3) := dd_len hn
  go_enter Tryz.func42, Tryz.ntmps42
  go_wp2
  go_loop [0, 3] (fun a b => ∃ (m : Nat) (t : List UInt8), m ≤ 999 ∧ a = .int .i64 m ∧ b = .string ⟨t.toArray⟩ ∧ Lib.decDigits n = Lib.decDigits m ++ t) (fun a _ => (intOf a).toNat)
  case atStart => exact ⟨n, [], by omega, rfl, rfl, HD.out⟩
  case round =>
    obtain ⟨m, t, hm, rfl, rfl, hd⟩ := hrel
    have HDD : Hid (Lib.decDigits n = Lib.decDigits m ++ t) := hd
    have ht : t.length ≤ 3 := by
      have h1 := HL.out
      rw [hd, List.length_append] at h1
      omega
    clear hd
    by_cases h9 : 9 < m
    · have h9' : (9 : Int) < m := by omega
      go_wp2_with fail
      refine ⟨⟨m / 10, UInt8.ofNat (48 + m % 10) :: t, by omega, by go_num, ?_, ?_⟩, by simp [intOf]; omega⟩
      · rw [digit_app _ (by omega)]
      · rw [HDD.out, dd_big (by omega)]; simp
    · have h9' : ¬ (9 : Int) < m := by omega
      go_wp2
      go_ret
      refine ⟨?_, rfl⟩
      rw [HDD.out, dd_small (by omega)]
      exact congrArg (fun b => Ending.returned (.string b)) (digit_app m (by omega) t)

set_option maxRecDepth 100000 in
set_option maxHeartbeats 1000000 in
theorem refSpan (a n : Nat) (w : World) (ha : a ≤ 90) (hn : n ≤ 90) : Calls Tryz.prog 30 #[.int .i64 a, .int .i64 n] w fun e w' => e = .returned (.string ⟨(spn a n).toArray⟩) ∧ w' = w := by
  have hi2 := fun w => decOf n w (by omega)
  have l1 := dd_len (n := a) (by omega)
  have l2 := dd_len (n := a + 1) (by omega)
  have l3 := dd_len (n := n) (by omega)
  by_cases h0 : n = 0
  · have HS : Hid (spn a n = Lib.decDigits a ++ 44 :: Lib.decDigits n) := by show spn a n = _; unfold spn; rw [if_pos h0]
    have hi1 := fun w => decOf a w (by omega)
    have h1 : ¬ (0 : Int) < n := by omega
    clear h0
    go_enter Tryz.func30, Tryz.ntmps30
    go_wp2_with fail
    refine (hi1 _).mono ?_
    rintro e w1 ⟨rfl, rfl⟩
    go_wp2_with fail
    refine (hi2 _).mono ?_
    rintro e w1 ⟨rfl, rfl⟩
    go_wp2
    go_ret
    refine ⟨?_, rfl⟩
    rw [HS.out]
    exact ret_s (by simp)
  · have HS : Hid (spn a n = Lib.decDigits (a + 1) ++ 44 :: Lib.decDigits n) := by show spn a n = _; unfold spn; rw [if_neg h0]
    have hi1 := fun w => decOf (a + 1) w (by omega)
    rw [show ((a + 1 : Nat) : Int) = (a : Int) + 1 by omega] at hi1
    have h1 : (0 : Int) < n := by omega
    clear h0
    go_enter Tryz.func30, Tryz.ntmps30
    go_wp2_with fail
    refine (hi1 _).mono ?_
    rintro e w1 ⟨rfl, rfl⟩
    go_wp2_with fail
    refine (hi2 _).mono ?_
    rintro e w1 ⟨rfl, rfl⟩
    go_wp2
    go_ret
    refine ⟨?_, rfl⟩
    rw [HS.out]
    exact ret_s (by simp)

/-! ### Texts that begin, end, have another one -/
theorem beq_bool (x y : ByteArray) : (x.toList == y.toList) = decide (x = y) := by
  rw [Lib.toList_data, Lib.toList_data, Bool.eq_iff_iff, beq_iff_eq, decide_eq_true_eq]
  constructor
  · intro h; exact ByteArray.ext (Array.toList_inj.1 h)
  · intro h; rw [h]

set_option maxHeartbeats 400000 in
theorem starts (s t : ByteArray) (w : World) : Calls Tryz.prog 24 #[.string s, .string t] w fun e w' => e = .returned (.bool (Lib.hasPrefix s.data.toList t.data.toList)) ∧ w' = w := by
  have E : Hid (∀ b, Lib.hasPrefix s.data.toList t.data.toList = b → Ending.returned (.bool b) = .returned (.bool (Lib.hasPrefix s.data.toList t.data.toList))) := fun b hb => by rw [hb]
  by_cases h : t.size ≤ s.size
  · have h' : (t.size : Int) ≤ s.size := by omega
    have HX : Hid (Lib.hasPrefix s.data.toList t.data.toList = ((s.extract 0 t.size).toList == t.toList)) := by
      show Lib.hasPrefix s.data.toList t.data.toList = _
      rw [Lib.toList_data, Lib.toList_data, Lib.extract_data, List.drop_zero, Nat.sub_zero, Bool.eq_iff_iff, beq_iff_eq]
      unfold Lib.hasPrefix
      rw [List.isPrefixOf_iff_prefix, List.prefix_iff_eq_take, Lib.size_eq]
      exact ⟨fun h => h.symm, fun h => h.symm⟩
    go_enter Tryz.func24, Tryz.ntmps24
    go_wp2
    go_ret
    exact ⟨E.out _ HX.out, rfl⟩
  · have h' : ¬ (t.size : Int) ≤ s.size := by omega
    have HX : Hid (Lib.hasPrefix s.data.toList t.data.toList = false) := by
      show Lib.hasPrefix s.data.toList t.data.toList = false
      unfold Lib.hasPrefix
      rw [Bool.eq_false_iff]
      intro e
      have := (List.isPrefixOf_iff_prefix.1 e).length_le
      rw [← Lib.size_eq, ← Lib.size_eq] at this
      omega
    go_enter Tryz.func24, Tryz.ntmps24
    go_wp2
    go_ret
    exact ⟨E.out _ HX.out, rfl⟩

set_option maxHeartbeats 400000 in
theorem ends (s t : ByteArray) (w : World) (hs : s.size ≤ maxLen) : Calls Tryz.prog 53 #[.string s, .string t] w fun e w' => e = .returned (.bool (Lib.hasSuffix s.data.toList t.data.toList)) ∧ w' = w := by
  unfold maxLen at hs
  have E : Hid (∀ b, Lib.hasSuffix s.data.toList t.data.toList = b → Ending.returned (.bool b) = .returned (.bool (Lib.hasSuffix s.data.toList t.data.toList))) := fun b hb => by rw [hb]
  by_cases h : t.size ≤ s.size
  · have h' : (t.size : Int) ≤ s.size := by omega
    have HX : Hid (Lib.hasSuffix s.data.toList t.data.toList = ((s.extract (s.size - t.size) s.size).toList == t.toList)) := by
      show Lib.hasSuffix s.data.toList t.data.toList = _
      rw [Lib.toList_data, Lib.toList_data, Lib.extract_data, Bool.eq_iff_iff, beq_iff_eq]
      unfold Lib.hasSuffix
      rw [List.isSuffixOf_iff_suffix, List.suffix_iff_eq_drop, ← Lib.size_eq, ← Lib.size_eq, List.take_of_length_le (by rw [List.length_drop, ← Lib.size_eq]; exact Nat.le_refl _)]
      exact ⟨fun h => h.symm, fun h => h.symm⟩
    go_enter Tryz.func53, Tryz.ntmps53
    go_wp2
    go_ret
    exact ⟨E.out _ HX.out, rfl⟩
  · have h' : ¬ (t.size : Int) ≤ s.size := by omega
    have HX : Hid (Lib.hasSuffix s.data.toList t.data.toList = false) := by
      show Lib.hasSuffix s.data.toList t.data.toList = false
      unfold Lib.hasSuffix
      rw [Bool.eq_false_iff]
      intro e
      have := (List.isSuffixOf_iff_suffix.1 e).length_le
      rw [← Lib.size_eq, ← Lib.size_eq] at this
      omega
    go_enter Tryz.func53, Tryz.ntmps53
    go_wp2
    go_ret
    exact ⟨E.out _ HX.out, rfl⟩

set_option maxRecDepth 100000 in
set_option maxHeartbeats 1000000 in
theorem findIn (s t : ByteArray) (w : World) (hs : s.size ≤ 400000) (h1 : 1 ≤ t.size) (h2 : t.size ≤ 10) : Calls Tryz.prog 54 #[.string s, .string t] w fun e w' => e = .returned (.int .i64 (Lib.index s.data.toList t.data.toList)) ∧ w' = w := by
  have HX : Hid (∀ r, Lib.indexB s t = r → Ending.returned (.int .i64 r) = .returned (.int .i64 (Lib.index s.data.toList t.data.toList))) := fun r hr => by rw [← hr]
  go_enter Tryz.func54, Tryz.ntmps54
  go_wp2
  go_loop [5] (fun i => ∃ k : Nat, k ≤ s.size + 1 ∧ i = .int .i64 k ∧ Lib.NoOccB s t k) (fun i => s.size + 2 - (intOf i).toNat)
  case atStart => exact ⟨0, Nat.zero_le _, rfl, fun j hj => absurd hj (Nat.not_lt_zero _)⟩
  case round =>
    obtain ⟨k, hk, rfl, hno⟩ := hrel
    have HNO : Hid (Lib.NoOccB s t k) := hno
    clear hno
    by_cases hlt : k + t.size ≤ s.size
    · have hl1 : (k : Int) + t.size ≤ s.size := by omega
      have hl2 : (0 : Int) ≤ k := by omega
      have hl3 : (k : Int) ≤ (k : Int) + t.size := by omega
      by_cases hp : ((s.extract k (k + t.size)).toList == t.toList) = true
      · have HR : Hid (Lib.indexB s t = k) := Lib.hit s t k HNO.out hlt hp
        go_wp2
        go_ret
        exact ⟨HX.out _ HR.out, rfl⟩
      · have hp : ((s.extract k (k + t.size)).toList == t.toList) = false := by simpa using hp
        have HN : Hid (Lib.NoOccB s t (k + 1)) := Lib.miss_piece s t k HNO.out hlt hp
        go_wp2
        go_round
        case rel => exact ⟨k + 1, by omega, by go_num, HN.out⟩
        case measure => simp [intOf]; omega
    · have hl1 : ¬ (k : Int) + t.size ≤ s.size := by omega
      have HR : Hid (Lib.indexB s t = -1) := Lib.past s t k HNO.out h1 (by omega)
      go_wp2
      go_ret
      exact ⟨HX.out _ HR.out, rfl⟩

/-- A number, or -1. -/
def nmI (o : Option Nat) : Int := match o with
  | some n => n
  | none => -1

theorem head_at (s : ByteArray) (h : 0 < s.size) : s.data.toList.head? = some (s[0]'h) := by
  have := Lib.getD_at s 0 h
  cases hl : s.data.toList with
  | nil => rw [Lib.size_eq, hl] at h; simp at h
  | cons b r => rw [hl] at this; simp at this; rw [← this]; rfl

theorem byte_at (s : ByteArray) (k : Nat) (h : k < s.size) : s.data.toList[k]? = some (s[k]'h) := by
  have h' : k < s.data.toList.length := by rw [← Lib.size_eq]; exact h
  rw [List.getElem?_eq_getElem h']
  rfl

set_option maxRecDepth 100000 in
set_option maxHeartbeats 1000000 in
theorem numberOf (s : ByteArray) (w : World) (hs : s.size ≤ 400000) : Calls Tryz.prog 72 #[.string s, .int .i64 3] w fun e w' => e = .returned (.int .i64 (nmI (num s.data.toList))) ∧ w' = w := by
  have E : Hid (∀ r o, num s.data.toList = o → nmI o = r → Ending.returned (.int .i64 r) = .returned (.int .i64 (nmI (num s.data.toList)))) := fun r o h1 h2 => by rw [h1, h2]
  have HN := num_ref (s := s.data.toList)
  rw [← Lib.size_eq] at HN
  by_cases h1 : s.size < 1
  · have h1' : (s.size : Int) < 1 := by omega
    have H0 : Hid (num s.data.toList = none) := by show num s.data.toList = none; rw [HN, if_pos (.inl h1)]
    clear HN
    go_enter Tryz.func72, Tryz.ntmps72
    go_wp2
    go_ret
    exact ⟨E.out _ _ H0.out rfl, rfl⟩
  have h1' : ¬ (s.size : Int) < 1 := by omega
  by_cases h3 : 3 < s.size
  · have h3' : (3 : Int) < s.size := by omega
    have H0 : Hid (num s.data.toList = none) := by show num s.data.toList = none; rw [HN, if_pos (.inr (.inl h3))]
    clear HN
    go_enter Tryz.func72, Tryz.ntmps72
    go_wp2
    go_ret
    exact ⟨E.out _ _ H0.out rfl, rfl⟩
  have h3' : ¬ (3 : Int) < s.size := by omega
  have hp : 0 < s.size := by omega
  have hh := head_at s hp
  by_cases h4 : 1 < s.size ∧ s[0]'hp = 48
  · have h5 : (1 : Int) < s.size := by omega
    have h6 : (((s[0]'hp).toNat : Int) == 48) = true := by rw [h4.2]; rfl
    have H0 : Hid (num s.data.toList = none) := by show num s.data.toList = none; rw [HN, if_pos (.inr (.inr ⟨h4.1, by rw [hh, h4.2]⟩))]
    clear HN hh h4
    go_enter Tryz.func72, Tryz.ntmps72
    go_wp2
    go_ret
    exact ⟨E.out _ _ H0.out rfl, rfl⟩
  have H0 : Hid (num s.data.toList = Lib.decFrom 0 s.data.toList) := by
    show num s.data.toList = _
    rw [HN, if_neg]
    rintro (h | h | ⟨h, h'⟩)
    · omega
    · omega
    · rw [hh] at h'
      exact h4 ⟨h, by simpa using h'⟩
  clear HN hh
  by_cases h5 : 1 < s.size
  case' pos =>
    have h5' : (1 : Int) < s.size := by omega
    have h6 : (((s[0]'hp).toNat : Int) == 48) = false := by
      rw [beq_eq_false_iff_ne]; intro e; apply h4; refine ⟨h5, UInt8.toNat_inj.1 ?_⟩; show _ = 48; omega
  case' neg =>
    have h5' : ¬ (1 : Int) < s.size := by omega
  all_goals
    clear h4 h5
    go_enter Tryz.func72, Tryz.ntmps72
    go_wp2
    go_loop [5, 6] (fun x i => ∃ (k m : Nat), k ≤ s.size ∧ i = .int .i64 k ∧ x = .int .i64 m ∧ Lib.decFrom 0 (s.data.toList.take k) = some m) (fun _ i => s.size - (intOf i).toNat)
    case atStart => exact ⟨0, 0, Nat.zero_le _, rfl, rfl, rfl⟩
    case round =>
      obtain ⟨k, m, hk, rfl, rfl, hd⟩ := hrel
      have hm : m ≤ 999 := by
        have h7 := decFrom_lt _ _ _ hd
        have h8 : (s.data.toList.take k).length ≤ 3 := by rw [List.length_take, ← Lib.size_eq]; omega
        have h9 : (10 : Nat) ^ (s.data.toList.take k).length ≤ 10 ^ 3 := Nat.pow_le_pow_right (by decide) h8
        omega
      have HD : Hid (Lib.decFrom 0 (s.data.toList.take k) = some m) := hd
      clear hd
      by_cases hlt : k < s.size
      · have hlt' : (k : Int) < s.size := by omega
        have HB : Hid (s.data.toList[k]? = some (s[k]'hlt)) := byte_at s k hlt
        by_cases hc : 48 ≤ (s[k]'hlt).toNat ∧ (s[k]'hlt).toNat ≤ 57
        · obtain ⟨c1, c2⟩ := hc
          have c1' : ¬ ((s[k]'hlt).toNat : Int) < 48 := by omega
          have c2' : ¬ (57 : Int) < ((s[k]'hlt).toNat : Int) := by omega
          have HNX : Hid (Lib.decFrom 0 (s.data.toList.take (k + 1)) = some (m * 10 + ((s[k]'hlt).toNat - 48))) := Lib.decFrom_take _ k 0 m _ _ HD.out HB.out (by unfold Lib.digitVal; rw [if_pos ⟨c1, c2⟩])
          go_wp2_with fail
          refine ⟨⟨k + 1, m * 10 + ((s[k]'hlt).toNat - 48), by omega, by go_num, by go_num, HNX.out⟩, by simp [intOf]; omega⟩
        · have HF : Hid (num s.data.toList = none) := by
            show num s.data.toList = none
            rw [H0.out]
            cases hx : Lib.decFrom 0 s.data.toList with
            | none => rfl
            | some y =>
              obtain ⟨d, hd⟩ := Lib.digit_of_decFrom _ _ _ hx k _ HB.out
              unfold Lib.digitVal at hd
              rw [if_neg hc] at hd
              cases hd
          by_cases c1 : (s[k]'hlt).toNat < 48
          · have c1' : ((s[k]'hlt).toNat : Int) < 48 := by omega
            clear hc
            go_wp2
            go_ret
            exact ⟨E.out _ _ HF.out rfl, rfl⟩
          · have c1' : ¬ ((s[k]'hlt).toNat : Int) < 48 := by omega
            have c2' : (57 : Int) < ((s[k]'hlt).toNat : Int) := by omega
            clear hc c1
            go_wp2
            go_ret
            exact ⟨E.out _ _ HF.out rfl, rfl⟩
      · have hlt' : ¬ (k : Int) < s.size := by omega
        have HF : Hid (num s.data.toList = some m) := by
          have h7 := HD.out
          rw [List.take_of_length_le (by rw [← Lib.size_eq]; omega)] at h7
          show num s.data.toList = some m
          rw [H0.out]; exact h7
        go_wp2
        go_ret
        exact ⟨E.out _ _ HF.out rfl, rfl⟩

end Go.Proofs.YtjgdicghmkfohadGreatDoor
namespace Go.Proofs.YtjgdicghmkfohadGreatDoor
open Go.RowKit

/-- What a span that is read answers. -/
def spV (o : Option (Nat × Nat)) : Value := match o with
  | some (a, n) => .tuple #[.int .i64 a, .int .i64 n, .bool true]
  | none => .tuple #[.int .i64 0, .int .i64 0, .bool false]

theorem cut_of_index {s : ByteArray} {sep : ByteArray} {i : Nat} (h : Lib.index s.data.toList sep.data.toList = i) : Lib.cut s.data.toList sep.data.toList = ((s.extract 0 i).data.toList, (s.extract (i + sep.size) s.size).data.toList, true) := by
  obtain ⟨e1, e2, e3⟩ := Lib.cutB_hit s sep i h
  have h1 : (Lib.cut s.data.toList sep.data.toList).1 = (s.extract 0 i).data.toList := by rw [← e1]
  have h2 : (Lib.cut s.data.toList sep.data.toList).2.1 = (s.extract (i + sep.size) s.size).data.toList := by rw [← e2]
  rw [← h1, ← h2, ← e3]

theorem cut_of_none {s : ByteArray} {sep : ByteArray} (h : Lib.index s.data.toList sep.data.toList = -1) : (Lib.cut s.data.toList sep.data.toList).2.2 = false := (Lib.cutB_miss s sep h).2.2

set_option maxRecDepth 100000 in
set_option maxHeartbeats 1000000 in
theorem refSpanOf (s : ByteArray) (w : World) (hs : s.size ≤ 400000) : Calls Tryz.prog 55 #[.string s] w fun e w' => e = .returned (spV (spo s.data.toList)) ∧ w' = w := by
  have E : Hid (∀ r o, spo s.data.toList = o → spV o = r → Ending.returned r = .returned (spV (spo s.data.toList))) := fun r o h1 h2 => by rw [h1, h2]
  have hf := findIn s ⟨#[44]⟩ w hs (by decide) (by decide)
  rcases Lib.indexB_cases s ⟨#[44]⟩ with hix | ⟨i, hix, hroom⟩
  · have hix' : Lib.index s.data.toList (ByteArray.mk #[44]).data.toList = -1 := hix
    have HC : Hid (spo s.data.toList = none) := by
      show spo s.data.toList = none
      have := cut_of_none hix'
      rw [show (ByteArray.mk #[44]).data.toList = [44] from rfl] at this
      unfold spo
      rw [this]; rfl
    rw [hix'] at hf
    clear hix hix'
    go_enter Tryz.func55, Tryz.ntmps55
    go_wp2_with (go_at_call 54; refine hf.mono ?_; rintro e w' ⟨rfl, hw⟩; rw [hw])
    go_ret3
    exact ⟨E.out _ _ HC.out rfl, rfl⟩
  · have hix' : Lib.index s.data.toList (ByteArray.mk #[44]).data.toList = i := hix
    have hroom' : i + 1 ≤ s.size := hroom
    have hcut := cut_of_index hix'
    rw [show (ByteArray.mk #[44]).data.toList = [44] from rfl, show (ByteArray.mk #[44]).size = 1 from rfl] at hcut
    have HC : Hid (spo s.data.toList = spc (num (s.extract 0 i).data.toList) (num (s.extract (i + 1) s.size).data.toList)) := by
      show spo s.data.toList = _
      unfold spo
      rw [hcut]; rfl
    rw [hix'] at hf
    have c0 : ¬ ((i : Int) < 0) := by omega
    have c2 : (↑i : Int) ≤ ↑s.size := by omega
    have c3 : (0 : Int) ≤ ↑i + 1 := by omega
    have c4 : (↑i + 1 : Int) ≤ ↑s.size := by omega
    have hn1 := numberOf (s.extract 0 i) w (by rw [ByteArray.size_extract]; omega)
    have hn2 := numberOf (s.extract (i + 1) s.size) w (by rw [ByteArray.size_extract]; omega)
    obtain ⟨o1, ho1⟩ : ∃ o, num (s.extract 0 i).data.toList = o := ⟨_, rfl⟩
    obtain ⟨o2, ho2⟩ : ∃ o, num (s.extract (i + 1) s.size).data.toList = o := ⟨_, rfl⟩
    have hb1 : ∀ m, o1 = some m → m ≤ 999 := fun m h => (num_iff.1 (ho1.trans h)).1
    have hb2 : ∀ m, o2 = some m → m ≤ 999 := fun m h => (num_iff.1 (ho2.trans h)).1
    rw [ho1] at hn1 HC
    rw [ho2] at hn2 HC
    clear hix hix' hcut ho1 ho2 hroom
    cases o1 with
    | none =>
      have HC2 : Hid (spo s.data.toList = none) := by show spo s.data.toList = none; rw [HC.out]; cases o2 <;> rfl
      obtain ⟨q, hq⟩ : ∃ q, nmI o2 = q := ⟨_, rfl⟩
      rw [hq] at hn2
      rw [show nmI none = -1 from rfl] at hn1
      clear hb1 hb2 hq
      go_enter Tryz.func55, Tryz.ntmps55
      go_wp2_with (go_at_call 54; refine hf.mono ?_; rintro e w' ⟨rfl, hw⟩; rw [hw]; clear hw)
      go_wp2_with fail
      refine hn1.mono ?_
      rintro e w' ⟨rfl, hw⟩
      rw [hw]
      clear hw hn1
      go_wp2_with fail
      refine hn2.mono ?_
      rintro e w' ⟨rfl, hw⟩
      rw [hw]
      clear hw hn2
      go_wp2
      go_ret3
      exact ⟨E.out _ _ HC2.out rfl, rfl⟩
    | some x =>
      have hx := hb1 x rfl
      rw [show nmI (some x) = (x : Int) from rfl] at hn1
      cases o2 with
      | none =>
        have HC2 : Hid (spo s.data.toList = none) := by show spo s.data.toList = none; rw [HC.out]; rfl
        rw [show nmI none = -1 from rfl] at hn2
        clear hb1 hb2
        go_enter Tryz.func55, Tryz.ntmps55
        go_wp2_with (go_at_call 54; refine hf.mono ?_; rintro e w' ⟨rfl, hw⟩; rw [hw]; clear hw)
        go_wp2_with fail
        refine hn1.mono ?_
        rintro e w' ⟨rfl, hw⟩
        rw [hw]
        clear hw hn1
        go_wp2_with fail
        refine hn2.mono ?_
        rintro e w' ⟨rfl, hw⟩
        rw [hw]
        clear hw hn2
        go_wp2
        go_ret3
        exact ⟨E.out _ _ HC2.out rfl, rfl⟩
      | some y =>
        have hy := hb2 y rfl
        rw [show nmI (some y) = (y : Int) from rfl] at hn2
        clear hb1 hb2
        by_cases hy0 : y = 0
        case' pos =>
          have HC2 : Hid (spo s.data.toList = some (x, 0)) := by show spo s.data.toList = _; rw [HC.out, hy0]; rfl
          have y1 : ¬ (0 : Int) < y := by omega
          have HY : Hid (y = 0) := hy0
          clear hy0
        case' neg =>
          have y1 : (0 : Int) < y := by omega
          by_cases hx0 : x = 0
          case' pos =>
            have HC2 : Hid (spo s.data.toList = none) := by show spo s.data.toList = _; rw [HC.out]; unfold spc; simp [hy0, hx0]
            have x1 : ((x : Int) == 0) = true := by rw [hx0]; rfl
            clear hy0 hx0
          case' neg =>
            have HC2 : Hid (spo s.data.toList = some (x - 1, y)) := by show spo s.data.toList = _; rw [HC.out]; unfold spc; simp [hy0, hx0]
            have x1 : ((x : Int) == 0) = false := by simpa using hx0
            have HX : Hid (((x - 1 : Nat) : Int) = (x : Int) - 1) := by show ((x - 1 : Nat) : Int) = _; omega
            clear hy0 hx0
        all_goals
          go_enter Tryz.func55, Tryz.ntmps55
          go_wp2_with (go_at_call 54; refine hf.mono ?_; rintro e w' ⟨rfl, hw⟩; rw [hw]; clear hw)
          go_wp2_with fail
          refine hn1.mono ?_
          rintro e w' ⟨rfl, hw⟩
          rw [hw]
          clear hw hn1
          go_wp2_with fail
          refine hn2.mono ?_
          rintro e w' ⟨rfl, hw⟩
          rw [hw]
          clear hw hn2
          go_wp2
          go_ret3
        · exact ⟨E.out _ _ HC2.out (by unfold spV; dsimp only; rw [HX.out]; rfl), rfl⟩
        · exact ⟨E.out _ _ HC2.out rfl, rfl⟩
        · exact ⟨E.out _ _ HC2.out (by unfold spV; dsimp only; rw [← HY.out]; rfl), rfl⟩

/-- A head's beginning and end, and room for both. -/
def hdB (s : List UInt8) : Bool := Lib.hasPrefix s [64, 64, 32, 45] && (Lib.hasSuffix s [32, 64, 64] && decide (7 ≤ s.length))

theorem hdB_iff {s : List UInt8} : hdB s = true ↔ s = [64, 64, 32, 45] ++ (hin s ++ [32, 64, 64]) := by
  constructor
  · intro h
    unfold hdB at h
    simp only [Bool.and_eq_true, decide_eq_true_eq] at h
    obtain ⟨h1, h2, h3⟩ := h
    obtain ⟨r, hr⟩ := isPrefixOf_iff.1 h1
    obtain ⟨q, hq⟩ := isSuffixOf_iff.1 h2
    have hl := congrArg List.length hq
    rw [List.length_append] at hl
    simp only [List.length_cons, List.length_nil] at hl
    have h4 : q = [64, 64, 32, 45] ++ q.drop 4 := by
      have e : s.take 4 = [64, 64, 32, 45] := by rw [hr]; rfl
      rw [hq, List.take_append_of_le_length (by omega)] at e
      rw [← e, List.take_append_drop]
    have h5 : s = [64, 64, 32, 45] ++ (q.drop 4 ++ [32, 64, 64]) := by rw [← List.append_assoc, ← h4]; exact hq
    have h6 := (hin_of (q.drop 4)).2.2
    rw [← h5] at h6
    rw [h6]; exact h5
  · intro h
    have h1 := hin_of (hin s)
    rw [← h] at h1
    unfold hdB
    rw [h1.1, Bool.true_and, Bool.and_eq_true, decide_eq_true_eq]
    refine ⟨isSuffixOf_iff.2 ⟨[64, 64, 32, 45] ++ hin s, by rw [List.append_assoc]; exact h⟩, ?_⟩
    rw [h, List.length_append, List.length_append]
    simp; omega

theorem hdo_ref {s : List UInt8} (h : hdB s = true) : hdo s = if (Lib.cut (hin s) [32, 43]).2.2 = true then hdc (spo (Lib.cut (hin s) [32, 43]).1) (spo (Lib.cut (hin s) [32, 43]).2.1) else none := by
  unfold hdo
  have h1 := hdB_iff.1 h
  have h2 := hin_of (hin s)
  rw [← h1] at h2
  have e : hfit s = (Lib.cut (hin s) [32, 43]).2.2 := by
    unfold hfit
    rw [h2.1, h2.2.1]; rfl
  rw [e]

theorem hdo_ref_no {s : List UInt8} (h : hdB s = false) : hdo s = none := by
  unfold hdo
  rw [if_neg]
  intro hf
  obtain ⟨_, _, _, h2⟩ := hfit_iff.1 hf
  rw [hdB_iff.2 h2] at h
  cases h

theorem hin_extract {s : ByteArray} (h : hdB s.data.toList = true) : (s.extract 4 (s.size - 3)).data.toList = hin s.data.toList := by
  have h1 := hdB_iff.1 h
  have hl := congrArg List.length h1
  rw [List.length_append, List.length_append, ← Lib.size_eq] at hl
  simp only [List.length_cons, List.length_nil] at hl
  rw [Lib.extract_data]
  obtain ⟨t, ht⟩ : ∃ t, hin s.data.toList = t := ⟨_, rfl⟩
  rw [ht] at h1 hl ⊢
  rw [h1]
  show (t ++ [32, 64, 64]).take (s.size - 3 - 4) = t
  rw [List.take_left' (by omega)]

end Go.Proofs.YtjgdicghmkfohadGreatDoor
namespace Go.Proofs.YtjgdicghmkfohadGreatDoor
open Go.RowKit

theorem spV_form (s : List UInt8) : ∃ (a n : Nat) (f : Bool), spV (spo s) = .tuple #[.int .i64 a, .int .i64 n, .bool f] ∧ f = (spo s).isSome ∧ (∀ x y, spo s = some (x, y) → a = x ∧ n = y) ∧ a ≤ 999 ∧ n ≤ 999 := by
  cases h : spo s with
  | none => exact ⟨0, 0, false, rfl, rfl, (fun _ _ h => by cases h), by decide, by decide⟩
  | some x =>
    obtain ⟨a, n⟩ := x
    obtain ⟨_, h1, h2⟩ := spo_iff.1 h
    refine ⟨a, n, true, rfl, rfl, fun x y e => ?_, by split at h2 <;> omega, h1⟩
    simp only [Option.some.injEq, Prod.mk.injEq] at e
    exact e

/-- What a head that is read answers, as far as it is asked. -/
def HoP (s : List UInt8) (e : Ending) : Prop := ∃ o n p m : Nat, o ≤ 999 ∧ n ≤ 999 ∧ p ≤ 999 ∧ m ≤ 999 ∧ e = .returned (.tuple #[.agg #[.int .i64 o, .int .i64 p, .slice none 0 0], .int .i64 n, .int .i64 m, .bool (hdo s).isSome]) ∧ ∀ a b c d, hdo s = some (a, b, c, d) → o = a ∧ n = b ∧ p = c ∧ m = d

theorem HoP.no {s : List UInt8} (h : hdo s = none) : HoP s (.returned (.tuple #[.agg #[.int .i64 0, .int .i64 0, .slice none 0 0], .int .i64 0, .int .i64 0, .bool false])) :=
  ⟨0, 0, 0, 0, by decide, by decide, by decide, by decide, by rw [h]; rfl, fun _ _ _ _ e => by rw [h] at e; cases e⟩

set_option maxRecDepth 100000 in
set_option maxHeartbeats 1000000 in
theorem refHead_no (s : ByteArray) (w : World) (hs : s.size ≤ 400000) (hb : hdB s.data.toList = false) : Calls Tryz.prog 37 #[.string s] w fun e w' => HoP s.data.toList e ∧ Below w.heap.size w w' := by
  have HN : Hid (HoP s.data.toList (.returned (.tuple #[.agg #[.int .i64 0, .int .i64 0, .slice none 0 0], .int .i64 0, .int .i64 0, .bool false]))) := HoP.no (hdo_ref_no hb)
  have hst := fun w => starts s ⟨#[64, 64, 32, 45]⟩ w
  have hen := fun w => ends s ⟨#[32, 64, 64]⟩ w (Nat.le_trans hs (by decide))
  have hx : hdB s.data.toList = (Lib.hasPrefix s.data.toList [64, 64, 32, 45] && (Lib.hasSuffix s.data.toList [32, 64, 64] && decide (7 ≤ s.data.toList.length))) := rfl
  rw [show (ByteArray.mk #[64, 64, 32, 45]).data.toList = [64, 64, 32, 45] from rfl] at hst
  rw [show (ByteArray.mk #[32, 64, 64]).data.toList = [32, 64, 64] from rfl] at hen
  rw [hb] at hx
  obtain ⟨X1, hX1⟩ : ∃ X, Lib.hasPrefix s.data.toList [64, 64, 32, 45] = X := ⟨_, rfl⟩
  obtain ⟨X2, hX2⟩ : ∃ X, Lib.hasSuffix s.data.toList [32, 64, 64] = X := ⟨_, rfl⟩
  rw [hX1] at hst hx
  rw [hX2] at hen hx
  rw [← Lib.size_eq] at hx
  obtain ⟨P, hP⟩ : ∃ P : Ending → Prop, HoP s.data.toList = P := ⟨_, rfl⟩
  rw [hP] at HN ⊢
  have HBL : Hid (Below w.heap.size w (w.alloc (.cells #[.int .i64 0, .int .i64 0, .slice none 0 0] 45))) := below_alloc w _
  clear hX1 hX2 hb hP
  cases X1
  case' true => cases X2
  case' true.true =>
    have h7 : (s.size : Int) < 7 := by simp at hx; omega
  all_goals
    clear hx
    go_enter Tryz.func37, Tryz.ntmps37
    go_wp2_with (go_at_call 24; refine (hst _).mono ?_; rintro e w' ⟨rfl, hw⟩; rw [hw]; clear hw)
    clear hst
    go_wp2_with (go_at_call 53; refine (hen _).mono ?_; rintro e w' ⟨rfl, hw⟩; rw [hw]; clear hw)
    clear hen
    refine bodyPost_ret (v := .tuple #[.agg #[.int .i64 0, .int .i64 0, .slice none 0 0], .int .i64 0, .int .i64 0, .bool false]) (by simp [results, Tryz.results37, go_sem]) rfl ⟨HN.out, HBL.out⟩

set_option maxRecDepth 100000 in
set_option maxHeartbeats 1000000 in
theorem refHead_yes (s : ByteArray) (w : World) (hs : s.size ≤ 400000) (hb : hdB s.data.toList = true) : Calls Tryz.prog 37 #[.string s] w fun e w' => HoP s.data.toList e ∧ Below w.heap.size w w' := by
  have hst := fun w => starts s ⟨#[64, 64, 32, 45]⟩ w
  have hen := fun w => ends s ⟨#[32, 64, 64]⟩ w (Nat.le_trans hs (by decide))
  have hx : hdB s.data.toList = (Lib.hasPrefix s.data.toList [64, 64, 32, 45] && (Lib.hasSuffix s.data.toList [32, 64, 64] && decide (7 ≤ s.data.toList.length))) := rfl
  rw [hb] at hx
  replace hx := hx.symm
  simp only [Bool.and_eq_true, decide_eq_true_eq] at hx
  obtain ⟨x1, x2, x3⟩ := hx
  rw [show (ByteArray.mk #[64, 64, 32, 45]).data.toList = [64, 64, 32, 45] from rfl, x1] at hst
  rw [show (ByteArray.mk #[32, 64, 64]).data.toList = [32, 64, 64] from rfl, x2] at hen
  rw [← Lib.size_eq] at x3
  have h7 : ¬ (s.size : Int) < 7 := by omega
  have z1 : (4 : Int) ≤ (s.size : Int) - 3 := by omega
  have z2 : (s.size : Int) - 3 ≤ s.size := by omega
  have hin' := hin_extract hb
  have hrf := hdo_ref hb
  rw [← hin'] at hrf
  have HM : Hid (s.extract 4 (s.size - 3) = s.extract 4 (s.size - 3)) := rfl
  obtain ⟨M, hM⟩ : ∃ M, s.extract 4 (s.size - 3) = M := ⟨_, rfl⟩
  rw [hM] at hrf
  have hMs : M.size ≤ 400000 := by rw [← hM, ByteArray.size_extract]; omega
  have hf := fun w => findIn M ⟨#[32, 43]⟩ w hMs (by decide) (by decide)
  have HBL : Hid (Below w.heap.size w (w.alloc (.cells #[.int .i64 0, .int .i64 0, .slice none 0 0] 45))) := below_alloc w _
  have hblk := heap_alloc_new w (.cells #[.int .i64 0, .int .i64 0, .slice none 0 0] 45)
  clear hb x1 x2 hin' HM
  rcases Lib.indexB_cases M ⟨#[32, 43]⟩ with hix | ⟨i, hix, hroom⟩
  · have hix' : Lib.index M.data.toList (ByteArray.mk #[32, 43]).data.toList = -1 := hix
    have HN : Hid (HoP s.data.toList (.returned (.tuple #[.agg #[.int .i64 0, .int .i64 0, .slice none 0 0], .int .i64 0, .int .i64 0, .bool false]))) := by
      refine HoP.no ?_
      have := cut_of_none hix'
      rw [show (ByteArray.mk #[32, 43]).data.toList = [32, 43] from rfl] at this
      rw [hrf, this]; rfl
    rw [hix'] at hf
    obtain ⟨P, hP⟩ : ∃ P : Ending → Prop, HoP s.data.toList = P := ⟨_, rfl⟩
    rw [hP] at HN ⊢
    clear hix hix' hrf hP hblk
    go_enter Tryz.func37, Tryz.ntmps37
    go_wp2_with (go_at_call 24; refine (hst _).mono ?_; rintro e w' ⟨rfl, hw⟩; rw [hw]; clear hw)
    clear hst
    go_wp2_with (go_at_call 53; refine (hen _).mono ?_; rintro e w' ⟨rfl, hw⟩; rw [hw]; clear hw)
    clear hen
    go_wp2_with (go_at_call 54; refine (hf _).mono ?_; rintro e w' ⟨rfl, hw⟩; rw [hw]; clear hw)
    refine bodyPost_ret (v := .tuple #[.agg #[.int .i64 0, .int .i64 0, .slice none 0 0], .int .i64 0, .int .i64 0, .bool false]) (by simp [results, Tryz.results37, go_sem]) rfl ⟨HN.out, HBL.out⟩
  · have hix' : Lib.index M.data.toList (ByteArray.mk #[32, 43]).data.toList = i := hix
    have hroom' : i + 2 ≤ M.size := hroom
    have hcut := cut_of_index hix'
    rw [show (ByteArray.mk #[32, 43]).data.toList = [32, 43] from rfl, show (ByteArray.mk #[32, 43]).size = 2 from rfl] at hcut
    rw [hcut] at hrf
    simp only [if_true] at hrf
    rw [hix'] at hf
    have c0 : ¬ ((i : Int) < 0) := by omega
    have c2 : (↑i : Int) ≤ ↑M.size := by omega
    have c3 : (0 : Int) ≤ ↑i + 2 := by omega
    have c4 : (↑i + 2 : Int) ≤ ↑M.size := by omega
    have hs1 := fun w => refSpanOf (M.extract 0 i) w (by rw [ByteArray.size_extract]; omega)
    have hs2 := fun w => refSpanOf (M.extract (i + 2) M.size) w (by rw [ByteArray.size_extract]; omega)
    obtain ⟨o, n, f1, e1, ef1, q1, b1, b2⟩ := spV_form (M.extract 0 i).data.toList
    obtain ⟨p, m, f2, e2, ef2, q2, b3, b4⟩ := spV_form (M.extract (i + 2) M.size).data.toList
    rw [e1] at hs1
    rw [e2] at hs2
    have HN : Hid (HoP s.data.toList (.returned (.tuple #[.agg #[.int .i64 o, .int .i64 p, .slice none 0 0], .int .i64 n, .int .i64 m, .bool (f1 && f2)]))) := by
      refine ⟨o, n, p, m, b1, b2, b3, b4, ?_, fun a b c d h => ?_⟩
      · rw [hrf, ef1, ef2]
        cases spo (M.extract 0 i).data.toList with
        | none => rfl
        | some x => cases spo (M.extract (i + 2) M.size).data.toList <;> rfl
      · rw [hrf] at h
        cases g1 : spo (M.extract 0 i).data.toList with
        | none => rw [g1] at h; simp [hdc] at h
        | some x =>
          cases g2 : spo (M.extract (i + 2) M.size).data.toList with
          | none => rw [g1, g2] at h; simp [hdc] at h
          | some y =>
            obtain ⟨xa, xb⟩ := x
            obtain ⟨ya, yb⟩ := y
            rw [g1, g2] at h
            simp only [hdc, Option.some.injEq, Prod.mk.injEq] at h
            obtain ⟨rfl, rfl, rfl, rfl⟩ := h
            obtain ⟨k1, k2⟩ := q1 _ _ g1
            obtain ⟨k3, k4⟩ := q2 _ _ g2
            exact ⟨k1, k2, k3, k4⟩
    obtain ⟨P, hP⟩ : ∃ P : Ending → Prop, HoP s.data.toList = P := ⟨_, rfl⟩
    rw [hP] at HN ⊢
    clear hblk hix hix' hrf hP hcut q1 q2 ef1 ef2 e1 e2 b1 b2 b3 b4 hroom
    cases f1
    all_goals
      go_enter Tryz.func37, Tryz.ntmps37
      go_wp2_with (go_at_call 24; refine (hst _).mono ?_; rintro e w' ⟨rfl, hw⟩; rw [hw]; clear hw)
      clear hst
      go_wp2_with (go_at_call 53; refine (hen _).mono ?_; rintro e w' ⟨rfl, hw⟩; rw [hw]; clear hw)
      clear hen
      go_wp2_with (go_at_call 54; refine (hf _).mono ?_; rintro e w' ⟨rfl, hw⟩; rw [hw]; clear hw)
      clear hf
      go_wp2_with fail
      refine (hs1 _).mono ?_
      rintro e w' ⟨rfl, hw⟩
      rw [hw]
      clear hw hs1
      go_wp2_with fail
      refine (hs2 _).mono ?_
      rintro e w' ⟨rfl, hw⟩
      rw [hw]
      clear hw hs2
      go_wp2
    · refine bodyPost_ret (v := .tuple #[.agg #[.int .i64 o, .int .i64 p, .slice none 0 0], .int .i64 n, .int .i64 m, .bool (false && f2)]) (by simp [results, Tryz.results37, go_sem]) rfl ⟨HN.out, below_alloc w _⟩
    · refine bodyPost_ret (v := .tuple #[.agg #[.int .i64 o, .int .i64 p, .slice none 0 0], .int .i64 n, .int .i64 m, .bool (true && f2)]) (by simp [results, Tryz.results37, go_sem]) rfl ⟨HN.out, below_alloc w _⟩

theorem refHead (s : ByteArray) (w : World) (hs : s.size ≤ 400000) : Calls Tryz.prog 37 #[.string s] w fun e w' => HoP s.data.toList e ∧ Below w.heap.size w w' := by
  by_cases h : hdB s.data.toList = true
  · exact refHead_yes s w hs h
  · exact refHead_no s w hs (by simpa using h)

end Go.Proofs.YtjgdicghmkfohadGreatDoor
