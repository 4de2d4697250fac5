/-
  Walks of the document's own answers for numbers and spans as texts: Dec, span, Number, Find, Starts, Ends.
-/
import Derived.Test.YtjgdicghmkfohacGreatDoorUnm
import Derived.Lib.IndexBytes

namespace Go.Proofs.YtjgdicghmkfohacGreatDoor
open Go.RowKit

theorem digit_text : ∀ d : Fin 10, (ByteArray.mk #[48, 49, 50, 51, 52, 53, 54, 55, 56, 57]).extract d.val (d.val + 1) = ByteArray.mk #[UInt8.ofNat (48 + d.val)] := by decide +kernel

theorem digit_app (d : Nat) (hd : d < 10) (t : List UInt8) : (ByteArray.mk #[48, 49, 50, 51, 52, 53, 54, 55, 56, 57]).extract d (d + 1) ++ ByteArray.mk t.toArray = ByteArray.mk (UInt8.ofNat (48 + d) :: t).toArray := by
  have := digit_text ⟨d, hd⟩
  rw [show (ByteArray.mk #[48, 49, 50, 51, 52, 53, 54, 55, 56, 57]).extract d (d + 1) = ByteArray.mk #[UInt8.ofNat (48 + d)] from this]
  apply ByteArray.ext
  apply Array.toList_inj.1
  simp

set_option maxRecDepth 100000 in
set_option maxHeartbeats 1000000 in
theorem decOf (n : Nat) (w : World) (hn : n ≤ 999) : Calls Tryz.prog 54 #[.int .i64 n] w fun e w' => e = .returned (.string ⟨(Lib.decDigits n).toArray⟩) ∧ w' = w := by
  have HD : Hid (Lib.decDigits n = Lib.decDigits n ++ []) := by show Lib.decDigits n = _; simp
  have HL : Hid ((Lib.decDigits n).length ≤ 3) := dd_len hn
  go_enter Tryz.func54, Tryz.ntmps54
  go_wp2
  go_loop [0, 3] (fun a b => ∃ (m : Nat) (t : List UInt8), m ≤ 999 ∧ a = .int .i64 m ∧ b = .string ⟨t.toArray⟩ ∧ Lib.decDigits n = Lib.decDigits m ++ t) (fun a _ => (intOf a).toNat)
  case atStart => exact ⟨n, [], by omega, rfl, rfl, HD.out⟩
  case round =>
    obtain ⟨m, t, hm, rfl, rfl, hd⟩ := hrel
    have HDD : Hid (Lib.decDigits n = Lib.decDigits m ++ t) := hd
    have ht : t.length ≤ 3 := by
      have h1 := HL.out
      rw [hd, List.length_append] at h1
      omega
    clear hd
    by_cases h9 : 9 < m
    · have h9' : (9 : Int) < m := by omega
      go_wp2_with fail
      refine ⟨⟨m / 10, UInt8.ofNat (48 + m % 10) :: t, by omega, by go_num, ?_, ?_⟩, by simp [intOf]; omega⟩
      · rw [digit_app _ (by omega)]
      · rw [HDD.out, dd_big (by omega)]; simp
    · have h9' : ¬ (9 : Int) < m := by omega
      go_wp2
      go_ret
      refine ⟨?_, rfl⟩
      rw [HDD.out, dd_small (by omega)]
      exact congrArg (fun b => Ending.returned (.string b)) (digit_app m (by omega) t)

set_option maxRecDepth 100000 in
set_option maxHeartbeats 1000000 in
theorem refSpan (a n : Nat) (w : World) (ha : a ≤ 90) (hn : n ≤ 90) : Calls Tryz.prog 25 #[.int .i64 a, .int .i64 n] w fun e w' => e = .returned (.string ⟨(spn a n).toArray⟩) ∧ w' = w := by
  have hi2 := fun w => decOf n w (by omega)
  have l1 := dd_len (n := a) (by omega)
  have l2 := dd_len (n := a + 1) (by omega)
  have l3 := dd_len (n := n) (by omega)
  by_cases h0 : n = 0
  · have HS : Hid (spn a n = Lib.decDigits a ++ 44 :: Lib.decDigits n) := by show spn a n = _; unfold spn; rw [if_pos h0]
    have hi1 := fun w => decOf a w (by omega)
    have h1 : ¬ (0 : Int) < n := by omega
    clear h0
    go_enter Tryz.func25, Tryz.ntmps25
    go_wp2_with fail
    refine (hi1 _).mono ?_
    rintro e w1 ⟨rfl, rfl⟩
    go_wp2_with fail
    refine (hi2 _).mono ?_
    rintro e w1 ⟨rfl, rfl⟩
    go_wp2
    go_ret
    refine ⟨?_, rfl⟩
    rw [HS.out]
    exact ret_s (by simp)
  · have HS : Hid (spn a n = Lib.decDigits (a + 1) ++ 44 :: Lib.decDigits n) := by show spn a n = _; unfold spn; rw [if_neg h0]
    have hi1 := fun w => decOf (a + 1) w (by omega)
    rw [show ((a + 1 : Nat) : Int) = (a : Int) + 1 by omega] at hi1
    have h1 : (0 : Int) < n := by omega
    clear h0
    go_enter Tryz.func25, Tryz.ntmps25
    go_wp2_with fail
    refine (hi1 _).mono ?_
    rintro e w1 ⟨rfl, rfl⟩
    go_wp2_with fail
    refine (hi2 _).mono ?_
    rintro e w1 ⟨rfl, rfl⟩
    go_wp2
    go_ret
    refine ⟨?_, rfl⟩
    rw [HS.out]
    exact ret_s (by simp)

/-! ### Texts that begin, end, have another one -/
theorem beq_bool (x y : ByteArray) : (x.toList == y.toList) = decide (x = y) := by
  rw [Lib.toList_data, Lib.toList_data, Bool.eq_iff_iff, beq_iff_eq, decide_eq_true_eq]
  constructor
  · intro h; exact ByteArray.ext (Array.toList_inj.1 h)
  · intro h; rw [h]

set_option maxHeartbeats 400000 in
theorem starts (s t : ByteArray) (w : World) : Calls Tryz.prog 60 #[.string s, .string t] w fun e w' => e = .returned (.bool (Lib.hasPrefix s.data.toList t.data.toList)) ∧ w' = w := by
  have E : Hid (∀ b, Lib.hasPrefix s.data.toList t.data.toList = b → Ending.returned (.bool b) = .returned (.bool (Lib.hasPrefix s.data.toList t.data.toList))) := fun b hb => by rw [hb]
  by_cases h : t.size ≤ s.size
  · have h' : (t.size : Int) ≤ s.size := by omega
    have HX : Hid (Lib.hasPrefix s.data.toList t.data.toList = ((s.extract 0 t.size).toList == t.toList)) := by
      show Lib.hasPrefix s.data.toList t.data.toList = _
      rw [Lib.toList_data, Lib.toList_data, Lib.extract_data, List.drop_zero, Nat.sub_zero, Bool.eq_iff_iff, beq_iff_eq]
      unfold Lib.hasPrefix
      rw [List.isPrefixOf_iff_prefix, List.prefix_iff_eq_take, Lib.size_eq]
      exact ⟨fun h => h.symm, fun h => h.symm⟩
    go_enter Tryz.func60, Tryz.ntmps60
    go_wp2
    go_ret
    exact ⟨E.out _ HX.out, rfl⟩
  · have h' : ¬ (t.size : Int) ≤ s.size := by omega
    have HX : Hid (Lib.hasPrefix s.data.toList t.data.toList = false) := by
      show Lib.hasPrefix s.data.toList t.data.toList = false
      unfold Lib.hasPrefix
      rw [Bool.eq_false_iff]
      intro e
      have := (List.isPrefixOf_iff_prefix.1 e).length_le
      rw [← Lib.size_eq, ← Lib.size_eq] at this
      omega
    go_enter Tryz.func60, Tryz.ntmps60
    go_wp2
    go_ret
    exact ⟨E.out _ HX.out, rfl⟩

set_option maxHeartbeats 400000 in
theorem ends (s t : ByteArray) (w : World) (hs : s.size ≤ maxLen) : Calls Tryz.prog 90 #[.string s, .string t] w fun e w' => e = .returned (.bool (Lib.hasSuffix s.data.toList t.data.toList)) ∧ w' = w := by
  unfold maxLen at hs
  have E : Hid (∀ b, Lib.hasSuffix s.data.toList t.data.toList = b → Ending.returned (.bool b) = .returned (.bool (Lib.hasSuffix s.data.toList t.data.toList))) := fun b hb => by rw [hb]
  by_cases h : t.size ≤ s.size
  · have h' : (t.size : Int) ≤ s.size := by omega
    have HX : Hid (Lib.hasSuffix s.data.toList t.data.toList = ((s.extract (s.size - t.size) s.size).toList == t.toList)) := by
      show Lib.hasSuffix s.data.toList t.data.toList = _
      rw [Lib.toList_data, Lib.toList_data, Lib.extract_data, Bool.eq_iff_iff, beq_iff_eq]
      unfold Lib.hasSuffix
      rw [List.isSuffixOf_iff_suffix, List.suffix_iff_eq_drop, ← Lib.size_eq, ← Lib.size_eq, List.take_of_length_le (by rw [List.length_drop, ← Lib.size_eq]; exact Nat.le_refl _)]
      exact ⟨fun h => h.symm, fun h => h.symm⟩
    go_enter Tryz.func90, Tryz.ntmps90
    go_wp2
    go_ret
    exact ⟨E.out _ HX.out, rfl⟩
  · have h' : ¬ (t.size : Int) ≤ s.size := by omega
    have HX : Hid (Lib.hasSuffix s.data.toList t.data.toList = false) := by
      show Lib.hasSuffix s.data.toList t.data.toList = false
      unfold Lib.hasSuffix
      rw [Bool.eq_false_iff]
      intro e
      have := (List.isSuffixOf_iff_suffix.1 e).length_le
      rw [← Lib.size_eq, ← Lib.size_eq] at this
      omega
    go_enter Tryz.func90, Tryz.ntmps90
    go_wp2
    go_ret
    exact ⟨E.out _ HX.out, rfl⟩

set_option maxRecDepth 100000 in
set_option maxHeartbeats 1000000 in
theorem findIn (s t : ByteArray) (w : World) (hs : s.size ≤ 400000) (h1 : 1 ≤ t.size) (h2 : t.size ≤ 10) : Calls Tryz.prog 91 #[.string s, .string t] w fun e w' => e = .returned (.int .i64 (Lib.index s.data.toList t.data.toList)) ∧ w' = w := by
  have HX : Hid (∀ r, Lib.indexB s t = r → Ending.returned (.int .i64 r) = .returned (.int .i64 (Lib.index s.data.toList t.data.toList))) := fun r hr => by rw [← hr]
  go_enter Tryz.func91, Tryz.ntmps91
  go_wp2
  go_loop [5] (fun i => ∃ k : Nat, k ≤ s.size + 1 ∧ i = .int .i64 k ∧ Lib.NoOccB s t k) (fun i => s.size + 2 - (intOf i).toNat)
  case atStart => exact ⟨0, Nat.zero_le _, rfl, fun j hj => absurd hj (Nat.not_lt_zero _)⟩
  case round =>
    obtain ⟨k, hk, rfl, hno⟩ := hrel
    have HNO : Hid (Lib.NoOccB s t k) := hno
    clear hno
    by_cases hlt : k + t.size ≤ s.size
    · have hl1 : (k : Int) + t.size ≤ s.size := by omega
      have hl2 : (0 : Int) ≤ k := by omega
      have hl3 : (k : Int) ≤ (k : Int) + t.size := by omega
      by_cases hp : ((s.extract k (k + t.size)).toList == t.toList) = true
      · have HR : Hid (Lib.indexB s t = k) := Lib.hit s t k HNO.out hlt hp
        go_wp2
        go_ret
        exact ⟨HX.out _ HR.out, rfl⟩
      · have hp : ((s.extract k (k + t.size)).toList == t.toList) = false := by simpa using hp
        have HN : Hid (Lib.NoOccB s t (k + 1)) := Lib.miss_piece s t k HNO.out hlt hp
        go_wp2
        go_round
        case rel => exact ⟨k + 1, by omega, by go_num, HN.out⟩
        case measure => simp [intOf]; omega
    · have hl1 : ¬ (k : Int) + t.size ≤ s.size := by omega
      have HR : Hid (Lib.indexB s t = -1) := Lib.past s t k HNO.out h1 (by omega)
      go_wp2
      go_ret
      exact ⟨HX.out _ HR.out, rfl⟩

/-- A number, or -1. -/
def nmI (o : Option Nat) : Int := match o with
  | some n => n
  | none => -1

theorem head_at (s : ByteArray) (h : 0 < s.size) : s.data.toList.head? = some (s[0]'h) := by
  have := Lib.getD_at s 0 h
  cases hl : s.data.toList with
  | nil => rw [Lib.size_eq, hl] at h; simp at h
  | cons b r => rw [hl] at this; simp at this; rw [← this]; rfl

theorem byte_at (s : ByteArray) (k : Nat) (h : k < s.size) : s.data.toList[k]? = some (s[k]'h) := by
  have h' : k < s.data.toList.length := by rw [← Lib.size_eq]; exact h
  rw [List.getElem?_eq_getElem h']
  rfl

set_option maxRecDepth 100000 in
set_option maxHeartbeats 1000000 in
theorem numberOf (s : ByteArray) (w : World) (hs : s.size ≤ 400000) : Calls Tryz.prog 112 #[.string s, .int .i64 3] w fun e w' => e = .returned (.int .i64 (nmI (num s.data.toList))) ∧ w' = w := by
  have E : Hid (∀ r o, num s.data.toList = o → nmI o = r → Ending.returned (.int .i64 r) = .returned (.int .i64 (nmI (num s.data.toList)))) := fun r o h1 h2 => by rw [h1, h2]
  have HN := num_ref (s := s.data.toList)
  rw [← Lib.size_eq] at HN
  by_cases h1 : s.size < 1
  · have h1' : (s.size : Int) < 1 := by omega
    have H0 : Hid (num s.data.toList = none) := by show num s.data.toList = none; rw [HN, if_pos (.inl h1)]
    clear HN
    go_enter Tryz.func112, Tryz.ntmps112
    go_wp2
    go_ret
    exact ⟨E.out _ _ H0.out rfl, rfl⟩
  have h1' : ¬ (s.size : Int) < 1 := by omega
  by_cases h3 : 3 < s.size
  · have h3' : (3 : Int) < s.size := by omega
    have H0 : Hid (num s.data.toList = none) := by show num s.data.toList = none; rw [HN, if_pos (.inr (.inl h3))]
    clear HN
    go_enter Tryz.func112, Tryz.ntmps112
    go_wp2
    go_ret
    exact ⟨E.out _ _ H0.out rfl, rfl⟩
  have h3' : ¬ (3 : Int) < s.size := by omega
  have hp : 0 < s.size := by omega
  have hh := head_at s hp
  by_cases h4 : 1 < s.size ∧ s[0]'hp = 48
  · have h5 : (1 : Int) < s.size := by omega
    have h6 : (((s[0]'hp).toNat : Int) == 48) = true := by rw [h4.2]; rfl
    have H0 : Hid (num s.data.toList = none) := by show num s.data.toList = none; rw [HN, if_pos (.inr (.inr ⟨h4.1, by rw [hh, h4.2]⟩))]
    clear HN hh h4
    go_enter Tryz.func112, Tryz.ntmps112
    go_wp2
    go_ret
    exact ⟨E.out _ _ H0.out rfl, rfl⟩
  have H0 : Hid (num s.data.toList = Lib.decFrom 0 s.data.toList) := by
    show num s.data.toList = _
    rw [HN, if_neg]
    rintro (h | h | ⟨h, h'⟩)
    · omega
    · omega
    · rw [hh] at h'
      exact h4 ⟨h, by simpa using h'⟩
  clear HN hh
  by_cases h5 : 1 < s.size
  case' pos =>
    have h5' : (1 : Int) < s.size := by omega
    have h6 : (((s[0]'hp).toNat : Int) == 48) = false := by
      rw [beq_eq_false_iff_ne]; intro e; apply h4; refine ⟨h5, UInt8.toNat_inj.1 ?_⟩; show _ = 48; omega
  case' neg =>
    have h5' : ¬ (1 : Int) < s.size := by omega
  all_goals
    clear h4 h5
    go_enter Tryz.func112, Tryz.ntmps112
    go_wp2
    go_loop [5, 6] (fun x i => ∃ (k m : Nat), k ≤ s.size ∧ i = .int .i64 k ∧ x = .int .i64 m ∧ Lib.decFrom 0 (s.data.toList.take k) = some m) (fun _ i => s.size - (intOf i).toNat)
    case atStart => exact ⟨0, 0, Nat.zero_le _, rfl, rfl, rfl⟩
    case round =>
      obtain ⟨k, m, hk, rfl, rfl, hd⟩ := hrel
      have hm : m ≤ 999 := by
        have h7 := decFrom_lt _ _ _ hd
        have h8 : (s.data.toList.take k).length ≤ 3 := by rw [List.length_take, ← Lib.size_eq]; omega
        have h9 : (10 : Nat) ^ (s.data.toList.take k).length ≤ 10 ^ 3 := Nat.pow_le_pow_right (by decide) h8
        omega
      have HD : Hid (Lib.decFrom 0 (s.data.toList.take k) = some m) := hd
      clear hd
      by_cases hlt : k < s.size
      · have hlt' : (k : Int) < s.size := by omega
        have HB : Hid (s.data.toList[k]? = some (s[k]'hlt)) := byte_at s k hlt
        by_cases hc : 48 ≤ (s[k]'hlt).toNat ∧ (s[k]'hlt).toNat ≤ 57
        · obtain ⟨c1, c2⟩ := hc
          have c1' : ¬ ((s[k]'hlt).toNat : Int) < 48 := by omega
          have c2' : ¬ (57 : Int) < ((s[k]'hlt).toNat : Int) := by omega
          have HNX : Hid (Lib.decFrom 0 (s.data.toList.take (k + 1)) = some (m * 10 + ((s[k]'hlt).toNat - 48))) := Lib.decFrom_take _ k 0 m _ _ HD.out HB.out (by unfold Lib.digitVal; rw [if_pos ⟨c1, c2⟩])
          go_wp2_with fail
          refine ⟨⟨k + 1, m * 10 + ((s[k]'hlt).toNat - 48), by omega, by go_num, by go_num, HNX.out⟩, by simp [intOf]; omega⟩
        · have HF : Hid (num s.data.toList = none) := by
            show num s.data.toList = none
            rw [H0.out]
            cases hx : Lib.decFrom 0 s.data.toList with
            | none => rfl
            | some y =>
              obtain ⟨d, hd⟩ := Lib.digit_of_decFrom _ _ _ hx k _ HB.out
              unfold Lib.digitVal at hd
              rw [if_neg hc] at hd
              cases hd
          by_cases c1 : (s[k]'hlt).toNat < 48
          · have c1' : ((s[k]'hlt).toNat : Int) < 48 := by omega
            clear hc
            go_wp2
            go_ret
            exact ⟨E.out _ _ HF.out rfl, rfl⟩
          · have c1' : ¬ ((s[k]'hlt).toNat : Int) < 48 := by omega
            have c2' : (57 : Int) < ((s[k]'hlt).toNat : Int) := by omega
            clear hc c1
            go_wp2
            go_ret
            exact ⟨E.out _ _ HF.out rfl, rfl⟩
      · have hlt' : ¬ (k : Int) < s.size := by omega
        have HF : Hid (num s.data.toList = some m) := by
          have h7 := HD.out
          rw [List.take_of_length_le (by rw [← Lib.size_eq]; omega)] at h7
          show num s.data.toList = some m
          rw [H0.out]; exact h7
        go_wp2
        go_ret
        exact ⟨E.out _ _ HF.out rfl, rfl⟩

end Go.Proofs.YtjgdicghmkfohacGreatDoor
