/-
  Walks of the document's own answers for numbers and spans as texts: Dec, span, Number, Find, Starts, Ends.
-/
import Derived.Test.YtfmhapajdnmhoafGreatDoorUnm
import Derived.Lib.IndexBytes

namespace Go.Proofs.YtfmhapajdnmhoafGreatDoor
open Go.RowKit

theorem digit_text : ∀ d : Fin 10, (ByteArray.mk #[48, 49, 50, 51, 52, 53, 54, 55, 56, 57]).extract d.val (d.val + 1) = ByteArray.mk #[UInt8.ofNat (48 + d.val)] := by decide +kernel

theorem digit_app (d : Nat) (hd : d < 10) (t : List UInt8) : (ByteArray.mk #[48, 49, 50, 51, 52, 53, 54, 55, 56, 57]).extract d (d + 1) ++ ByteArray.mk t.toArray = ByteArray.mk (UInt8.ofNat (48 + d) :: t).toArray := by
  have := digit_text ⟨d, hd⟩
  rw [show (ByteArray.mk #[48, 49, 50, 51, 52, 53, 54, 55, 56, 57]).extract d (d + 1) = ByteArray.mk #[UInt8.ofNat (48 + d)] from this]
  apply ByteArray.ext
  apply Array.toList_inj.1
  simp

set_option maxRecDepth 100000 in
set_option maxHeartbeats 1000000 in
theorem decOf (n : Nat) (w : World) (hn : n ≤ 999) : Calls Tryz.prog 51 #[.int .i64 n] w fun e w' => e = .returned (.string ⟨(Lib.decDigits n).toArray⟩) ∧ w' = w := by
  have HD : Hid (Lib.decDigits n = Lib.decDigits n ++ []) := by show Lib.decDigits n = _; simp
  have HL : Hid ((Lib.decDigits n).length ≤ 3) := dd_len hn
  go_enter Tryz.func51, Tryz.ntmps51
  go_wp2
  go_loop [0, 3] (fun a b => ∃ (m : Nat) (t : List UInt8), m ≤ 999 ∧ a = .int .i64 m ∧ b = .string ⟨t.toArray⟩ ∧ Lib.decDigits n = Lib.decDigits m ++ t) (fun a _ => (intOf a).toNat)
  case atStart => exact ⟨n, [], by omega, rfl, rfl, HD.out⟩
  case round =>
    obtain ⟨m, t, hm, rfl, rfl, hd⟩ := hrel
    have HDD : Hid (Lib.decDigits n = Lib.decDigits m ++ t) := hd
    have ht : t.length ≤ 3 := by
      have h1 := HL.out
      rw [hd, List.length_append] at h1
      omega
    clear hd
    by_cases h9 : 9 < m
    · have h9' : (9 : Int) < m := by omega
      go_wp2_with fail
      refine ⟨⟨m / 10, UInt8.ofNat (48 + m % 10) :: t, by omega, by go_num, ?_, ?_⟩, by simp [intOf]; omega⟩
      · rw [digit_app _ (by omega)]
      · rw [HDD.out, dd_big (by omega)]; simp
    · have h9' : ¬ (9 : Int) < m := by omega
      go_wp2
      go_ret
      refine ⟨?_, rfl⟩
      rw [HDD.out, dd_small (by omega)]
      exact congrArg (fun b => Ending.returned (.string b)) (digit_app m (by omega) t)

set_option maxRecDepth 100000 in
set_option maxHeartbeats 1000000 in
theorem refSpan (a n : Nat) (w : World) (ha : a ≤ 90) (hn : n ≤ 90) : Calls Tryz.prog 35 #[.int .i64 a, .int .i64 n] w fun e w' => e = .returned (.string ⟨(spn a n).toArray⟩) ∧ w' = w := by
  have hi2 := fun w => decOf n w (by omega)
  have l1 := dd_len (n := a) (by omega)
  have l2 := dd_len (n := a + 1) (by omega)
  have l3 := dd_len (n := n) (by omega)
  by_cases h0 : n = 0
  · have HS : Hid (spn a n = Lib.decDigits a ++ 44 :: Lib.decDigits n) := by show spn a n = _; unfold spn; rw [if_pos h0]
    have hi1 := fun w => decOf a w (by omega)
    have h1 : ¬ (0 : Int) < n := by omega
    clear h0
    go_enter Tryz.func35, Tryz.ntmps35
    go_wp2_with fail
    refine (hi1 _).mono ?_
    rintro e w1 ⟨rfl, rfl⟩
    go_wp2_with fail
    refine (hi2 _).mono ?_
    rintro e w1 ⟨rfl, rfl⟩
    go_wp2
    go_ret
    refine ⟨?_, rfl⟩
    rw [HS.out]
    exact ret_s (by simp)
  · have HS : Hid (spn a n = Lib.decDigits (a + 1) ++ 44 :: Lib.decDigits n) := by show spn a n = _; unfold spn; rw [if_neg h0]
    have hi1 := fun w => decOf (a + 1) w (by omega)
    rw [show ((a + 1 : Nat) : Int) = (a : Int) + 1 by omega] at hi1
    have h1 : (0 : Int) < n := by omega
    clear h0
    go_enter Tryz.func35, Tryz.ntmps35
    go_wp2_with fail
    refine (hi1 _).mono ?_
    rintro e w1 ⟨rfl, rfl⟩
    go_wp2_with fail
    refine (hi2 _).mono ?_
    rintro e w1 ⟨rfl, rfl⟩
    go_wp2
    go_ret
    refine ⟨?_, rfl⟩
    rw [HS.out]
    exact ret_s (by simp)

/-! ### Texts that begin, end, have another one -/
theorem beq_bool (x y : ByteArray) : (x.toList == y.toList) = decide (x = y) := by
  rw [Lib.toList_data, Lib.toList_data, Bool.eq_iff_iff, beq_iff_eq, decide_eq_true_eq]
  constructor
  · intro h; exact ByteArray.ext (Array.toList_inj.1 h)
  · intro h; rw [h]

/-- A number, or -1. -/
def nmI (o : Option Nat) : Int := match o with
  | some n => n
  | none => -1

theorem head_at (s : ByteArray) (h : 0 < s.size) : s.data.toList.head? = some (s[0]'h) := by
  have := Lib.getD_at s 0 h
  cases hl : s.data.toList with
  | nil => rw [Lib.size_eq, hl] at h; simp at h
  | cons b r => rw [hl] at this; simp at this; rw [← this]; rfl

theorem byte_at (s : ByteArray) (k : Nat) (h : k < s.size) : s.data.toList[k]? = some (s[k]'h) := by
  have h' : k < s.data.toList.length := by rw [← Lib.size_eq]; exact h
  rw [List.getElem?_eq_getElem h']
  rfl

end Go.Proofs.YtfmhapajdnmhoafGreatDoor
