/-
  Walks of the comparison of two lists of the same marks, and of edit.Script where a file has a fault.
-/
import Derived.Test.YtnkdmgekpajfhaeDoorScr

namespace Go.Proofs.YtnkdmgekpajfhaeDoor
open Go.RowKit Dist

set_option maxHeartbeats 400000 in
theorem script_bad (a b : Option Addr) (xs ys : List ByteArray) (ca cb : Nat) (w : World) (ha : Strs w a xs) (hb : Strs w b ys) (h1 : xs.length ≤ maxLen) (h2 : ys.length ≤ maxLen) (hf : ff xs ys ≠ 0) :
    Calls Tryd.prog 87 #[.slice a xs.length ca, .slice b ys.length cb] w fun e w' => e = .returned (.tuple #[.slice none 0 0, .iface 45 (.int .i64 (ff xs ys))]) ∧ Below w.heap.size w w' := by
  have hck := checkBoth a b xs ys ca cb w ha hb h1 h2
  rw [errV_not hf] at hck
  obtain ⟨m, hm⟩ : ∃ m, xs.length = m := ⟨_, rfl⟩
  obtain ⟨n, hn⟩ : ∃ n, ys.length = n := ⟨_, rfl⟩
  obtain ⟨f, hff⟩ : ∃ f, ff xs ys = f := ⟨_, rfl⟩
  rw [hm, hn, hff] at hck
  rw [hm, hn, hff]
  clear hm hn hff h1 h2 hf ha hb
  go_enter Tryd.func87, Tryd.ntmps87
  go_wp2_with (go_at_call 98; refine hck.mono ?_; rintro e w' ⟨rfl, hw⟩; rw [hw])
  go_ret2
  exact ⟨rfl, Below.refl _ _⟩

theorem marks_len (a b : Option Addr) (m n ca cb : Nat) (w : World) (h : m ≠ n) : Calls Tryd.prog 39 #[.slice a m ca, .slice b n cb] w fun e w' => e = .returned (.bool false) ∧ w' = w := by
  have h' : ((m : Int) == (n : Int)) = false := by simp; omega
  go_enter Tryd.func39, Tryd.ntmps39
  go_wp2
  go_ret
  exact ⟨rfl, rfl⟩

set_option maxHeartbeats 1000000 in
theorem marks_eq (a b : Option Addr) (ms : List (Int × ByteArray)) (ca cb : Nat) (w : World) (ha : Mks w a ms) (hb : Mks w b ms) (hm : ms.length ≤ maxLen) :
    Calls Tryd.prog 39 #[.slice a ms.length ca, .slice b ms.length cb] w fun e w' => e = .returned (.bool true) ∧ Below w.heap.size w w' := by
  unfold maxLen at hm
  obtain ⟨n, hn⟩ : ∃ n, ms.length = n := ⟨_, rfl⟩
  rw [hn] at hm ⊢
  have HN : Hid (ms.length = n) := hn
  have HA : Hid (Mks w a ms) := ha
  have HB : Hid (Mks w b ms) := hb
  clear hn ha hb
  go_enter Tryd.func39, Tryd.ntmps39
  go_wp2
  go_loopw [5] (fun i w1 => ∃ k : Nat, k ≤ n ∧ i = .int .i64 k ∧ ∃ q, w1 = w.drewN q) (fun i _ => n - (intOf i).toNat)
  case atStart => exact ⟨0, Nat.zero_le _, rfl, 0, rfl⟩
  case round =>
    obtain ⟨k, hk, rfl, q, rfl⟩ := hrel
    by_cases hlt : k < n
    · have ha := HA.out
      have hb := HB.out
      obtain ⟨ba, oa, rfl, hc1, hc2⟩ := ha.at (i := k) (by rw [HN.out]; exact hlt)
      obtain ⟨bb, ob, rfl, hc3, hc4⟩ := hb.at (i := k) (by rw [HN.out]; exact hlt)
      obtain ⟨c, hc⟩ : ∃ c, (ms.getD k (0, ByteArray.empty)).1 = c := ⟨_, rfl⟩
      obtain ⟨t, ht⟩ : ∃ t, (ms.getD k (0, ByteArray.empty)).2 = t := ⟨_, rfl⟩
      rw [hc] at hc1 hc3
      rw [ht] at hc2 hc4
      clear ha hb hc ht
      go_wp2
      go_quiet (fail)
      go_wp2
      go_roundw
      case rel => exact ⟨k + 1, by omega, by go_num, _, rfl⟩
      case measure => simp [intOf]; omega
    · go_wp2
      go_ret
      exact ⟨rfl, below_drawn (Below.refl _ _)⟩

end Go.Proofs.YtnkdmgekpajfhaeDoor
