/-
  Walk of what the statements ask besides: how many lines marks take and put.
-/
import Derived.Test.YtfgnnlpcdmkanabSame

namespace Go.Proofs.Ytfgnnlpcdmkanab
open Go.RowKit Dist

theorem chg_append (a b : List (Int × ByteArray)) : chg (a ++ b) = chg a + chg b := by
  unfold chg; rw [List.filter_append, List.length_append]

theorem chg_le (a : List (Int × ByteArray)) : chg a ≤ a.length := by
  unfold chg; exact List.length_filter_le _ _

set_option maxHeartbeats 1000000 in
theorem changes (a : Option Addr) (ms : List (Int × ByteArray)) (ca : Nat) (w : World) (ha : Mks w a ms) (hm : ms.length ≤ maxLen) :
    Calls Try.prog 6 #[.slice a ms.length ca] w fun e w' => e = .returned (.int .i64 (chg ms)) ∧ w' = w := by
  unfold maxLen at hm
  obtain ⟨n, hn⟩ : ∃ n, ms.length = n := ⟨_, rfl⟩
  rw [hn] at hm ⊢
  have HN : Hid (ms.length = n) := hn
  have HA : Hid (Mks w a ms) := ha
  clear hn ha
  go_enter Try.func6, Try.ntmps6
  go_wp2
  go_loop [3, 4] (fun s i => ∃ k : Nat, k ≤ n ∧ i = .int .i64 k ∧ s = .int .i64 (chg (ms.take k))) (fun _ i => n - (intOf i).toNat)
  case atStart => exact ⟨0, Nat.zero_le _, rfl, rfl⟩
  case round =>
    obtain ⟨k, hk, rfl, rfl⟩ := hrel
    by_cases hlt : k < n
    · have ha := HA.out
      have hsn := take_snoc ms k (by rw [HN.out]; exact hlt)
      obtain ⟨b, off, rfl, hc1, hc2⟩ := ha.at (i := k) (by rw [HN.out]; exact hlt)
      clear ha
      obtain ⟨c, hc⟩ : ∃ c, (ms.getD k (0, ByteArray.empty)).1 = c := ⟨_, rfl⟩
      obtain ⟨t, ht⟩ : ∃ t, (ms.getD k (0, ByteArray.empty)).2 = t := ⟨_, rfl⟩
      rw [hc] at hc1 hsn
      rw [ht] at hc2 hsn
      have hle := chg_le (ms.take k)
      rw [List.length_take, HN.out] at hle
      have HS : Hid (chg (ms.take (k + 1)) = chg (ms.take k) + chg [(c, t)]) := by
        show chg (ms.take (k + 1)) = _
        rw [hsn, chg_append]
      obtain ⟨d, hd⟩ : ∃ d, chg (ms.take k) = d := ⟨_, rfl⟩
      rw [hd] at HS hle ⊢
      clear hd hc ht hsn hc2
      by_cases hcs : c = 32
      · subst hcs
        have HS2 : Hid (chg (ms.take (k + 1)) = d) := by
          show chg (ms.take (k + 1)) = d
          rw [HS.out, chg_skip]; rfl
        go_wp2
        go_round
        case rel => exact ⟨k + 1, by omega, by go_num, by rw [HS2.out]⟩
        case measure => simp [intOf]; omega
      · have hne : (c != 32) = true := by simpa using hcs
        have HS2 : Hid (chg (ms.take (k + 1)) = d + 1) := by
          show chg (ms.take (k + 1)) = d + 1
          rw [HS.out, chg_hit _ _ _ hcs]; rfl
        go_wp2
        go_round
        case rel => exact ⟨k + 1, by omega, by go_num, by rw [HS2.out]; go_num⟩
        case measure => simp [intOf]; omega
    · go_wp2
      go_ret
      refine ⟨?_, rfl⟩
      rw [List.take_of_length_le (by have := HN.out; omega)]; rfl

end Go.Proofs.Ytfgnnlpcdmkanab
