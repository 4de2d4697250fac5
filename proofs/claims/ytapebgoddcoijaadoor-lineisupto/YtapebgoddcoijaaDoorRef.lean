/-
  Walk of the document's own answer for lines as a text.
-/
import Derived.Test.YtapebgoddcoijaaDoorJoin2
import Derived.Test.YtapebgoddcoijaaDoorRefL
namespace Go.Proofs.YtapebgoddcoijaaDoor
open Go.RowKit

set_option maxRecDepth 100000 in
set_option maxHeartbeats 1000000 in
theorem joinOf (a : Option Addr) (ss : List ByteArray) (ca : Nat) (w : World) (ha : Strs w a ss) (hf : lsf (bts ss) = 0) :
    Calls Tryd.prog 9 #[.slice a ss.length ca] w fun e w' => e = .returned (.string (str (joinC 10 (bts ss)))) ∧ w' = w := by
  have ⟨hl, hall⟩ := lsf_zero hf
  rw [bts_length] at hl
  obtain ⟨n, hn⟩ : ∃ n, ss.length = n := ⟨_, rfl⟩
  rw [hn] at hl ⊢
  have HN : Hid (ss.length = n) := hn
  have HALL : Hid (∀ s ∈ bts ss, lf s = 0) := hall
  clear hn hall hf
  go_enter Tryd.func9, Tryd.ntmps9
  go_wp2
  go_loop [3, 4] (fun s i => ∃ k : Nat, k ≤ n ∧ i = .int .i64 k ∧ s = .string (str (joinC 10 (bts (ss.take k))))) (fun _ i => n - (intOf i).toNat)
  case atStart => exact ⟨0, Nat.zero_le _, rfl, rfl⟩
  case round =>
    obtain ⟨k, hk, rfl, rfl⟩ := hrel
    by_cases hlt : k < n
    · obtain ⟨b, off, rfl, hc⟩ := Strs.at ha (i := k) (by rw [HN.out]; exact hlt)
      replace hc := hc k (by rw [HN.out]; exact hlt)
      have hnext := bts_take_succ ss k (by rw [HN.out]; exact hlt)
      have hlf : lf (ss.getD k ByteArray.empty).data.toList = 0 := HALL.out _ (by
        have h' : k < ss.length := by rw [HN.out]; exact hlt
        have e : ss.getD k ByteArray.empty = ss[k] := by simp [h']
        rw [e]; exact List.mem_map.2 ⟨_, List.getElem_mem _, rfl⟩)
      have hpre := joinC_small (l := bts (ss.take k)) (fun s hs => HALL.out s (by
        unfold bts at hs ⊢
        rw [List.map_take] at hs
        exact List.mem_of_mem_take hs))
      have hlen : (bts (ss.take k)).length ≤ 60 := by rw [bts_length]; have := List.length_take_le k ss; omega
      have hJs : (str (joinC 10 (bts (ss.take k)))).size ≤ 4860 := by rw [str_size]; omega
      obtain ⟨x, hx⟩ : ∃ x, ss.getD k ByteArray.empty = x := ⟨_, rfl⟩
      rw [hx] at hc hnext hlf
      have hxs : x.size ≤ 80 := by have := (lf_zero hlf).2; rw [Lib.size_eq]; exact this
      have HNX : Hid (str (joinC 10 (bts (ss.take (k + 1)))) = str (joinC 10 (bts (ss.take k))) ++ x ++ ⟨#[10]⟩) := by
        show str (joinC 10 (bts (ss.take (k + 1)))) = _
        rw [hnext, joinC_snoc]
        apply ByteArray.ext
        apply Array.toList_inj.1
        simp [str]
      obtain ⟨J, hJ⟩ : ∃ J, str (joinC 10 (bts (ss.take k))) = J := ⟨_, rfl⟩
      rw [hJ] at HNX hJs ⊢
      clear hnext hx ha hJ hlf hpre hlen
      go_wp2
      go_round
      case rel => exact ⟨k + 1, by omega, by go_num, by rw [HNX.out]⟩
      case measure => simp [intOf]; omega
    · go_wp2
      go_ret
      refine ⟨?_, rfl⟩
      rw [List.take_of_length_le (by have := HN.out; omega)]; rfl
end Go.Proofs.YtapebgoddcoijaaDoor
