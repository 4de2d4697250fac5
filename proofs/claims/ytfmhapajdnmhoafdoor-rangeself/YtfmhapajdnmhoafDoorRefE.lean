/-
  Walks of the document's own answers for scripts: the fault of a script, the lines that it leads from and to.
-/
import Derived.Test.YtfmhapajdnmhoafDoorRefL
import Derived.Test.YtfmhapajdnmhoafDoorLess

namespace Go.Proofs.YtfmhapajdnmhoafDoor
open Go.RowKit Dist

set_option maxRecDepth 100000 in
set_option maxHeartbeats 1000000 in
theorem scriptFault (a : Option Addr) (ms : List (Int × ByteArray)) (ca : Nat) (w : World) (ha : Mks w a ms) (hm : ms.length ≤ maxLen) (hs : ∀ m ∈ ms, m.2.size ≤ maxLen) :
    Calls Tryd.prog 24 #[.slice a ms.length ca] w fun e w' => e = .returned (.int .i64 (sf ms)) ∧ w' = w := by
  unfold maxLen at hm
  obtain ⟨n, hn⟩ : ∃ n, ms.length = n := ⟨_, rfl⟩
  rw [hn] at hm ⊢
  by_cases hbig : 120 < (n : Int)
  · have he : sf ms = 3 := by unfold sf; rw [hn, if_pos (by omega)]
    rw [he]
    clear he hn
    go_enter Tryd.func24, Tryd.ntmps24
    go_wp2
    go_ret
    exact ⟨rfl, rfl⟩
  · have he : Hid (sf ms = sg ms) := by show sf ms = _; unfold sf; rw [hn, if_neg (by omega)]
    have HN : Hid (ms.length = n) := hn
    have HA : Hid (Mks w a ms) := ha
    have HS : Hid (∀ m ∈ ms, m.2.size ≤ maxLen) := hs
    clear hn ha hs
    go_enter Tryd.func24, Tryd.ntmps24
    go_wp2
    go_loop [3] (fun i => ∃ k : Nat, k ≤ n ∧ i = .int .i64 k ∧ ∀ j : Nat, j < k → mf (ms.getD j (0, ByteArray.empty)).1 (ms.getD j (0, ByteArray.empty)).2.data.toList = 0) (fun i => n - (intOf i).toNat)
    case atStart => exact ⟨0, Nat.zero_le _, rfl, by simp⟩
    case round =>
      obtain ⟨k, hk, rfl, hall⟩ := hrel
      have HALL : Hid (∀ j : Nat, j < k → mf (ms.getD j (0, ByteArray.empty)).1 (ms.getD j (0, ByteArray.empty)).2.data.toList = 0) := hall
      clear hall
      by_cases hlt : k < n
      · have ha := HA.out
        have hsat := sg_at ms k HALL.out (by rw [HN.out]; exact hlt)
        obtain ⟨b, off, rfl, hc1, hc2⟩ := ha.at (i := k) (by rw [HN.out]; exact hlt)
        clear ha
        have hxs : (ms.getD k (0, ByteArray.empty)).2.size ≤ maxLen := HS.out _ (by
          have h' : k < ms.length := by rw [HN.out]; exact hlt
          have e : ms.getD k (0, ByteArray.empty) = ms[k] := by simp [h']
          rw [e]; exact List.getElem_mem _)
        obtain ⟨c, hc⟩ : ∃ c, (ms.getD k (0, ByteArray.empty)).1 = c := ⟨_, rfl⟩
        obtain ⟨t, ht⟩ : ∃ t, (ms.getD k (0, ByteArray.empty)).2 = t := ⟨_, rfl⟩
        rw [hc] at hc1 hsat
        rw [ht] at hc2 hsat hxs
        have HC : Hid ((ms.getD k (0, ByteArray.empty)).1 = c) := hc
        have HT : Hid ((ms.getD k (0, ByteArray.empty)).2 = t) := ht
        have HSAT : Hid (mf c t.data.toList ≠ 0 → sg ms = mf c t.data.toList) := hsat
        have hlf := fun w => lineFault t w hxs
        clear hc ht hsat hxs
        by_cases hsg : sgn c
        · have HMF : Hid (mf c t.data.toList = lf t.data.toList) := by show mf c t.data.toList = _; unfold mf; exact if_pos hsg
          by_cases hf : lf t.data.toList = 0
          · have HF : Hid (mf c t.data.toList = 0) := HMF.out.trans hf
            have HD : Hid (∀ j : Nat, j < k + 1 → mf (ms.getD j (0, ByteArray.empty)).1 (ms.getD j (0, ByteArray.empty)).2.data.toList = 0) := fun j hj => by
              by_cases e : j = k
              · subst e; rw [HC.out, HT.out]; exact HF.out
              · exact HALL.out j (by omega)
            rw [hf] at hlf
            clear HC HT HSAT HMF HF HALL hf
            rcases hsg with rfl | rfl | rfl
            all_goals
              go_wp2_with (go_at_call 36; refine (hlf _).mono ?_; rintro e w' ⟨rfl, hw⟩; rw [hw])
              go_round
              case rel => exact ⟨k + 1, by omega, by go_num, HD.out⟩
              case measure => simp [intOf]; omega
          · obtain ⟨f, hff⟩ : ∃ f, lf t.data.toList = f := ⟨_, rfl⟩
            have HF : Hid (sg ms = f) := (HSAT.out (by rw [HMF.out]; exact hf)).trans (HMF.out.trans hff)
            rw [hff] at hlf hf
            have hfz : (f == 0) = false := by simpa using hf
            clear HC HT HSAT HMF HALL hf hff
            rcases hsg with rfl | rfl | rfl
            all_goals
              go_wp2_with (go_at_call 36; refine (hlf _).mono ?_; rintro e w' ⟨rfl, hw⟩; rw [hw])
              go_ret
              refine ⟨ret_i ?_, rfl⟩
              rw [he.out, HF.out]
        · have HF : Hid (sg ms = 1) := by
            have e : mf c t.data.toList = 1 := by unfold mf; exact if_neg hsg
            show sg ms = 1
            rw [HSAT.out (by rw [e]; decide), e]
          have n1 : (c == 32) = false := by simp; intro e; exact hsg (.inl e)
          have n2 : (c == 45) = false := by simp; intro e; exact hsg (.inr (.inl e))
          have n3 : (c == 43) = false := by simp; intro e; exact hsg (.inr (.inr e))
          have m1 : (c != 32) = true := by simpa using n1
          have m2 : (c != 45) = true := by simpa using n2
          have m3 : (c != 43) = true := by simpa using n3
          clear HC HT HSAT HALL hsg hlf
          go_wp2
          go_ret
          refine ⟨ret_i ?_, rfl⟩
          rw [he.out, HF.out]
      · go_wp2
        go_ret
        refine ⟨ret_i ?_, rfl⟩
        have h1 := sg_drop ms k HALL.out (by have := HN.out; omega)
        rw [List.drop_of_length_le (by have := HN.out; omega)] at h1
        rw [he.out, h1]; rfl

set_option maxRecDepth 100000 in
set_option maxHeartbeats 1000000 in
theorem oldOf (a : Option Addr) (ms : List (Int × ByteArray)) (ca : Nat) (w : World) (ha : Mks w a ms) (hf : sf ms = 0) :
    Calls Tryd.prog 13 #[.slice a ms.length ca] w fun e w' => ∃ a' cap, e = .returned (.slice a' (lessOf 43 ms).length cap) ∧ Strs w' a' (lessOf 43 ms) ∧ Below w.heap.size w w' := by
  obtain ⟨hl, hgood⟩ := sf_zero hf
  obtain ⟨i0, hi, hz0, hz1, hz2⟩ := info_parts Tryd.info9
  obtain ⟨n, hn⟩ : ∃ n, ms.length = n := ⟨_, rfl⟩
  rw [hn] at hl ⊢
  have HN : Hid (ms.length = n) := hn
  have HA : Hid (Mks w a ms) := ha
  have HG : Hid (∀ m ∈ ms, sgn m.1 ∧ lf m.2.data.toList = 0) := hgood
  clear hn ha hgood hf
  obtain ⟨B, hB⟩ : ∃ B, w.heap.size = B := ⟨_, rfl⟩
  have HB : Hid (w.heap.size = B) := hB
  rw [hB]
  clear hB
  go_enter Tryd.func13, Tryd.ntmps13
  go_wp2
  go_loopw [3, 4] (fun v i w1 => ∃ k : Nat, k ≤ n ∧ i = .int .i64 k ∧ Below B w w1 ∧ w1.ownsRow B 9 1 v (lessOf 43 (ms.take k)).length ((lessOf 43 (ms.take k)).map Value.string)) (fun _ i _ => n - (intOf i).toNat)
  case atStart => exact ⟨0, Nat.zero_le _, rfl, Below.refl _ _, ⟨rfl, Or.inl ⟨rfl, rfl⟩⟩⟩
  case round =>
    obtain ⟨k, hk, rfl, hbl, hown⟩ := hrel
    by_cases hlt : k < n
    · have ha := HA.out
      have hsn := take_snoc ms k (by rw [HN.out]; exact hlt)
      obtain ⟨b, off, rfl, hc1, hc2⟩ := ha.at (i := k) (by rw [HN.out]; exact hlt)
      clear ha
      replace hc1 := cell_later (by rw [HB.out]; exact hbl) hc1
      replace hc2 := cell_later (by rw [HB.out]; exact hbl) hc2
      have hsg : sgn (ms.getD k (0, ByteArray.empty)).1 := (HG.out _ (by
        have h' : k < ms.length := by rw [HN.out]; exact hlt
        have e : ms.getD k (0, ByteArray.empty) = ms[k] := by simp [h']
        rw [e]; exact List.getElem_mem _)).1
      have hll := lessOf_len 43 (ms.take k)
      rw [List.length_take, HN.out] at hll
      obtain ⟨c, hc⟩ : ∃ c, (ms.getD k (0, ByteArray.empty)).1 = c := ⟨_, rfl⟩
      obtain ⟨t, ht⟩ : ∃ t, (ms.getD k (0, ByteArray.empty)).2 = t := ⟨_, rfl⟩
      rw [hc] at hc1 hsn hsg
      rw [ht] at hc2 hsn
      have HS : Hid (lessOf 43 (ms.take (k + 1)) = lessOf 43 (ms.take k) ++ lessOf 43 [(c, t)]) := by
        show lessOf 43 (ms.take (k + 1)) = _
        rw [hsn, lessOf_append]
      obtain ⟨done, hd⟩ : ∃ done, lessOf 43 (ms.take k) = done := ⟨_, rfl⟩
      rw [hd] at hown hll HS
      clear hd hc ht hsn
      have hsz := hbl.size
      have hszB : B ≤ wr.heap.size := by have := HB.out; omega
      by_cases hcs : c = 43
      · subst hcs
        have HS2 : Hid (lessOf 43 (ms.take (k + 1)) = done) := by
          show lessOf 43 (ms.take (k + 1)) = done
          rw [HS.out, lessOf_skip]; simp [lessOf]
        clear hsg
        go_wp2
        go_roundw
        case rel => exact ⟨k + 1, by omega, by go_num, hbl, by rw [HS2.out]; exact hown⟩
        case measure => simp [intOf]; omega
      · have HS2 : Hid (lessOf 43 (ms.take (k + 1)) = done ++ [t]) := by
          show lessOf 43 (ms.take (k + 1)) = _
          rw [HS.out, lessOf_hit _ _ _ _ hcs]; simp [lessOf]
        clear HS
        rcases hsg with rfl | rfl | rfl
        case inr.inr => exact absurd rfl hcs
        all_goals
          clear hcs
          go_wp2_with (at_builtin; refine wpList_append_own _ rfl _ _ 52 rfl B 9 i0 (.string ByteArray.empty) 1 16 Tryd.underlying52 hi hz0 hz1 hz2 rfl (by decide) _ _ _ rfl (hown.alloc _) ⟨wr.heap.size, 0, none⟩ 1 1 [.string t] rfl rfl (cell_one_new _ _ _) (fun x hx => by simp at hx; subst hx; rfl) (by unfold maxLen; omega) (by omega) (by simp; omega) ?_; intro v' w3 hown' hgrow3 hnil3)
          go_roundw
          case rel =>
            refine ⟨k + 1, by omega, by go_num, ?_, ?_⟩
            · exact (hbl.alloc (by omega) _).grown hgrow3 (by simp; omega) (fun j hj => (hown.lt j hj).1)
            · rw [HS2.out, List.map_append, List.length_append]; exact hown'
          case measure => simp [intOf]; omega
    · go_wp2
      go_ret
      rw [List.take_of_length_le (by have := HN.out; omega)] at hown
      obtain ⟨a', cap, rfl, hst⟩ := strs_of_own hown
      exact ⟨a', cap, rfl, hst, hbl⟩

set_option maxRecDepth 100000 in
set_option maxHeartbeats 1000000 in
theorem newOf (a : Option Addr) (ms : List (Int × ByteArray)) (ca : Nat) (w : World) (ha : Mks w a ms) (hf : sf ms = 0) :
    Calls Tryd.prog 14 #[.slice a ms.length ca] w fun e w' => ∃ a' cap, e = .returned (.slice a' (lessOf 45 ms).length cap) ∧ Strs w' a' (lessOf 45 ms) ∧ Below w.heap.size w w' := by
  obtain ⟨hl, hgood⟩ := sf_zero hf
  obtain ⟨i0, hi, hz0, hz1, hz2⟩ := info_parts Tryd.info9
  obtain ⟨n, hn⟩ : ∃ n, ms.length = n := ⟨_, rfl⟩
  rw [hn] at hl ⊢
  have HN : Hid (ms.length = n) := hn
  have HA : Hid (Mks w a ms) := ha
  have HG : Hid (∀ m ∈ ms, sgn m.1 ∧ lf m.2.data.toList = 0) := hgood
  clear hn ha hgood hf
  obtain ⟨B, hB⟩ : ∃ B, w.heap.size = B := ⟨_, rfl⟩
  have HB : Hid (w.heap.size = B) := hB
  rw [hB]
  clear hB
  go_enter Tryd.func14, Tryd.ntmps14
  go_wp2
  go_loopw [3, 4] (fun v i w1 => ∃ k : Nat, k ≤ n ∧ i = .int .i64 k ∧ Below B w w1 ∧ w1.ownsRow B 9 1 v (lessOf 45 (ms.take k)).length ((lessOf 45 (ms.take k)).map Value.string)) (fun _ i _ => n - (intOf i).toNat)
  case atStart => exact ⟨0, Nat.zero_le _, rfl, Below.refl _ _, ⟨rfl, Or.inl ⟨rfl, rfl⟩⟩⟩
  case round =>
    obtain ⟨k, hk, rfl, hbl, hown⟩ := hrel
    by_cases hlt : k < n
    · have ha := HA.out
      have hsn := take_snoc ms k (by rw [HN.out]; exact hlt)
      obtain ⟨b, off, rfl, hc1, hc2⟩ := ha.at (i := k) (by rw [HN.out]; exact hlt)
      clear ha
      replace hc1 := cell_later (by rw [HB.out]; exact hbl) hc1
      replace hc2 := cell_later (by rw [HB.out]; exact hbl) hc2
      have hsg : sgn (ms.getD k (0, ByteArray.empty)).1 := (HG.out _ (by
        have h' : k < ms.length := by rw [HN.out]; exact hlt
        have e : ms.getD k (0, ByteArray.empty) = ms[k] := by simp [h']
        rw [e]; exact List.getElem_mem _)).1
      have hll := lessOf_len 45 (ms.take k)
      rw [List.length_take, HN.out] at hll
      obtain ⟨c, hc⟩ : ∃ c, (ms.getD k (0, ByteArray.empty)).1 = c := ⟨_, rfl⟩
      obtain ⟨t, ht⟩ : ∃ t, (ms.getD k (0, ByteArray.empty)).2 = t := ⟨_, rfl⟩
      rw [hc] at hc1 hsn hsg
      rw [ht] at hc2 hsn
      have HS : Hid (lessOf 45 (ms.take (k + 1)) = lessOf 45 (ms.take k) ++ lessOf 45 [(c, t)]) := by
        show lessOf 45 (ms.take (k + 1)) = _
        rw [hsn, lessOf_append]
      obtain ⟨done, hd⟩ : ∃ done, lessOf 45 (ms.take k) = done := ⟨_, rfl⟩
      rw [hd] at hown hll HS
      clear hd hc ht hsn
      have hsz := hbl.size
      have hszB : B ≤ wr.heap.size := by have := HB.out; omega
      by_cases hcs : c = 45
      · subst hcs
        have HS2 : Hid (lessOf 45 (ms.take (k + 1)) = done) := by
          show lessOf 45 (ms.take (k + 1)) = done
          rw [HS.out, lessOf_skip]; simp [lessOf]
        clear hsg
        go_wp2
        go_roundw
        case rel => exact ⟨k + 1, by omega, by go_num, hbl, by rw [HS2.out]; exact hown⟩
        case measure => simp [intOf]; omega
      · have HS2 : Hid (lessOf 45 (ms.take (k + 1)) = done ++ [t]) := by
          show lessOf 45 (ms.take (k + 1)) = _
          rw [HS.out, lessOf_hit _ _ _ _ hcs]; simp [lessOf]
        clear HS
        rcases hsg with rfl | rfl | rfl
        case inr.inl => exact absurd rfl hcs
        all_goals
          clear hcs
          go_wp2_with (at_builtin; refine wpList_append_own _ rfl _ _ 52 rfl B 9 i0 (.string ByteArray.empty) 1 16 Tryd.underlying52 hi hz0 hz1 hz2 rfl (by decide) _ _ _ rfl (hown.alloc _) ⟨wr.heap.size, 0, none⟩ 1 1 [.string t] rfl rfl (cell_one_new _ _ _) (fun x hx => by simp at hx; subst hx; rfl) (by unfold maxLen; omega) (by omega) (by simp; omega) ?_; intro v' w3 hown' hgrow3 hnil3)
          go_roundw
          case rel =>
            refine ⟨k + 1, by omega, by go_num, ?_, ?_⟩
            · exact (hbl.alloc (by omega) _).grown hgrow3 (by simp; omega) (fun j hj => (hown.lt j hj).1)
            · rw [HS2.out, List.map_append, List.length_append]; exact hown'
          case measure => simp [intOf]; omega
    · go_wp2
      go_ret
      rw [List.take_of_length_le (by have := HN.out; omega)] at hown
      obtain ⟨a', cap, rfl, hst⟩ := strs_of_own hown
      exact ⟨a', cap, rfl, hst, hbl⟩

end Go.Proofs.YtfmhapajdnmhoafDoor
