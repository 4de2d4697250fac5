/-
  Walk of the law LooseIs: it returns true and writes nothing that was there.
-/
import Derived.Test.YtkelcjfblekhpabDoorRefF
import Derived.Test.YtkelcjfblekhpabDoorHsame
import Derived.Test.YtkelcjfblekhpabDoorAIs

namespace Go.Proofs.YtkelcjfblekhpabDoor
open Go.RowKit Dist

set_option maxHeartbeats 1000000 in
theorem ints_eqD (a b : Option Addr) (ds : List Int) (ca cb : Nat) (w : World) (ha : Ints w a ds) (hb : Ints w b ds) (hm : ds.length ≤ maxLen) : Calls Tryd.prog 14 #[.slice a ds.length ca, .slice b ds.length cb] w fun e w' => e = .returned (.bool true) ∧ Below w.heap.size w w' := by
  unfold maxLen at hm
  have HA : Hid (Ints w a ds) := ha
  have HBS : Hid (Ints w b ds) := hb
  obtain ⟨n, hn⟩ : ∃ n, ds.length = n := ⟨_, rfl⟩
  have HN : Hid (ds.length = n) := hn
  rw [hn] at hm ⊢
  obtain ⟨B, hB⟩ : ∃ B, w.heap.size = B := ⟨_, rfl⟩
  have HB : Hid (w.heap.size = B) := hB
  rw [hB]
  clear ha hb hn hB
  go_enter Tryd.func14, Tryd.ntmps14
  go_wp2
  go_loopw [5] (fun i w1 => ∃ k : Nat, k ≤ n ∧ i = .int .i64 k ∧ Below B w w1) (fun i _ => n - (intOf i).toNat)
  case atStart => exact ⟨0, Nat.zero_le _, rfl, Below.refl _ _⟩
  case round =>
    obtain ⟨k, hk, rfl, hbl⟩ := hrel
    have hb' : Below w.heap.size w wr := by rw [HB.out]; exact hbl
    by_cases hlt : k < n
    · obtain ⟨ba, oa, rfl, hca⟩ := HA.out.below hb' k (by rw [HN.out]; exact hlt)
      obtain ⟨bb, ob', rfl, hcb⟩ := HBS.out.below hb' k (by rw [HN.out]; exact hlt)
      obtain ⟨x, hx⟩ : ∃ x, ds.getD k 0 = x := ⟨_, rfl⟩
      rw [hx] at hca hcb
      have hne : (x != x) = false := by simp
      clear hx hb'
      go_wp2
      go_quiet (fail)
      go_wp2
      go_roundw
      case rel => exact ⟨k + 1, by omega, by go_num, below_drawn hbl⟩
      case measure => simp [intOf]; omega
    · go_wp2
      go_ret
      exact ⟨rfl, hbl⟩

/-- What is left was there. -/
theorem lrun_sub (fuzz far : Nat) (xs : List ByteArray) (l : List Hk) : ∀ k, k ≤ l.length → ∀ h ∈ (lrun fuzz far xs l k).L, h ∈ l
  | 0, _, h, hh => by simp [lrun] at hh
  | k + 1, hk, h, hh => by
    rw [lrun, stL_r rfl] at hh
    have ih := lrun_sub fuzz far xs l k (by omega)
    dsimp only at hh
    cases hd : doH (lrun fuzz far xs l k).A (lrun fuzz far xs l k).E (lrun fuzz far xs l k).S (l.getD k (0, 0, [])) fuzz far with
    | none =>
      rw [hd] at hh
      rcases List.mem_append.1 hh with hh | hh
      · exact ih h hh
      · rw [List.mem_singleton.1 hh]; exact hk_mem (by omega)
    | some r =>
      rw [hd] at hh
      exact ih h hh

set_option maxRecDepth 100000 in
set_option maxHeartbeats 8000000 in
theorem looseIs_any (aa la : Option Addr) (xs : List ByteArray) (l : List Hk) (ca cl : Nat) (fuzz far : Int) (w : World) (ha : Strs w aa xs) (hl : Hks w la l) (h1 : xs.length ≤ maxLen) (g1 : ∀ x ∈ xs, x.size ≤ maxLen) (h0 : l.length ≤ maxLen) (h00 : ∀ h ∈ l, h.2.2.length ≤ maxLen) (h000 : ∀ h ∈ l, ∀ m ∈ h.2.2, m.2.size ≤ maxLen) (hca : xs.length ≤ ca) (hg : TypeLaid w) :
    Calls Tryd.prog 4 #[.slice aa xs.length ca, .slice la l.length cl, .int .i64 fuzz, .int .i64 far] w fun e w' => e = .returned (.bool true) ∧ Below w.heap.size w w' := by
  have hlf := linesFault aa xs ca w ha h1 g1
  have hhf := refHunks la l cl w hl h0 h00 h000
  have HLS := fun w h h' => looseAny aa la xs l ca cl fuzz far w h h' h1 h0 h00 hca
  have SA : Hid (Strs w aa xs) := ha
  have SL : Hid (Hks w la l) := hl
  have HG : Hid (TypeLaid w) := hg
  obtain ⟨m, hm⟩ : ∃ m, xs.length = m := ⟨_, rfl⟩
  obtain ⟨z, hz⟩ : ∃ z, l.length = z := ⟨_, rfl⟩
  by_cases hf1 : lsf (bts xs) = 0
  · rw [hf1] at hlf
    by_cases hf2 : (hf l).2 = 0
    · rw [hf2] at hhf
      by_cases hr : fuzz < 0 ∨ 3 < fuzz ∨ far < 0 ∨ 60 < far
      · have hlc : lcF xs l fuzz far = 1 := by rw [lcF_range hf1 hf2, if_pos hr]
        have HNE : Hid ((1 : Int) ≠ 0) := by show (1 : Int) ≠ 0; decide
        have hbad : lcF xs l fuzz far ≠ 0 := by rw [hlc]; exact HNE.out
        rw [lsR_bad hbad, hlc] at HLS
        simp only [List.length_nil] at HLS
        rw [hm, hz] at HLS
        rw [hm] at hlf
        rw [hz] at hhf
        rw [hm, hz]
        obtain ⟨k0, hk0⟩ : ∃ k, (hf l).1 = k := ⟨_, rfl⟩
        rw [hk0] at hhf
        obtain ⟨v, hv⟩ : ∃ v, errV 1 = v := ⟨_, rfl⟩
        have HV : Hid (errV 1 = v) := hv
        rw [hv] at HLS
        have HRR : Hid (fuzz < 0 ∨ 3 < fuzz ∨ far < 0 ∨ 60 < far) := hr
        clear ha hl h1 g1 h0 h00 h000 hca hg hm hz hf1 hf2 hr hlc hbad hv hk0
        go_enter Tryd.func4, Tryd.ntmps4
        go_wp2_with (go_at_call 9; refine hlf.mono ?_; rintro e w' ⟨rfl, hw⟩; rw [hw])
        go_wp2_with (go_at_call 10; refine hhf.mono ?_)
        rintro e w1 ⟨rfl, hb1⟩
        have HBW : Hid (Below w.heap.size w w1) := hb1
        clear hlf hhf hb1
        have hr := HRR.out
        clear HRR
        by_cases b1 : fuzz < 0
        · clear hr
          have hls := HLS w1 (SA.out.below HBW.out) (SL.out.below HBW.out)
          clear HLS
          go_wp2_with (go_at_call 12; refine hls.mono ?_)
          rintro e w2 ⟨a2, c2, b2, cb2, g2, cg2, rfl, hb2, hs2, hk2, hi2⟩
          have hb02 := HBW.out.trans (hb2.mono HBW.out.size)
          have her := error_same 1 w2 (HG.out.below hb02)
          rw [HV.out] at her
          have HB02 : Hid (Below w.heap.size w w2) := hb02
          have HS2 : Hid (Strs w2 a2 ([] : List ByteArray)) := hs2
          have HK2 : Hid (Hks w2 b2 ([] : List Hk)) := hk2
          have HI2 : Hid (Ints w2 g2 ([] : List Int)) := hi2
          have HS1 : Hid (Strs w2 none ([] : List ByteArray)) := fun i hi => absurd hi (by simp)
          have HK1 : Hid (Hks w2 none ([] : List Hk)) := Hks.nil _ _
          have HI1 : Hid (Ints w2 none ([] : List Int)) := fun i hi => absurd hi (by simp)
          clear hls hb2 hs2 hk2 hi2 hb02
          go_wp2_with (go_at_call 7; refine her.mono ?_)
          rintro e w3 ⟨rfl, hb3⟩
          have htx := texts_eqD a2 none ([] : List ByteArray) c2 0 w3 (HS2.out.below hb3) (HS1.out.below hb3) (Nat.zero_le _)
          simp only [List.length_nil] at htx
          have HB3 : Hid (Below w2.heap.size w2 w3) := hb3
          clear her hb3
          go_wp2_with (go_at_call 8; refine htx.mono ?_)
          rintro e w4 ⟨rfl, hb4⟩
          have hb24 := HB3.out.trans (hb4.mono HB3.out.size)
          have hhk := hunks_eq b2 none ([] : List Hk) cb2 0 w4 (HK2.out.below hb24) (HK1.out.below hb24) (Nat.zero_le _) (fun h hh => by cases hh)
          simp only [List.length_nil] at hhk
          have HB4 : Hid (Below w2.heap.size w2 w4) := hb24
          clear htx hb4 hb24
          go_wp2_with (go_at_call 13; refine hhk.mono ?_)
          rintro e w5 ⟨rfl, hb5⟩
          have hb25 := HB4.out.trans (hb5.mono HB4.out.size)
          have hin := ints_eqD g2 none ([] : List Int) cg2 0 w5 (HI2.out.below hb25) (HI1.out.below hb25) (Nat.zero_le _)
          simp only [List.length_nil] at hin
          have HB5 : Hid (Below w2.heap.size w2 w5) := hb25
          clear hhk hb5 hb25
          go_wp2_with (go_at_call 14; refine hin.mono ?_)
          rintro e w6 ⟨rfl, hb6⟩
          have hb26 := HB5.out.trans (hb6.mono HB5.out.size)
          have hb06 := HB02.out.trans (hb26.mono HB02.out.size)
          clear hin hb6
          go_wp2
          go_ret
          exact ⟨rfl, hb06⟩
        by_cases b2 : 3 < fuzz
        · clear hr
          have hls := HLS w1 (SA.out.below HBW.out) (SL.out.below HBW.out)
          clear HLS
          go_wp2_with (go_at_call 12; refine hls.mono ?_)
          rintro e w2 ⟨a2, c2, b2, cb2, g2, cg2, rfl, hb2, hs2, hk2, hi2⟩
          have hb02 := HBW.out.trans (hb2.mono HBW.out.size)
          have her := error_same 1 w2 (HG.out.below hb02)
          rw [HV.out] at her
          have HB02 : Hid (Below w.heap.size w w2) := hb02
          have HS2 : Hid (Strs w2 a2 ([] : List ByteArray)) := hs2
          have HK2 : Hid (Hks w2 b2 ([] : List Hk)) := hk2
          have HI2 : Hid (Ints w2 g2 ([] : List Int)) := hi2
          have HS1 : Hid (Strs w2 none ([] : List ByteArray)) := fun i hi => absurd hi (by simp)
          have HK1 : Hid (Hks w2 none ([] : List Hk)) := Hks.nil _ _
          have HI1 : Hid (Ints w2 none ([] : List Int)) := fun i hi => absurd hi (by simp)
          clear hls hb2 hs2 hk2 hi2 hb02
          go_wp2_with (go_at_call 7; refine her.mono ?_)
          rintro e w3 ⟨rfl, hb3⟩
          have htx := texts_eqD a2 none ([] : List ByteArray) c2 0 w3 (HS2.out.below hb3) (HS1.out.below hb3) (Nat.zero_le _)
          simp only [List.length_nil] at htx
          have HB3 : Hid (Below w2.heap.size w2 w3) := hb3
          clear her hb3
          go_wp2_with (go_at_call 8; refine htx.mono ?_)
          rintro e w4 ⟨rfl, hb4⟩
          have hb24 := HB3.out.trans (hb4.mono HB3.out.size)
          have hhk := hunks_eq b2 none ([] : List Hk) cb2 0 w4 (HK2.out.below hb24) (HK1.out.below hb24) (Nat.zero_le _) (fun h hh => by cases hh)
          simp only [List.length_nil] at hhk
          have HB4 : Hid (Below w2.heap.size w2 w4) := hb24
          clear htx hb4 hb24
          go_wp2_with (go_at_call 13; refine hhk.mono ?_)
          rintro e w5 ⟨rfl, hb5⟩
          have hb25 := HB4.out.trans (hb5.mono HB4.out.size)
          have hin := ints_eqD g2 none ([] : List Int) cg2 0 w5 (HI2.out.below hb25) (HI1.out.below hb25) (Nat.zero_le _)
          simp only [List.length_nil] at hin
          have HB5 : Hid (Below w2.heap.size w2 w5) := hb25
          clear hhk hb5 hb25
          go_wp2_with (go_at_call 14; refine hin.mono ?_)
          rintro e w6 ⟨rfl, hb6⟩
          have hb26 := HB5.out.trans (hb6.mono HB5.out.size)
          have hb06 := HB02.out.trans (hb26.mono HB02.out.size)
          clear hin hb6
          go_wp2
          go_ret
          exact ⟨rfl, hb06⟩
        by_cases b3 : far < 0
        · clear hr
          have hls := HLS w1 (SA.out.below HBW.out) (SL.out.below HBW.out)
          clear HLS
          go_wp2_with (go_at_call 12; refine hls.mono ?_)
          rintro e w2 ⟨a2, c2, b2, cb2, g2, cg2, rfl, hb2, hs2, hk2, hi2⟩
          have hb02 := HBW.out.trans (hb2.mono HBW.out.size)
          have her := error_same 1 w2 (HG.out.below hb02)
          rw [HV.out] at her
          have HB02 : Hid (Below w.heap.size w w2) := hb02
          have HS2 : Hid (Strs w2 a2 ([] : List ByteArray)) := hs2
          have HK2 : Hid (Hks w2 b2 ([] : List Hk)) := hk2
          have HI2 : Hid (Ints w2 g2 ([] : List Int)) := hi2
          have HS1 : Hid (Strs w2 none ([] : List ByteArray)) := fun i hi => absurd hi (by simp)
          have HK1 : Hid (Hks w2 none ([] : List Hk)) := Hks.nil _ _
          have HI1 : Hid (Ints w2 none ([] : List Int)) := fun i hi => absurd hi (by simp)
          clear hls hb2 hs2 hk2 hi2 hb02
          go_wp2_with (go_at_call 7; refine her.mono ?_)
          rintro e w3 ⟨rfl, hb3⟩
          have htx := texts_eqD a2 none ([] : List ByteArray) c2 0 w3 (HS2.out.below hb3) (HS1.out.below hb3) (Nat.zero_le _)
          simp only [List.length_nil] at htx
          have HB3 : Hid (Below w2.heap.size w2 w3) := hb3
          clear her hb3
          go_wp2_with (go_at_call 8; refine htx.mono ?_)
          rintro e w4 ⟨rfl, hb4⟩
          have hb24 := HB3.out.trans (hb4.mono HB3.out.size)
          have hhk := hunks_eq b2 none ([] : List Hk) cb2 0 w4 (HK2.out.below hb24) (HK1.out.below hb24) (Nat.zero_le _) (fun h hh => by cases hh)
          simp only [List.length_nil] at hhk
          have HB4 : Hid (Below w2.heap.size w2 w4) := hb24
          clear htx hb4 hb24
          go_wp2_with (go_at_call 13; refine hhk.mono ?_)
          rintro e w5 ⟨rfl, hb5⟩
          have hb25 := HB4.out.trans (hb5.mono HB4.out.size)
          have hin := ints_eqD g2 none ([] : List Int) cg2 0 w5 (HI2.out.below hb25) (HI1.out.below hb25) (Nat.zero_le _)
          simp only [List.length_nil] at hin
          have HB5 : Hid (Below w2.heap.size w2 w5) := hb25
          clear hhk hb5 hb25
          go_wp2_with (go_at_call 14; refine hin.mono ?_)
          rintro e w6 ⟨rfl, hb6⟩
          have hb26 := HB5.out.trans (hb6.mono HB5.out.size)
          have hb06 := HB02.out.trans (hb26.mono HB02.out.size)
          clear hin hb6
          go_wp2
          go_ret
          exact ⟨rfl, hb06⟩
        have b4 : 60 < far := by omega
        clear hr
        have hls := HLS w1 (SA.out.below HBW.out) (SL.out.below HBW.out)
        clear HLS
        go_wp2_with (go_at_call 12; refine hls.mono ?_)
        rintro e w2 ⟨a2, c2, b2, cb2, g2, cg2, rfl, hb2, hs2, hk2, hi2⟩
        have hb02 := HBW.out.trans (hb2.mono HBW.out.size)
        have her := error_same 1 w2 (HG.out.below hb02)
        rw [HV.out] at her
        have HB02 : Hid (Below w.heap.size w w2) := hb02
        have HS2 : Hid (Strs w2 a2 ([] : List ByteArray)) := hs2
        have HK2 : Hid (Hks w2 b2 ([] : List Hk)) := hk2
        have HI2 : Hid (Ints w2 g2 ([] : List Int)) := hi2
        have HS1 : Hid (Strs w2 none ([] : List ByteArray)) := fun i hi => absurd hi (by simp)
        have HK1 : Hid (Hks w2 none ([] : List Hk)) := Hks.nil _ _
        have HI1 : Hid (Ints w2 none ([] : List Int)) := fun i hi => absurd hi (by simp)
        clear hls hb2 hs2 hk2 hi2 hb02
        go_wp2_with (go_at_call 7; refine her.mono ?_)
        rintro e w3 ⟨rfl, hb3⟩
        have htx := texts_eqD a2 none ([] : List ByteArray) c2 0 w3 (HS2.out.below hb3) (HS1.out.below hb3) (Nat.zero_le _)
        simp only [List.length_nil] at htx
        have HB3 : Hid (Below w2.heap.size w2 w3) := hb3
        clear her hb3
        go_wp2_with (go_at_call 8; refine htx.mono ?_)
        rintro e w4 ⟨rfl, hb4⟩
        have hb24 := HB3.out.trans (hb4.mono HB3.out.size)
        have hhk := hunks_eq b2 none ([] : List Hk) cb2 0 w4 (HK2.out.below hb24) (HK1.out.below hb24) (Nat.zero_le _) (fun h hh => by cases hh)
        simp only [List.length_nil] at hhk
        have HB4 : Hid (Below w2.heap.size w2 w4) := hb24
        clear htx hb4 hb24
        go_wp2_with (go_at_call 13; refine hhk.mono ?_)
        rintro e w5 ⟨rfl, hb5⟩
        have hb25 := HB4.out.trans (hb5.mono HB4.out.size)
        have hin := ints_eqD g2 none ([] : List Int) cg2 0 w5 (HI2.out.below hb25) (HI1.out.below hb25) (Nat.zero_le _)
        simp only [List.length_nil] at hin
        have HB5 : Hid (Below w2.heap.size w2 w5) := hb25
        clear hhk hb5 hb25
        go_wp2_with (go_at_call 14; refine hin.mono ?_)
        rintro e w6 ⟨rfl, hb6⟩
        have hb26 := HB5.out.trans (hb6.mono HB5.out.size)
        have hb06 := HB02.out.trans (hb26.mono HB02.out.size)
        clear hin hb6
        go_wp2
        go_ret
        exact ⟨rfl, hb06⟩
      · have hlc : lcF xs l fuzz far = 0 := by rw [lcF_range hf1 hf2, if_neg hr]
        obtain ⟨f, rfl⟩ := Int.eq_ofNat_of_zero_le (show 0 ≤ fuzz by omega)
        obtain ⟨r, rfl⟩ := Int.eq_ofNat_of_zero_le (show 0 ≤ far by omega)
        have hok := lsR_small hlc l.length (Nat.le_refl _)
        have hsub := lrun_sub f r xs l l.length (Nat.le_refl _)
        have HRF := fun w h h' => refLoose aa la xs l ca cl f r w h h' hca hlc
        rw [lsR_ok hlc, hlc] at HLS
        rw [Int.toNat_natCast, Int.toNat_natCast] at HLS hok
        obtain ⟨s, hs⟩ : ∃ s, lrun f r xs l l.length = s := ⟨_, rfl⟩
        rw [hs] at HLS HRF hok hsub
        obtain ⟨Y, E, S, L, W⟩ := s
        dsimp only at HLS HRF hsub
        have hY : Y.length ≤ 60 := hok.len
        have hL : L.length ≤ l.length := hok.ll
        have hW : W.length = l.length := hok.wl
        obtain ⟨y, hy⟩ : ∃ y, Y.length = y := ⟨_, rfl⟩
        obtain ⟨z9, hz9⟩ : ∃ z, L.length = z := ⟨_, rfl⟩
        obtain ⟨v3, hv3⟩ : ∃ z, W.length = z := ⟨_, rfl⟩
        have HYL : Hid (Y.length = y) := hy
        have HLL : Hid (L.length = z9) := hz9
        have HWL : Hid (W.length = v3) := hv3
        have HSM : Hid (Y.length ≤ maxLen) := by show Y.length ≤ maxLen; unfold maxLen; omega
        have HSL : Hid (L.length ≤ maxLen) := Nat.le_trans hL h0
        have HSLM : Hid (∀ h ∈ L, h.2.2.length ≤ maxLen) := fun h hh => h00 h (hsub h hh)
        have HSW : Hid (W.length ≤ maxLen) := by show W.length ≤ maxLen; rw [hW]; exact h0
        rw [hy, hz9, hv3, hm, hz] at HLS HRF
        rw [hm] at hlf
        rw [hz] at hhf
        rw [hm, hz]
        obtain ⟨k0, hk0⟩ : ∃ k, (hf l).1 = k := ⟨_, rfl⟩
        rw [hk0] at hhf
        obtain ⟨v, hv⟩ : ∃ v, errV 0 = v := ⟨_, rfl⟩
        have HV : Hid (errV 0 = v) := hv
        rw [hv] at HLS
        have c1 : ¬ ((f : Int) < 0) := by omega
        have c2 : ¬ (3 < (f : Int)) := by omega
        have c3 : ¬ ((r : Int) < 0) := by omega
        have c4 : ¬ (60 < (r : Int)) := by omega
        have C2 : Hid (¬ (3 < (f : Int))) := c2
        have C4 : Hid (¬ (60 < (r : Int))) := c4
        clear ha hl h1 g1 h0 h00 h000 hca hg hm hz hf1 hf2 hr hlc hv hk0 hok hsub hs hY hL hW hy hz9 hv3 c1 c2 c3 c4
        go_enter Tryd.func4, Tryd.ntmps4
        go_wp2_with (go_at_call 9; refine hlf.mono ?_; rintro e w' ⟨rfl, hw⟩; rw [hw])
        go_wp2_with (go_at_call 10; refine hhf.mono ?_)
        rintro e w1 ⟨rfl, hb1⟩
        have hrf := HRF w1 (SA.out.below hb1) (SL.out.below hb1)
        have HB1 : Hid (Below w.heap.size w w1) := hb1
        have c2 := C2.out
        have c4 := C4.out
        clear hlf hhf hb1 HRF C2 C4
        go_wp2_with (go_at_call 11; refine hrf.mono ?_)
        rintro e w9 ⟨a1, c1, b1, cb1, g1, cg1, rfl, hb9, hs9, hk9, hi9⟩
        have HBW : Hid (Below w.heap.size w w9) := HB1.out.trans (hb9.mono HB1.out.size)
        have HS9 : Hid (Strs w9 a1 Y) := hs9
        have HK9 : Hid (Hks w9 b1 L) := hk9
        have HI9 : Hid (Ints w9 g1 W) := hi9
        clear hrf hb9 hs9 hk9 hi9 c2 c4
        have hls := HLS w9 (SA.out.below HBW.out) (SL.out.below HBW.out)
        clear HLS
        go_wp2_with (go_at_call 12; refine hls.mono ?_)
        rintro e w2 ⟨a2, c2, b2, cb2, g2, cg2, rfl, hb2, hs2, hk2, hi2⟩
        have hb02 := HBW.out.trans (hb2.mono HBW.out.size)
        have her := error_same 0 w2 (HG.out.below hb02)
        rw [HV.out] at her
        have HB02 : Hid (Below w.heap.size w w2) := hb02
        have HS2 : Hid (Strs w2 a2 Y) := hs2
        have HK2 : Hid (Hks w2 b2 L) := hk2
        have HI2 : Hid (Ints w2 g2 W) := hi2
        have HS1 : Hid (Strs w2 a1 Y) := HS9.out.below hb2
        have HK1 : Hid (Hks w2 b1 L) := HK9.out.below hb2
        have HI1 : Hid (Ints w2 g1 W) := HI9.out.below hb2
        clear hls hb2 hs2 hk2 hi2 hb02
        go_wp2_with (go_at_call 7; refine her.mono ?_)
        rintro e w3 ⟨rfl, hb3⟩
        have htx := texts_eqD a2 a1 Y c2 c1 w3 (HS2.out.below hb3) (HS1.out.below hb3) HSM.out
        rw [HYL.out] at htx
        have HB3 : Hid (Below w2.heap.size w2 w3) := hb3
        clear her hb3
        go_wp2_with (go_at_call 8; refine htx.mono ?_)
        rintro e w4 ⟨rfl, hb4⟩
        have hb24 := HB3.out.trans (hb4.mono HB3.out.size)
        have hhk := hunks_eq b2 b1 L cb2 cb1 w4 (HK2.out.below hb24) (HK1.out.below hb24) HSL.out HSLM.out
        rw [HLL.out] at hhk
        have HB4 : Hid (Below w2.heap.size w2 w4) := hb24
        clear htx hb4 hb24
        go_wp2_with (go_at_call 13; refine hhk.mono ?_)
        rintro e w5 ⟨rfl, hb5⟩
        have hb25 := HB4.out.trans (hb5.mono HB4.out.size)
        have hin := ints_eqD g2 g1 W cg2 cg1 w5 (HI2.out.below hb25) (HI1.out.below hb25) HSW.out
        rw [HWL.out] at hin
        have HB5 : Hid (Below w2.heap.size w2 w5) := hb25
        clear hhk hb5 hb25
        go_wp2_with (go_at_call 14; refine hin.mono ?_)
        rintro e w6 ⟨rfl, hb6⟩
        have hb26 := HB5.out.trans (hb6.mono HB5.out.size)
        have hb06 := HB02.out.trans (hb26.mono HB02.out.size)
        clear hin hb6
        go_wp2
        go_ret
        exact ⟨rfl, hb06⟩
    · have HNE : Hid ((hf l).2 ≠ 0) := hf2
      have hlc : lcF xs l fuzz far = (hf l).2 := lcF_hunks hf1 hf2
      have hbad : lcF xs l fuzz far ≠ 0 := by rw [hlc]; exact HNE.out
      rw [lsR_bad hbad, hlc] at HLS
      simp only [List.length_nil] at HLS
      rw [hm, hz] at HLS
      rw [hm] at hlf
      rw [hz] at hhf
      rw [hm, hz]
      obtain ⟨k0, hk0⟩ : ∃ k, (hf l).1 = k := ⟨_, rfl⟩
      obtain ⟨f2, hf2'⟩ : ∃ k, (hf l).2 = k := ⟨_, rfl⟩
      rw [hk0, hf2'] at hhf
      rw [hf2'] at HLS hf2
      obtain ⟨v, hv⟩ : ∃ v, errV f2 = v := ⟨_, rfl⟩
      have HV : Hid (errV f2 = v) := hv
      rw [hv] at HLS
      have hfz : (f2 == 0) = false := by simpa using hf2
      clear ha hl h1 g1 h0 h00 h000 hca hg hm hz hf1 hf2 hlc hbad hv hk0 hf2' HNE
      go_enter Tryd.func4, Tryd.ntmps4
      go_wp2_with (go_at_call 9; refine hlf.mono ?_; rintro e w' ⟨rfl, hw⟩; rw [hw])
      go_wp2_with (go_at_call 10; refine hhf.mono ?_)
      rintro e w1 ⟨rfl, hb1⟩
      have HBW : Hid (Below w.heap.size w w1) := hb1
      clear hlf hhf hb1
      have hls := HLS w1 (SA.out.below HBW.out) (SL.out.below HBW.out)
      clear HLS
      go_wp2_with (go_at_call 12; refine hls.mono ?_)
      rintro e w2 ⟨a2, c2, b2, cb2, g2, cg2, rfl, hb2, hs2, hk2, hi2⟩
      have hb02 := HBW.out.trans (hb2.mono HBW.out.size)
      have her := error_same f2 w2 (HG.out.below hb02)
      rw [HV.out] at her
      have HB02 : Hid (Below w.heap.size w w2) := hb02
      have HS2 : Hid (Strs w2 a2 ([] : List ByteArray)) := hs2
      have HK2 : Hid (Hks w2 b2 ([] : List Hk)) := hk2
      have HI2 : Hid (Ints w2 g2 ([] : List Int)) := hi2
      have HS1 : Hid (Strs w2 none ([] : List ByteArray)) := fun i hi => absurd hi (by simp)
      have HK1 : Hid (Hks w2 none ([] : List Hk)) := Hks.nil _ _
      have HI1 : Hid (Ints w2 none ([] : List Int)) := fun i hi => absurd hi (by simp)
      clear hls hb2 hs2 hk2 hi2 hb02
      go_wp2_with (go_at_call 7; refine her.mono ?_)
      rintro e w3 ⟨rfl, hb3⟩
      have htx := texts_eqD a2 none ([] : List ByteArray) c2 0 w3 (HS2.out.below hb3) (HS1.out.below hb3) (Nat.zero_le _)
      simp only [List.length_nil] at htx
      have HB3 : Hid (Below w2.heap.size w2 w3) := hb3
      clear her hb3
      go_wp2_with (go_at_call 8; refine htx.mono ?_)
      rintro e w4 ⟨rfl, hb4⟩
      have hb24 := HB3.out.trans (hb4.mono HB3.out.size)
      have hhk := hunks_eq b2 none ([] : List Hk) cb2 0 w4 (HK2.out.below hb24) (HK1.out.below hb24) (Nat.zero_le _) (fun h hh => by cases hh)
      simp only [List.length_nil] at hhk
      have HB4 : Hid (Below w2.heap.size w2 w4) := hb24
      clear htx hb4 hb24
      go_wp2_with (go_at_call 13; refine hhk.mono ?_)
      rintro e w5 ⟨rfl, hb5⟩
      have hb25 := HB4.out.trans (hb5.mono HB4.out.size)
      have hin := ints_eqD g2 none ([] : List Int) cg2 0 w5 (HI2.out.below hb25) (HI1.out.below hb25) (Nat.zero_le _)
      simp only [List.length_nil] at hin
      have HB5 : Hid (Below w2.heap.size w2 w5) := hb25
      clear hhk hb5 hb25
      go_wp2_with (go_at_call 14; refine hin.mono ?_)
      rintro e w6 ⟨rfl, hb6⟩
      have hb26 := HB5.out.trans (hb6.mono HB5.out.size)
      have hb06 := HB02.out.trans (hb26.mono HB02.out.size)
      clear hin hb6
      go_wp2
      go_ret
      exact ⟨rfl, hb06⟩
  · have HNE : Hid (lsf (bts xs) ≠ 0) := hf1
    have hlc : lcF xs l fuzz far = lsf (bts xs) := lcF_lines hf1
    have hbad : lcF xs l fuzz far ≠ 0 := by rw [hlc]; exact HNE.out
    rw [lsR_bad hbad, hlc] at HLS
    simp only [List.length_nil] at HLS
    rw [hm, hz] at HLS
    rw [hm] at hlf
    rw [hm, hz]
    obtain ⟨f2, hf2'⟩ : ∃ k, lsf (bts xs) = k := ⟨_, rfl⟩
    rw [hf2'] at hlf HLS hf1
    obtain ⟨v, hv⟩ : ∃ v, errV f2 = v := ⟨_, rfl⟩
    have HV : Hid (errV f2 = v) := hv
    rw [hv] at HLS
    have hfz : (f2 == 0) = false := by simpa using hf1
    have HBW : Hid (Below w.heap.size w w) := Below.refl _ _
    clear ha hl h1 g1 h0 h00 h000 hca hg hm hz hf1 hlc hbad hv hf2' HNE hhf
    go_enter Tryd.func4, Tryd.ntmps4
    go_wp2_with (go_at_call 9; refine hlf.mono ?_; rintro e w' ⟨rfl, hw⟩; rw [hw])
    clear hlf
    have hls := HLS w (SA.out.below HBW.out) (SL.out.below HBW.out)
    clear HLS
    go_wp2_with (go_at_call 12; refine hls.mono ?_)
    rintro e w2 ⟨a2, c2, b2, cb2, g2, cg2, rfl, hb2, hs2, hk2, hi2⟩
    have hb02 := HBW.out.trans (hb2.mono HBW.out.size)
    have her := error_same f2 w2 (HG.out.below hb02)
    rw [HV.out] at her
    have HB02 : Hid (Below w.heap.size w w2) := hb02
    have HS2 : Hid (Strs w2 a2 ([] : List ByteArray)) := hs2
    have HK2 : Hid (Hks w2 b2 ([] : List Hk)) := hk2
    have HI2 : Hid (Ints w2 g2 ([] : List Int)) := hi2
    have HS1 : Hid (Strs w2 none ([] : List ByteArray)) := fun i hi => absurd hi (by simp)
    have HK1 : Hid (Hks w2 none ([] : List Hk)) := Hks.nil _ _
    have HI1 : Hid (Ints w2 none ([] : List Int)) := fun i hi => absurd hi (by simp)
    clear hls hb2 hs2 hk2 hi2 hb02
    go_wp2_with (go_at_call 7; refine her.mono ?_)
    rintro e w3 ⟨rfl, hb3⟩
    have htx := texts_eqD a2 none ([] : List ByteArray) c2 0 w3 (HS2.out.below hb3) (HS1.out.below hb3) (Nat.zero_le _)
    simp only [List.length_nil] at htx
    have HB3 : Hid (Below w2.heap.size w2 w3) := hb3
    clear her hb3
    go_wp2_with (go_at_call 8; refine htx.mono ?_)
    rintro e w4 ⟨rfl, hb4⟩
    have hb24 := HB3.out.trans (hb4.mono HB3.out.size)
    have hhk := hunks_eq b2 none ([] : List Hk) cb2 0 w4 (HK2.out.below hb24) (HK1.out.below hb24) (Nat.zero_le _) (fun h hh => by cases hh)
    simp only [List.length_nil] at hhk
    have HB4 : Hid (Below w2.heap.size w2 w4) := hb24
    clear htx hb4 hb24
    go_wp2_with (go_at_call 13; refine hhk.mono ?_)
    rintro e w5 ⟨rfl, hb5⟩
    have hb25 := HB4.out.trans (hb5.mono HB4.out.size)
    have hin := ints_eqD g2 none ([] : List Int) cg2 0 w5 (HI2.out.below hb25) (HI1.out.below hb25) (Nat.zero_le _)
    simp only [List.length_nil] at hin
    have HB5 : Hid (Below w2.heap.size w2 w5) := hb25
    clear hhk hb5 hb25
    go_wp2_with (go_at_call 14; refine hin.mono ?_)
    rintro e w6 ⟨rfl, hb6⟩
    have hb26 := HB5.out.trans (hb6.mono HB5.out.size)
    have hb06 := HB02.out.trans (hb26.mono HB02.out.size)
    clear hin hb6
    go_wp2
    go_ret
    exact ⟨rfl, hb06⟩

end Go.Proofs.YtkelcjfblekhpabDoor
