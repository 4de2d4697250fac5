/-
  Walk of the law LooseExact: it returns true and writes nothing that was there.
-/
import Derived.Test.YthcgbbfejdkgaabLoose3
import Derived.Test.YthcgbbfejdkgaabHsame
import Derived.Test.YthcgbbfejdkgaabRefE
import Derived.Test.YthcgbbfejdkgaabMakes

namespace Go.Proofs.Ythcgbbfejdkgaab
open Go.RowKit Dist

theorem fact_e : lcF [(⟨#[120]⟩ : ByteArray)] [((1 : Int), (1 : Int), [((45 : Int), (⟨#[120]⟩ : ByteArray))])] 0 1 = 0 := by decide
theorem fact_e2 : (lsR [(⟨#[120]⟩ : ByteArray)] [((1 : Int), (1 : Int), [((45 : Int), (⟨#[120]⟩ : ByteArray))])] 0 1).A = [] ∧ (lsR [(⟨#[120]⟩ : ByteArray)] [((1 : Int), (1 : Int), [((45 : Int), (⟨#[120]⟩ : ByteArray))])] 0 1).L = [] ∧ (lsR [(⟨#[120]⟩ : ByteArray)] [((1 : Int), (1 : Int), [((45 : Int), (⟨#[120]⟩ : ByteArray))])] 0 1).W = [-1] := by decide

theorem textsAny (a b : Option Addr) (xs ys : List ByteArray) (ca cb : Nat) (w : World) (ha : Strs w a xs) (hb : Strs w b ys) (hm : xs.length ≤ maxLen) : Calls Try.prog 14 #[.slice a xs.length ca, .slice b ys.length cb] w fun e w' => e = .returned (.bool (decide (xs = ys))) ∧ Below w.heap.size w w' := by
  by_cases hl : xs.length = ys.length
  · exact (texts_same a b xs ys ca cb w ha hb hl hm).mono fun e w' ⟨he, n, hw⟩ => ⟨he, by rw [hw]; exact below_drawn (Below.refl _ _)⟩
  · refine (texts_len a b xs.length ys.length ca cb w hl).mono fun e w' ⟨he, hw⟩ => ⟨?_, by rw [hw]; exact Below.refl _ _⟩
    rw [he]
    exact ret_b (by symm; rw [decide_eq_false_iff_not]; intro e; exact hl (by rw [e]))

theorem nbs_snoc {l : List Hk} {k : Nat} (hk : k < l.length) : nbs (l.take (k + 1)) = nbs (l.take k) + nb (l.getD k (0, 0, [])).2.2 := by
  rw [take_hk hk, nbs_append]; rfl

theorem nbs_small {l : List Hk} (h : ∀ x ∈ l, sf x.2.2 = 0 ∧ 0 < chg x.2.2 ∧ 0 ≤ x.1 ∧ x.1 ≤ 60) (k : Nat) (hk : k ≤ l.length) : nbs (l.take k) ≤ 120 * k := by
  induction k with
  | zero => exact Nat.le_refl _
  | succ k ih =>
    have := ih (by omega)
    rw [nbs_snoc (show k < l.length by omega)]
    have h1 := (sf_zero (h _ (hk_mem (show k < l.length by omega))).1).1
    have h2 := nb_le (l.getD k (0, 0, [])).2.2
    omega

set_option maxRecDepth 100000 in
set_option maxHeartbeats 8000000 in
theorem exact_any (aa la : Option Addr) (xs : List ByteArray) (l : List Hk) (ca cl : Nat) (fuzz far : Int) (w : World) (ha : Strs w aa xs) (hl : Hks w la l) (h1 : xs.length ≤ maxLen) (h0 : l.length ≤ maxLen) (h00 : ∀ h ∈ l, h.2.2.length ≤ maxLen) (hca : xs.length ≤ ca) :
    Calls Try.prog 5 #[.slice aa xs.length ca, .slice la l.length cl, .int .i64 fuzz, .int .i64 far] w fun e w' => e = .returned (.bool true) ∧ Below w.heap.size w w' := by
  have hb1 : Below w.heap.size w ((w.alloc (.cells #[.int .u8 45, .string ⟨#[120]⟩] 29)).alloc (.cells #[.int .i64 1, .int .i64 1, .slice (some ⟨w.heap.size, 0, none⟩) 1 1] 31)) := ((Below.refl _ _).alloc (Nat.le_refl _) _).alloc (by simp) _
  have hb2 := below_alloc ((w.alloc (.cells #[.int .u8 45, .string ⟨#[120]⟩] 29)).alloc (.cells #[.int .i64 1, .int .i64 1, .slice (some ⟨w.heap.size, 0, none⟩) 1 1] 31)) (.cells #[.string ⟨#[120]⟩] 9)
  have hfact := looseAny (some ⟨((w.alloc (.cells #[.int .u8 45, .string ⟨#[120]⟩] 29)).alloc (.cells #[.int .i64 1, .int .i64 1, .slice (some ⟨w.heap.size, 0, none⟩) 1 1] 31)).heap.size, 0, none⟩) (some ⟨w.heap.size + 1, 0, none⟩) [⟨#[120]⟩] [((1 : Int), (1 : Int), [((45 : Int), (⟨#[120]⟩ : ByteArray))])] 1 1 0 1 _ (strs_one _ ⟨#[120]⟩ 9) ((hks_one w 1 1 45 ⟨#[120]⟩).below hb2) (by simp; decide) (by simp; decide) (fun h hh => by simp at hh; rw [hh]; simp; decide) (by simp)
  rw [fact_e, fact_e2.1, fact_e2.2.1, fact_e2.2.2, errV_zero] at hfact
  simp only [List.length_cons, List.length_nil, Nat.zero_add] at hfact
  rw [show ((w.alloc (.cells #[.int .u8 45, .string ⟨#[120]⟩] 29)).alloc (.cells #[.int .i64 1, .int .i64 1, .slice (some ⟨w.heap.size, 0, none⟩) 1 1] 31)).heap.size = w.heap.size + 2 by simp] at hfact
  have HW : Hid (Below w.heap.size w (((w.alloc (.cells #[.int .u8 45, .string ⟨#[120]⟩] 29)).alloc (.cells #[.int .i64 1, .int .i64 1, .slice (some ⟨w.heap.size, 0, none⟩) 1 1] 31)).alloc (.cells #[.string ⟨#[120]⟩] 9))) := hb1.trans (hb2.mono hb1.size)
  have HLO := fun w h h' => looseAny aa la xs l ca cl fuzz far w h h' h1 h0 h00 hca
  have HST := fun w h h' => strictAny aa la xs l ca cl w h h' h1 h0 h00 hca
  have SA : Hid (Strs w aa xs) := ha
  have SL : Hid (Hks w la l) := hl
  have H1 : Hid (xs.length ≤ maxLen) := h1
  have H0 : Hid (l.length ≤ maxLen) := h0
  have H00 : Hid (∀ h ∈ l, h.2.2.length ≤ maxLen) := h00
  obtain ⟨m, hm⟩ : ∃ m, xs.length = m := ⟨_, rfl⟩
  obtain ⟨z, hz⟩ : ∃ z, l.length = z := ⟨_, rfl⟩
  have HM : Hid (xs.length = m) := hm
  have HZ : Hid (l.length = z) := hz
  rw [hm, hz] at HLO HST
  rw [hm, hz]
  clear ha hl h1 h0 h00 hca hb1 hb2 hm hz
  go_enter Try.func5, Try.ntmps5
  go_wp2_with (go_at_call 16; refine hfact.mono ?_)
  rintro e w1 ⟨a1, c1, b1, cb1, g1, cg1, rfl, hb1, _, _, hi1⟩
  obtain ⟨gb, goff, rfl, hgc⟩ := hi1 0 (by simp)
  simp only [Nat.add_zero, List.getD_cons_zero] at hgc
  have hb1 := HW.out.trans (hb1.mono HW.out.size)
  have hlo := HLO w1 (SA.out.below hb1) (SL.out.below hb1)
  clear hfact HW hi1 HLO
  by_cases hlc : lcF xs l fuzz far = 0
  · rw [lsR_ok hlc, hlc, errV_zero] at hlo
    have hsm := lsR_small hlc
    obtain ⟨z1, z2, fz1, fz2, fr1, fr2⟩ := lcF_zero hlc
    obtain ⟨F1, rfl⟩ := Int.eq_ofNat_of_zero_le fz1
    obtain ⟨R1, rfl⟩ := Int.eq_ofNat_of_zero_le fr1
    rw [Int.toNat_natCast, Int.toNat_natCast] at hlo hsm
    obtain ⟨hgood, hl60, hone⟩ := hf_good z2
    have hx60 := lsf_len z1
    rw [HM.out] at hx60
    rw [HZ.out] at hl60 hlo
    have HSM : Hid (∀ k, k ≤ l.length → OkS (fun x => lf x.data.toList = 0) R1 xs k (lrun F1 R1 xs l k)) := hsm
    have HGD : Hid (Dist.Good l) := hgood
    have HONE : Hid (∀ x ∈ l, sf x.2.2 = 0 ∧ 0 < chg x.2.2 ∧ 0 ≤ x.1 ∧ x.1 ≤ 60) := hone
    have Z1 : Hid (lsf (bts xs) = 0) := z1
    have Z2 : Hid ((hf l).2 = 0) := z2
    have hok := hsm z (by rw [HZ.out]; exact Nat.le_refl _)
    obtain ⟨s, hs⟩ : ∃ s, lrun F1 R1 xs l z = s := ⟨_, rfl⟩
    have HS : Hid (lrun F1 R1 xs l z = s) := hs
    rw [hs] at hlo hok
    have HAL : Hid (s.A.length ≤ maxLen) := by have := hok.len; show s.A.length ≤ maxLen; unfold maxLen; omega
    have hwl := hok.wl
    have hll := hok.ll
    rw [hwl] at hlo
    obtain ⟨xA, hxA⟩ : ∃ x, s.A.length = x := ⟨_, rfl⟩
    obtain ⟨xL, hxL⟩ : ∃ x, s.L.length = x := ⟨_, rfl⟩
    have HXA : Hid (s.A.length = xA) := hxA
    have HXL : Hid (s.L.length = xL) := hxL
    have HWL : Hid (s.W.length = z) := hwl
    have HOKZ : Hid (OkS (fun x => lf x.data.toList = 0) R1 xs z s) := hok
    rw [hxA, hxL] at hlo
    rw [hxL] at hll
    have hR60 : R1 ≤ 60 := by omega
    clear hsm hgood hone z1 z2 fz1 fz2 fr1 fr2 hlc hs hok hwl hxA hxL
    go_wp2_with (go_at_call 16; refine hlo.mono ?_)
    rintro e w2 ⟨a2, c2, b2, cb2, g2, cg2, rfl, hb2, hsA, hkL, hiW⟩
    have hb2 := hb1.trans (hb2.mono hb1.size)
    have hst := HST w2 (SA.out.below hb2) (SL.out.below hb2)
    clear hlo HST hb1 hgc
    obtain ⟨fS, hfS⟩ : ∃ f, (stF xs l).2 = f := ⟨_, rfl⟩
    obtain ⟨pS, hpS⟩ : ∃ f, (stF xs l).1 = f := ⟨_, rfl⟩
    obtain ⟨vS, hvS⟩ : ∃ v, errV fS = v := ⟨_, rfl⟩
    obtain ⟨Y, hY⟩ : ∃ Y, stO xs l = Y := ⟨_, rfl⟩
    obtain ⟨y, hy⟩ : ∃ y, Y.length = y := ⟨_, rfl⟩
    have HFS : Hid ((stF xs l).2 = fS) := hfS
    have HVS : Hid (errV fS = vS) := hvS
    have HY : Hid (stO xs l = Y) := hY
    have HYL : Hid (Y.length = y) := hy
    rw [hfS, hpS, hvS, hY, hy] at hst
    clear hfS hpS hvS hY hy
    go_wp2_with (go_at_call 13; refine hst.mono ?_)
    rintro e w3 ⟨a3, c3, rfl, hb3, hs3, _⟩
    have hsA := hsA.below hb3
    have hkL := hkL.below hb3
    have hiW := hiW.below hb3
    have hb3 := hb2.trans (hb3.mono hb2.size)
    clear hst hb2
    have SX : Hid (Strs w3 a2 s.A) := hsA
    have KL : Hid (Hks w3 b2 s.L) := hkL
    have IW : Hid (Ints w3 g2 s.W) := hiW
    have SY : Hid (Strs w3 a3 Y) := hs3
    have SL3 : Hid (Hks w3 la l) := SL.out.below hb3
    have SA3 : Hid (Strs w3 aa xs) := SA.out.below hb3
    have HB3 : Hid (Below w.heap.size w w3) := hb3
    obtain ⟨B, hB⟩ : ∃ B, w3.heap.size = B := ⟨_, rfl⟩
    have HB : Hid (w3.heap.size = B) := hB
    clear hsA hkL hiW hs3 hb3 hB SA SL
    go_wp2
    go_loopw [19, 20, 21] (fun v i _ w1 => ∃ k : Nat, k ≤ z ∧ i = .int .i64 k ∧ v = .int .i64 ((m : Int) + nbs (l.take k)) ∧ Below B w3 w1) (fun _ i _ _ => z - (intOf i).toNat)
    case atStart => exact ⟨0, Nat.zero_le _, rfl, by simp [nbs], Below.refl _ _⟩
    case round =>
      obtain ⟨k, hk, rfl, rfl, hbl⟩ := hrel
      have hnb := nbs_small HONE.out k (by rw [HZ.out]; exact hk)
      by_cases hlt : k < z
      · have hkl : k < l.length := by rw [HZ.out]; exact hlt
        have hl := SL3.out
        obtain ⟨b, off, am, cm, rfl, _, _, hc3, hmk⟩ := hl.at hkl
        clear hl
        have hb' : Below w3.heap.size w3 wr := by rw [HB.out]; exact hbl
        replace hc3 := cell_later hb' hc3
        replace hmk := hmk.below hb'
        have HSN : Hid (nbs (l.take (k + 1)) = nbs (l.take k) + nb (l.getD k (0, 0, [])).2.2) := nbs_snoc hkl
        obtain ⟨o1, _, _, _⟩ := HONE.out _ (hk_mem hkl)
        obtain ⟨ms, hms⟩ : ∃ ms, (l.getD k (0, 0, [])).2.2 = ms := ⟨_, rfl⟩
        rw [hms] at hc3 hmk HSN o1
        have hnw := newOf am ms cm wr hmk o1
        have hnl := nb_less ms (fun x hx => ((sf_zero o1).2 x hx).1)
        have hml := (sf_zero o1).1
        have hnl2 := nb_le ms
        rw [hnl] at hnw
        obtain ⟨q, hq⟩ : ∃ q, ms.length = q := ⟨_, rfl⟩
        obtain ⟨x, hx⟩ : ∃ x, nb ms = x := ⟨_, rfl⟩
        obtain ⟨d, hd⟩ : ∃ d, nbs (l.take k) = d := ⟨_, rfl⟩
        rw [hq] at hnw hc3 hml hnl2
        rw [hx] at hnw HSN hnl2
        rw [hd] at HSN hnb ⊢
        clear hms hmk o1 hnl hq hx hd hb' hkl
        go_wp2_with (go_at_call 17; refine hnw.mono ?_)
        rintro e w5 ⟨a5, c5, rfl, _, hb5⟩
        have hb5 := hbl.trans (hb5.mono (by have := hbl.size; have := HB.out; omega))
        clear hnw hbl
        go_wp2
        go_roundw
        case rel => exact ⟨k + 1, by omega, by go_num, by rw [HSN.out]; go_num, hb5⟩
        case measure => simp [intOf]; omega
      · obtain rfl : k = z := by omega
        rw [List.take_of_length_le (by rw [HZ.out]; exact Nat.le_refl _)] at hnb ⊢
        have hb' : Below w3.heap.size w3 wr := by rw [HB.out]; exact hbl
        have hx4 := SX.out.below hb'
        have hy4 := SY.out.below hb'
        have HX4 : Hid (Strs wr a2 s.A) := hx4
        have HY4 : Hid (Strs wr a3 Y) := hy4
        have HK4 : Hid (Hks wr b2 s.L) := KL.out.below hb'
        have HI4 : Hid (Ints wr g2 s.W) := IW.out.below hb'
        have HL4 : Hid (Hks wr la l) := SL3.out.below hb'
        have HA4 : Hid (Strs wr aa xs) := SA3.out.below hb'
        have HB4 : Hid (Below w.heap.size w wr) := HB3.out.trans (hb'.mono HB3.out.size)
        obtain ⟨N, hN⟩ : ∃ N, nbs l = N := ⟨_, rfl⟩
        have HNB : Hid (nbs l = N) := hN
        rw [hN] at hnb ⊢
        clear hb' hx4 hy4 hN hbl SX KL IW SY SL3 SA3 HB3 HB
        have hcase : (fS = 0 ∧ (m : Int) + N ≤ 60) ∨ (fS = 0 ∧ ¬ (m : Int) + N ≤ 60) ∨ fS ≠ 0 := by omega
        rcases hcase with ⟨hf0, hroom⟩ | ⟨hf0, hroom⟩ | hf0
        case' inl =>
            subst hf0
            obtain rfl : vS = .nilIface := by rw [← HVS.out, errV_zero]
            have hst0 := stF_zero HFS.out
            have hrun := exact_run (fuzz := F1) (far := R1) HGD.out (clash_stand hst0.2.2.1) (by rw [HM.out, HNB.out]; omega)
            rw [HZ.out, HS.out] at hrun
            have e1 : s.A = Y := by rw [hrun, ← HY.out, stO_ok HFS.out]
            have e2 : xL = 0 := by rw [← HXL.out, hrun]; rfl
            have e3 : s.W = List.replicate k 0 := by rw [hrun]
            have htx := texts_eq a2 a3 s.A c2 c3 wr HX4.out (by rw [e1]; exact HY4.out) HAL.out
            have e4 : y = xA := by rw [← HXA.out, e1, HYL.out]
            rw [HXA.out] at htx
            rw [e4]
            have HIW : Hid (∀ j, j < k → s.W.getD j 0 = 0) := fun j hj => by rw [e3]; simp [hj]
            have hL0 : ((xL : Int) != 0) = false := by rw [e2]; rfl
            clear hst0 hrun e1 e2 e3 e4
            go_wp2_with (go_at_call 14; refine htx.mono ?_)
            rintro e w9 ⟨rfl, hb5⟩
            have HX9 : Hid (Strs w9 a2 s.A) := HX4.out.below hb5
            have HK9 : Hid (Hks w9 b2 s.L) := HK4.out.below hb5
            have HI9 : Hid (Ints w9 g2 s.W) := HI4.out.below hb5
            have HL9 : Hid (Hks w9 la l) := HL4.out.below hb5
            have HA9 : Hid (Strs w9 aa xs) := HA4.out.below hb5
            have HB9 : Hid (Below w.heap.size w w9) := HB4.out.trans (hb5.mono HB4.out.size)
            clear htx hb5 HX4 HY4 HK4 HI4 HL4 HA4 HB4
            go_wp2
            go_loop [23] (fun i => ∃ j : Nat, j ≤ k ∧ i = .int .i64 j) (fun i => k - (intOf i).toNat)
            case' atStart => exact ⟨0, Nat.zero_le _, rfl⟩
            case' round =>
              obtain ⟨j, hj, rfl⟩ := hrel
              by_cases hlt2 : j < k
              case' pos =>
                have hi := HI9.out
                obtain ⟨b, off, rfl, hc⟩ := hi j (by rw [HWL.out]; exact hlt2)
                rw [HIW.out j hlt2] at hc
                clear hi
                go_wp2
                go_round
                case rel => exact ⟨j + 1, by omega, by go_num⟩
                case measure => simp [intOf]; omega
              case' neg =>
                clear HIW
                go_wp2_with fail
        case' inr.inl =>
            subst hf0
            obtain rfl : vS = .nilIface := by rw [← HVS.out, errV_zero]
            obtain ⟨w9, rfl⟩ : ∃ w9, w9 = wr := ⟨_, rfl⟩
            have HX9 := HX4
            have HK9 := HK4
            have HI9 := HI4
            have HL9 := HL4
            have HA9 := HA4
            have HB9 := HB4
            clear HX4 HY4 HK4 HI4 HL4 HA4 HB4
            go_wp2_with fail
        case' inr.inr =>
          have hv : vS = .iface 57 (.int .i64 fS) := by rw [← HVS.out, errV_not hf0]
          subst hv
          obtain ⟨w9, rfl⟩ : ∃ w9, w9 = wr := ⟨_, rfl⟩
          have HX9 := HX4
          have HK9 := HK4
          have HI9 := HI4
          have HL9 := HL4
          have HA9 := HA4
          have HB9 := HB4
          clear HX4 HY4 HK4 HI4 HL4 HA4 HB4 hf0
          go_wp2_with fail
        all_goals
          obtain ⟨B9, hB9⟩ : ∃ B9, w9.heap.size = B9 := ⟨_, rfl⟩
          have HZ9 : Hid (w9.heap.size = B9) := hB9
          clear hB9
          go_loopw [24, 25, 26] (fun v i _ w1 => ∃ j : Nat, j ≤ k ∧ i = .int .i64 j ∧ v = .int .i64 (lrun F1 R1 xs l j).L.length ∧ Below B9 w9 w1) (fun _ i _ _ => k - (intOf i).toNat)
          case atStart => exact ⟨0, Nat.zero_le _, rfl, rfl, Below.refl _ _⟩
          case round =>
            obtain ⟨j, hj, rfl, rfl, hbl⟩ := hrel
            have hb' : Below w9.heap.size w9 wr := by rw [HZ9.out]; exact hbl
            have hzr : B9 ≤ wr.heap.size := by have := hbl.size; have := HZ9.out; omega
            have hokj := (HSM.out j (by rw [HZ.out]; exact hj)).ll
            by_cases hlt2 : j < k
            · have hra := run_at (HSM.out j (by rw [HZ.out]; exact hj)) (by rw [HZ.out]; exact hlt2) hR60
              rw [HZ.out, HS.out] at hra
              have hi := HI9.out
              obtain ⟨gb9, go9, rfl, hcw⟩ := hi j (by rw [HWL.out]; exact hlt2)
              replace hcw := cell_later hb' hcw
              clear hi
              obtain ⟨d, hd⟩ : ∃ d, s.W.getD j 0 = d := ⟨_, rfl⟩
              obtain ⟨c, hc⟩ : ∃ c, (lrun F1 R1 xs l j).L.length = c := ⟨_, rfl⟩
              rw [hd] at hra hcw
              rw [hc] at hra hokj ⊢
              rw [HXL.out] at hra
              clear hd hc
              rcases hra with ⟨rfl, r2, r3, r4⟩ | ⟨r1, r2, r3, r4⟩
              · have R4 : Hid ((lrun F1 R1 xs l (j + 1)).L.length = c + 1) := r4
                have r2' : ¬ ((xL : Int) ≤ c) := by omega
                have hkl := HK9.out
                have hll9 := HL9.out
                obtain ⟨bb1, o1, am1, cm1, rfl, x1, x2, x3, mk1⟩ := hkl.at (i := c) (by rw [HXL.out]; exact r2)
                obtain ⟨bb2, o2, am2, cm2, rfl, y1, y2, y3, mk2⟩ := hll9.at (i := j) (by rw [HZ.out]; exact hlt2)
                clear hkl hll9
                rw [r3] at x1 x2 x3 mk1
                replace x1 := cell_later hb' x1
                replace x2 := cell_later hb' x2
                replace x3 := cell_later hb' x3
                replace y1 := cell_later hb' y1
                replace y2 := cell_later hb' y2
                replace y3 := cell_later hb' y3
                have hdr : Below w9.heap.size wr wr.drew := ⟨rfl, rfl, rfl, Nat.le_refl _, fun _ _ => rfl⟩
                have hml := H00.out _ (hk_mem (show j < l.length by rw [HZ.out]; exact hlt2))
                obtain ⟨H, hH⟩ : ∃ H, l.getD j (0, 0, []) = H := ⟨_, rfl⟩
                rw [hH] at x1 x2 x3 y1 y2 y3 mk1 mk2 hml
                obtain ⟨o, p, ms⟩ := H
                dsimp only at x1 x2 x3 y1 y2 y3 mk1 mk2 hml
                have hheq := hunk_eq o p am1 am2 ms cm1 cm2 wr.drew (mk1.below (hb'.trans hdr)) (mk2.below (hb'.trans hdr)) hml
                obtain ⟨q, hq⟩ : ∃ q, ms.length = q := ⟨_, rfl⟩
                rw [hq] at x3 y3 hheq
                clear r3 r4 hH hml hdr mk1 mk2 hq hb'
                go_wp2
                go_region_with (go_at_call 18; refine hheq.mono ?_; rintro e w10 ⟨rfl, hb10⟩)
                all_goals
                  have hb11 : Below B9 w9 w10 := (hbl.trans (show Below B9 wr wr.drew from ⟨rfl, rfl, rfl, Nat.le_refl _, fun _ _ => rfl⟩)).trans (hb10.mono hzr)
                  clear hheq hb10
                  go_wp2
                  go_roundw
                  case rel => exact ⟨j + 1, by omega, by go_num, by rw [R4.out]; go_num, hb11⟩
                  case measure => simp [intOf]; omega
              · have R4 : Hid ((lrun F1 R1 xs l (j + 1)).L.length = c) := r4
                have r1' : (d == -1000) = false := by simpa using r1
                have r2' : ¬ (d < -(R1 : Int)) := by omega
                have r3' : ¬ ((R1 : Int) < d) := by omega
                clear r1 r4
                go_wp2
                go_roundw
                case rel => exact ⟨j + 1, by omega, by go_num, by rw [R4.out], hbl⟩
                case measure => simp [intOf]; omega
            · obtain rfl : j = k := by omega
              rw [HS.out, HXL.out]
              have htx := textsAny a2 aa s.A xs c2 ca wr (HX9.out.below hb') (HA9.out.below hb') HAL.out
              rw [HXA.out, HM.out] at htx
              have hall : xL = j → decide (s.A = xs) = true := fun h => decide_eq_true (HOKZ.out.all (by rw [HXL.out]; exact h))
              obtain ⟨bb, hbb⟩ : ∃ bb, decide (s.A = xs) = bb := ⟨_, rfl⟩
              rw [hbb] at htx hall
              have hbw := HB9.out.trans (hb'.mono HB9.out.size)
              have HALL : Hid (xL = j → bb = true) := hall
              clear hbb hall hokj
              go_wp2_with (go_at_call 14; refine htx.mono ?_)
              rintro e w10 ⟨rfl, hb10⟩
              have hb11 := hbw.trans (hb10.mono hbw.size)
              clear htx hb10 hbw hb'
              by_cases hxj : xL < j
              · have hxj' : (xL : Int) < j := by omega
                go_wp2
                go_ret
                exact ⟨rfl, hb11⟩
              · have hxj' : ¬ (xL : Int) < j := by omega
                have hbt := HALL.out (by omega)
                subst hbt
                go_wp2
                go_ret
                exact ⟨rfl, hb11⟩
  · rw [errV_not hlc] at hlo
    obtain ⟨f, hf'⟩ : ∃ f, lcF xs l fuzz far = f := ⟨_, rfl⟩
    rw [hf'] at hlo
    clear hf' hlc HST
    go_wp2_with (go_at_call 16; refine hlo.mono ?_)
    rintro e w2 ⟨a2, c2, b2, cb2, g2, cg2, rfl, hb2, _, _, _⟩
    have hb2 := hb1.trans (hb2.mono hb1.size)
    clear hlo hb1 hgc
    go_wp2
    go_ret
    exact ⟨rfl, hb2⟩

end Go.Proofs.Ythcgbbfejdkgaab
