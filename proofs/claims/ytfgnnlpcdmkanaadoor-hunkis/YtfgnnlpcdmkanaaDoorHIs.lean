/-
  Walk of the law HunkIs: it returns true and writes nothing that was there.
-/
import Derived.Test.YtfgnnlpcdmkanaaDoorHMk
import Derived.Test.YtfgnnlpcdmkanaaDoorRefH
import Derived.Test.YtfgnnlpcdmkanaaDoorRefX
import Derived.Test.YtfgnnlpcdmkanaaDoorTold3
import Derived.Deep.CutRange

namespace Go.Proofs.YtfgnnlpcdmkanaaDoor
open Go.RowKit Dist

theorem refTurnI (a : Option Addr) (l : List (Int × Int × List (Int × ByteArray))) (ca : Nat) (w : World) (ha : Hks w a l) (h : (hf l).2 = 0) :
    Calls Tryd.prog 30 #[.slice a l.length ca] w fun e w' => ∃ a' c', e = .returned (.slice a' (tOfH l).length c') ∧ Below w.heap.size w w' ∧ Hks w' a' (tOfH l) := by
  unfold tOfH
  rw [if_pos h]
  exact (refTurn a l ca w ha h).mono fun e w' ⟨v, he, hb, ho⟩ => by
    obtain ⟨a', cap, rfl, hk⟩ := ho.hks
    exact ⟨a', cap, he, hb, hk⟩

theorem refCutI (a : Option Addr) (ms : List (Int × ByteArray)) (ca : Nat) (n : Int) (w : World) (ha : Mks w a ms) (hca : ms.length ≤ ca) (h : cf ms n = 0) :
    Calls Tryd.prog 33 #[.slice a ms.length ca, .int .i64 n] w fun e w' => ∃ a' c', e = .returned (.slice a' (cOfH ms n).length c') ∧ Below w.heap.size w w' ∧ Hks w' a' (cOfH ms n) := by
  unfold cOfH
  rw [if_pos h]
  obtain ⟨N, rfl⟩ := Int.eq_ofNat_of_zero_le (cf_zero h).2.1
  exact (refCut a ms ca N w ha hca h).mono fun e w' ⟨v, he, hb, ho⟩ => by
    obtain ⟨a', cap, rfl, hk⟩ := ho.hks
    exact ⟨a', cap, he, hb, hk⟩

theorem ff_parts (xs ys : List ByteArray) : ff xs ys = if lsf (bts xs) = 0 then lsf (bts ys) else lsf (bts xs) := rfl

set_option maxRecDepth 100000 in
set_option maxHeartbeats 8000000 in
theorem hunkIs_any (la sa aa ba : Option Addr) (l : List (Int × Int × List (Int × ByteArray))) (ms : List (Int × ByteArray)) (xs ys : List ByteArray) (cl cs ca cb : Nat) (n : Int) (w : World)
    (hl : Hks w la l) (hs : Mks w sa ms) (ha : Strs w aa xs) (hb : Strs w ba ys) (h0 : l.length ≤ maxLen) (h00 : ∀ h ∈ l, h.2.2.length ≤ maxLen) (h000 : ∀ h ∈ l, ∀ m ∈ h.2.2, m.2.size ≤ maxLen) (h3 : ms.length ≤ maxLen) (h1 : xs.length ≤ maxLen) (h2 : ys.length ≤ maxLen)
    (g3 : ∀ m ∈ ms, m.2.size ≤ maxLen) (g1 : ∀ x ∈ xs, x.size ≤ maxLen) (g2 : ∀ x ∈ ys, x.size ≤ maxLen) (hcs : ms.length ≤ cs) (hg : TypeLaid w) :
    Calls Tryd.prog 6 #[.slice la l.length cl, .slice sa ms.length cs, .int .i64 n, .slice aa xs.length ca, .slice ba ys.length cb] w fun e w' => e = .returned (.bool true) ∧ Below w.heap.size w w' := by
  have hrf := refHunks la l cl w hl h0 h00 h000
  have HCK := fun w h => hunkCheck la l cl w h h0 h00
  have HTU := fun w h => turnAny la l cl w h h0 h00
  have HRT := fun w h (e : (hf l).2 = 0) => refTurn la l cl w h e
  have HSF := fun w h => scriptFault sa ms cs w h h3 g3
  have HCU := fun w h => cutAny sa ms cs n w h h3 hcs
  have HLA := fun w h => linesFault aa xs ca w h h1 g1
  have HLB := fun w h => linesFault ba ys cb w h h2 g2
  have HMA := fun w h h' => makeAny aa ba xs ys ca cb n w h h' h1 h2
  have SL : Hid (Hks w la l) := hl
  have SS : Hid (Mks w sa ms) := hs
  have SA : Hid (Strs w aa xs) := ha
  have SB : Hid (Strs w ba ys) := hb
  have HG : Hid (TypeLaid w) := hg
  have HCS : Hid (ms.length ≤ cs) := hcs
  have T1 : Hid ((tOfH l).length ≤ maxLen ∧ ∀ x ∈ tOfH l, x.2.2.length ≤ maxLen) := tOfH_small l
  have T2 : Hid ((cOfH ms n).length ≤ maxLen ∧ ∀ x ∈ cOfH ms n, x.2.2.length ≤ maxLen) := cOfH_small ms n
  have T3 : Hid ((mOfH xs ys n).length ≤ maxLen ∧ ∀ x ∈ mOfH xs ys n, x.2.2.length ≤ maxLen) := mOfH_small xs ys n
  have E1 : Hid ((hf l).2 = 0 → tOfH l = trn l) := fun h => by unfold tOfH; rw [if_pos h]
  have E1' : Hid ((hf l).2 ≠ 0 → tOfH l = []) := fun h => by unfold tOfH; rw [if_neg h]
  obtain ⟨z, hz⟩ : ∃ z, l.length = z := ⟨_, rfl⟩
  obtain ⟨q, hq⟩ : ∃ q, ms.length = q := ⟨_, rfl⟩
  obtain ⟨m1, hm1⟩ : ∃ m, xs.length = m := ⟨_, rfl⟩
  obtain ⟨m2, hm2⟩ : ∃ m, ys.length = m := ⟨_, rfl⟩
  obtain ⟨k, hk⟩ : ∃ k, (hf l).1 = k := ⟨_, rfl⟩
  obtain ⟨f, hf'⟩ : ∃ f, (hf l).2 = f := ⟨_, rfl⟩
  obtain ⟨v, hv⟩ : ∃ v, errV f = v := ⟨_, rfl⟩
  have HV : Hid (errV f = v) := hv
  have HQ : Hid (ms.length = q) := hq
  have HM1 : Hid (xs.length = m1) := hm1
  have HM2 : Hid (ys.length = m2) := hm2
  obtain ⟨D, hD⟩ : ∃ D, tOfH l = D := ⟨_, rfl⟩
  obtain ⟨zd, hzd⟩ : ∃ zd, D.length = zd := ⟨_, rfl⟩
  have HZD : Hid (D.length = zd) := hzd
  rw [hD] at HTU T1 E1 E1'
  rw [hzd] at HTU
  rw [hz, hk, hf'] at hrf
  rw [hk, hf', hv] at HCK
  rw [hf', hv] at HTU
  rw [hf'] at HRT E1 E1'
  rw [hz] at HCK HTU HRT
  rw [hq] at HSF HCU
  rw [hm1] at HLA HMA
  rw [hm2] at HLB HMA
  rw [hz, hq, hm1, hm2]
  have H1L : Hid (xs.length ≤ maxLen) := h1
  have CF : Hid (∀ e2, (if sf ms ≠ 0 then sf ms else if n < 0 ∨ 1000 < n then 1 else 0) = e2 → cf ms n = if e2 ≠ 0 then e2 else if 60 < ob ms ∨ 60 < nb ms then 3 else 0) := fun e2 h => by
    unfold cf
    by_cases a1 : sf ms = 0
    · rw [if_neg (fun x => x a1)] at h ⊢
      by_cases a2 : n < 0 ∨ 1000 < n
      · rw [if_pos a2] at h ⊢; rw [← h]; rfl
      · rw [if_neg a2] at h ⊢; rw [← h]; rfl
    · rw [if_pos a1] at h ⊢; rw [← h, if_pos a1]
  have E2 : Hid (cf ms n = 0 → cOfH ms n = cut ms n.toNat) := fun h => by unfold cOfH; rw [if_pos h]
  have E2' : Hid (cf ms n ≠ 0 → cOfH ms n = []) := fun h => by unfold cOfH; rw [if_neg h]
  clear hl hs ha hb h0 h00 h000 h3 h1 h2 g3 g1 g2 hcs hg hz hq hm1 hm2 hk hf' hv hD hzd
  go_enter Tryd.func6, Tryd.ntmps6
  go_wp2_with (go_at_call 28; refine hrf.mono ?_)
  rintro e w1 ⟨rfl, hb1⟩
  clear hrf
  go_wp2_with (go_at_call 29; refine (HCK w1 (SL.out.below hb1)).mono ?_)
  rintro e w2 ⟨rfl, hb2⟩
  have hb2 := hb1.trans (hb2.mono hb1.size)
  clear HCK hb1
  have her := error_same f w2 (HG.out.below hb2)
  rw [HV.out] at her
  go_wp2_with (go_at_call 8; refine her.mono ?_)
  rintro e w3 ⟨rfl, hb3⟩
  have hb3 := hb2.trans (hb3.mono hb2.size)
  clear her hb2
  go_upto_if 40 with fail
  go_cut [16] from 19 (fun u wx => ∃ a' c', u = .slice a' zd c' ∧ Below w.heap.size w wx ∧ Hks wx a' D)
  case first =>
    by_cases hz : f = 0
    · have hrt := HRT w3 (SL.out.below hb3) hz
      rw [← E1.out hz] at hrt
      have hz' : (f == 0) = true := by simpa using hz
      clear hz
      go_wp2_with (go_at_call 30; refine hrt.mono ?_)
      rintro e w4 ⟨u, rfl, hb4, ho⟩
      obtain ⟨a', cap, rfl, hk4⟩ := ho.hks
      rw [HZD.out]
      have hb4 := hb3.trans (hb4.mono hb3.size)
      clear hrt
      go_wp2_with fail
      go_meet
      case rel => exact ⟨a', cap, rfl, hb4, hk4⟩
    · have hz' : (f == 0) = false := by simpa using hz
      have e1 := E1'.out hz
      have e2 : zd = 0 := by rw [← HZD.out, e1]; rfl
      clear hz
      go_wp2_with fail
      go_meet
      case rel => exact ⟨none, 0, by rw [e2], hb3, by rw [e1]; exact Hks.nil _ _⟩
  case rest =>
    obtain ⟨a4, c4, rfl, hb4, hk4⟩ := hcut
    clear HRT hb3 E1 E1'
    go_wp2_with (go_at_call 31; refine (HTU wc (SL.out.below hb4)).mono ?_)
    rintro e w5 ⟨a5, c5, rfl, hb5, hk5⟩
    have hk4 := hk4.below hb5
    have hb5 := hb4.trans (hb5.mono hb4.size)
    clear HTU hb4
    have her := error_same f w5 (HG.out.below hb5)
    rw [HV.out] at her
    go_wp2_with (go_at_call 8; refine her.mono ?_)
    rintro e w6 ⟨rfl, hb6⟩
    have hhe := hunks_eq a5 a4 D c5 c4 w6 (hk5.below hb6) (hk4.below hb6) T1.out.1 T1.out.2
    rw [HZD.out] at hhe
    have hb6 := hb5.trans (hb6.mono hb5.size)
    clear her hb5 hk4 hk5
    go_wp2_with (go_at_call 32; refine hhe.mono ?_)
    rintro e w7 ⟨rfl, hb7⟩
    have hb7 := hb6.trans (hb7.mono hb6.size)
    clear hhe hb6 T1 HZD HV
    have hsf := HSF w7 (SS.out.below hb7)
    obtain ⟨s1, hs1⟩ : ∃ s1, sf ms = s1 := ⟨_, rfl⟩
    have HS1 : Hid (sf ms = s1) := hs1
    rw [hs1] at hsf
    obtain ⟨e2, he2⟩ : ∃ e2, (if sf ms ≠ 0 then sf ms else if n < 0 ∨ 1000 < n then 1 else 0) = e2 := ⟨_, rfl⟩
    have HCF := CF.out e2 he2
    rw [hs1] at he2
    have HE2 : Hid ((if s1 ≠ 0 then s1 else if n < 0 ∨ 1000 < n then 1 else 0) = e2) := he2
    have HCF2 : Hid (cf ms n = if e2 ≠ 0 then e2 else if 60 < ob ms ∨ 60 < nb ms then 3 else 0) := HCF
    clear hs1 he2 HCF CF HSF
    go_wp2_with (go_at_call 17; refine hsf.mono ?_)
    rintro e w8 ⟨rfl, hw8⟩
    rw [hw8]
    clear hsf hw8
    obtain ⟨b2, hb2⟩ : ∃ b2, (decide (s1 = 0) && (decide (n < 0) || decide (1000 < n))) = b2 := ⟨_, rfl⟩
    have HB2 : Hid ((decide (s1 = 0) && (decide (n < 0) || decide (1000 < n))) = b2) := hb2
    clear hb2
    go_upto_region 15 with fail
    go_cut [71] from 19 (fun u wx => u = .bool b2 ∧ wx = w7)
    case first =>
      by_cases a1 : s1 = 0
      · subst a1
        by_cases a2 : n < 0
        · obtain rfl : b2 = true := by rw [← HB2.out]; simp [a2]
          clear HB2
          go_wp2_with fail
          go_meet
          case rel => exact ⟨rfl, rfl⟩
        · by_cases a3 : 1000 < n
          · obtain rfl : b2 = true := by rw [← HB2.out]; simp [a3]
            clear HB2
            go_wp2_with fail
            go_meet
            case rel => exact ⟨rfl, rfl⟩
          · obtain rfl : b2 = false := by rw [← HB2.out]; simp; omega
            clear HB2
            go_wp2_with fail
            go_meet
            case rel => exact ⟨rfl, rfl⟩
      · obtain rfl : b2 = false := by rw [← HB2.out]; simp [a1]
        have a1' : (s1 == 0) = false := by simpa using a1
        clear a1 HB2
        go_wp2_with fail
        go_meet
        case rel => exact ⟨rfl, rfl⟩
    case rest =>
      obtain ⟨rfl, rfl⟩ := hcut
      obtain ⟨wA, rfl⟩ : ∃ wA, wA = wc := ⟨_, rfl⟩
      have EB : Hid ((b2 = true → e2 = 1) ∧ (b2 = false → e2 = s1)) := by
        refine ⟨fun h => ?_, fun h => ?_⟩
        · have h1 := HB2.out
          rw [h] at h1
          simp at h1
          rw [← HE2.out, if_neg (fun x => x h1.1), if_pos h1.2]
        · have h1 := HB2.out
          rw [h] at h1
          rw [← HE2.out]
          by_cases e : s1 = 0
          · rw [if_neg (fun x => x e), if_neg (fun x => by simp [e] at h1; omega), e]
          · rw [if_pos e]
      have hs0 : Hid (e2 = 0 → sf ms = 0) := fun h => by
        rw [HS1.out]
        by_cases e : s1 = 0
        · exact e
        · have := HE2.out; rw [if_pos e] at this; rw [this]; exact h
      clear HB2 HE2 HS1
      go_upto_if 71 with fail
      go_cut [12] from 19 (fun u wx => u = .int .i64 e2 ∧ wx = wA)
      case first =>
        cases b2
        · have e := EB.out.2 rfl
          go_wp2_with fail
          go_meet
          case rel => exact ⟨by rw [e], rfl⟩
        · have e := EB.out.1 rfl
          go_wp2_with fail
          go_meet
          case rel => exact ⟨by rw [e], rfl⟩
      case rest =>
        obtain ⟨rfl, rfl⟩ := hcut
        obtain ⟨wA, rfl⟩ : ∃ wA, wA = wc := ⟨_, rfl⟩
        clear EB
        obtain ⟨k1, hk1⟩ : ∃ k, ob ms = k := ⟨_, rfl⟩
        obtain ⟨k2, hk2⟩ : ∃ k, nb ms = k := ⟨_, rfl⟩
        obtain ⟨cv, hcv⟩ : ∃ cv, cf ms n = cv := ⟨_, rfl⟩
        have HCV : Hid (cf ms n = cv) := hcv
        have OL := fun (h0 : sf ms = 0) => oldC sa ms cs wA (SS.out.below hb7) h0
        have NW := fun w h (h0 : sf ms = 0) => newC sa ms cs w h h0
        rw [HQ.out, hk1] at OL
        rw [HQ.out, hk2] at NW
        rw [hk1, hk2, hcv] at HCF2
        rw [hcv] at HCU E2 E2'
        clear hk1 hk2 hcv
        obtain ⟨b3, hb3⟩ : ∃ b3, (decide (e2 = 0) && (decide (60 < k1) || decide (60 < k2))) = b3 := ⟨_, rfl⟩
        have HB3 : Hid ((decide (e2 = 0) && (decide (60 < k1) || decide (60 < k2))) = b3) := hb3
        clear hb3
        go_upto_region 17 with fail
        go_cut [85] from 19 (fun u wx => u = .bool b3 ∧ Below w.heap.size w wx)
        case first =>
          by_cases a1 : e2 = 0
          · have ol := OL (hs0.out a1)
            have nw := fun w h => NW w h (hs0.out a1)
            subst a1
            clear OL NW
            by_cases b1 : 60 < k1
            · obtain rfl : b3 = true := by rw [← HB3.out]; simp [b1]
              clear HB3
              go_wp2_with (go_at_call 19; refine ol.mono ?_; rintro ev w9 ⟨a9, c9, rfl, hb9⟩)
              have hb9' := hb7.trans (hb9.mono hb7.size)
              go_meet
              case rel => exact ⟨rfl, hb9'⟩
            · by_cases b2 : 60 < k2
              · obtain rfl : b3 = true := by rw [← HB3.out]; simp [b2]
                clear HB3
                go_wp2_with (first | (go_at_call 19; refine ol.mono ?_; rintro ev w9 ⟨a9, c9, rfl, hb9⟩; have hb9' := hb7.trans (hb9.mono hb7.size)) | (go_at_call 20; refine (nw w9 (SS.out.below hb9')).mono ?_; rintro ev w10 ⟨a10, c10, rfl, hb10⟩))
                have hb10' := hb9'.trans (hb10.mono hb9'.size)
                go_meet
                case rel => exact ⟨by rw [show (decide (60 < (k1 : Int)) || decide (60 < (k2 : Int))) = true by simp; omega], hb10'⟩
              · obtain rfl : b3 = false := by rw [← HB3.out]; simp; omega
                clear HB3
                go_wp2_with (first | (go_at_call 19; refine ol.mono ?_; rintro ev w9 ⟨a9, c9, rfl, hb9⟩; have hb9' := hb7.trans (hb9.mono hb7.size)) | (go_at_call 20; refine (nw w9 (SS.out.below hb9')).mono ?_; rintro ev w10 ⟨a10, c10, rfl, hb10⟩))
                have hb10' := hb9'.trans (hb10.mono hb9'.size)
                go_meet
                case rel => exact ⟨by rw [show (decide (60 < (k1 : Int)) || decide (60 < (k2 : Int))) = false by simp; omega], hb10'⟩
          · obtain rfl : b3 = false := by rw [← HB3.out]; simp [a1]
            have a1' : (e2 == 0) = false := by simpa using a1
            clear a1 HB3 OL NW
            go_wp2_with fail
            go_meet
            case rel => exact ⟨rfl, hb7⟩
        case rest =>
          obtain ⟨rfl, hb8⟩ := hcut
          obtain ⟨wA', rfl⟩ : ∃ wA', wA' = wc := ⟨_, rfl⟩
          have EB : Hid ((b3 = true → cv = 3) ∧ (b3 = false → cv = e2)) := by
            refine ⟨fun h => ?_, fun h => ?_⟩
            · have h1 := HB3.out
              rw [h] at h1
              simp at h1
              rw [HCF2.out, if_neg (fun x => x h1.1), if_pos h1.2]
            · have h1 := HB3.out
              rw [h] at h1
              rw [HCF2.out]
              by_cases e : e2 = 0
              · rw [if_neg (fun x => x e), if_neg (fun x => by simp [e] at h1; omega), e]
              · rw [if_pos e]
          clear HB3 HCF2 OL NW hb7 hs0
          go_upto_if 85 with fail
          go_cut [12] from 19 (fun u wx => u = .int .i64 cv ∧ wx = wA')
          case first =>
            cases b3
            · have e := EB.out.2 rfl
              go_wp2_with fail
              go_meet
              case rel => exact ⟨by rw [e], rfl⟩
            · have e := EB.out.1 rfl
              go_wp2_with fail
              go_meet
              case rel => exact ⟨by rw [e], rfl⟩
          case rest =>
            obtain ⟨rfl, rfl⟩ := hcut
            obtain ⟨wB, rfl⟩ : ∃ wB, wB = wc := ⟨_, rfl⟩
            clear EB
            have HRC := fun w h (e : cf ms n = 0) => refCutI sa ms cs n w h HCS.out e
            obtain ⟨C, hC⟩ : ∃ C, cOfH ms n = C := ⟨_, rfl⟩
            obtain ⟨zc, hzc⟩ : ∃ zc, C.length = zc := ⟨_, rfl⟩
            obtain ⟨vc, hvc⟩ : ∃ vc, errV cv = vc := ⟨_, rfl⟩
            have HZC : Hid (C.length = zc) := hzc
            have HVC : Hid (errV cv = vc) := hvc
            rw [hC] at HRC HCU T2 E2'
            rw [hzc] at HRC HCU
            rw [HQ.out, HCV.out] at HRC
            rw [hvc] at HCU
            clear hC hzc hvc E2
            go_upto_if 87 with fail
            go_cut [16] from 19 (fun u wx => ∃ a' c', u = .slice a' zc c' ∧ Below w.heap.size w wx ∧ Hks wx a' C)
            case first =>
              by_cases hz : cv = 0
              · have hrc := HRC wB (SS.out.below hb8) hz
                subst hz
                clear HRC
                go_wp2_with (go_at_call 33; refine hrc.mono ?_; rintro e w9 ⟨a9, c9, rfl, hb9, hk9⟩)
                have hb9' := hb8.trans (hb9.mono hb8.size)
                go_meet
                case rel => exact ⟨a9, c9, rfl, hb9', hk9⟩
              · have hz' : (cv == 0) = false := by simpa using hz
                have e1 := E2'.out hz
                have e2 : zc = 0 := by rw [← HZC.out, e1]; rfl
                clear hz HRC
                go_wp2_with fail
                go_meet
                case rel => exact ⟨none, 0, by rw [e2], hb8, by rw [e1]; exact Hks.nil _ _⟩
            case rest =>
              obtain ⟨a9, c9, rfl, hb9, hk9⟩ := hcut
              obtain ⟨wC, rfl⟩ : ∃ wC, wC = wc := ⟨_, rfl⟩
              clear HRC hb8 E2'
              go_wp2_with (go_at_call 34; refine (HCU wC (SS.out.below hb9)).mono ?_)
              rintro e w10 ⟨a10, c10, rfl, hb10, hk10⟩
              have hk9 := hk9.below hb10
              have hb10 := hb9.trans (hb10.mono hb9.size)
              clear HCU hb9
              have her := error_same cv w10 (HG.out.below hb10)
              rw [HVC.out] at her
              go_wp2_with (go_at_call 8; refine her.mono ?_)
              rintro e w11 ⟨rfl, hb11⟩
              have hhe := hunks_eq a10 a9 C c10 c9 w11 (hk10.below hb11) (hk9.below hb11) T2.out.1 T2.out.2
              rw [HZC.out] at hhe
              have hb11 := hb10.trans (hb11.mono hb10.size)
              clear her hb10 hk9 hk10
              go_wp2_with (go_at_call 32; refine hhe.mono ?_)
              rintro e w12 ⟨rfl, hb12⟩
              have hb12 := hb11.trans (hb12.mono hb11.size)
              clear hhe hb11 T2 HZC HVC HCV
              have hla := HLA w12 (SA.out.below hb12)
              have hlb := HLB w12 (SB.out.below hb12)
              have HFF := ff_parts xs ys
              have HRM := fun w h h' (e : ff xs ys = 0) => refScriptCap aa ba xs ys ca cb w h h' (lsf_len (ff_zero e).1) (lsf_len (ff_zero e).2)
              have HRK := fun a c w (h : Mks w a (scr xs ys)) (h' : (scr xs ys).length ≤ c) (e : ff xs ys = 0) (e' : mkf xs ys n = 0) => refCutI a (scr xs ys) c n w h h' (by rw [scr_cf e]; exact e')
              have HMO : Hid (ff xs ys = 0 → mOfH xs ys n = cOfH (scr xs ys) n) := mOfH_eq
              have HMZ : Hid (mkf xs ys n ≠ 0 → mOfH xs ys n = []) := fun h => by unfold mOfH; rw [if_neg h]
              have HMF : Hid (mkf xs ys n = if ff xs ys ≠ 0 then ff xs ys else if n < 0 ∨ 1000 < n then 1 else 0) := rfl
              obtain ⟨p1, hp1⟩ : ∃ p1, lsf (bts xs) = p1 := ⟨_, rfl⟩
              obtain ⟨p2, hp2⟩ : ∃ p2, lsf (bts ys) = p2 := ⟨_, rfl⟩
              obtain ⟨fv, hfv⟩ : ∃ fv, ff xs ys = fv := ⟨_, rfl⟩
              obtain ⟨mv, hmv⟩ : ∃ mv, mkf xs ys n = mv := ⟨_, rfl⟩
              obtain ⟨vm, hvm⟩ : ∃ vm, errV mv = vm := ⟨_, rfl⟩
              obtain ⟨M, hM⟩ : ∃ M, mOfH xs ys n = M := ⟨_, rfl⟩
              obtain ⟨zm, hzm⟩ : ∃ zm, M.length = zm := ⟨_, rfl⟩
              obtain ⟨ks, hks⟩ : ∃ ks, scr xs ys = ks := ⟨_, rfl⟩
              have HZM : Hid (M.length = zm) := hzm
              have HVM : Hid (errV mv = vm) := hvm
              rw [hp1, hp2, hfv] at HFF
              have HFF2 : Hid (fv = if p1 = 0 then p2 else p1) := HFF
              rw [hp1] at hla
              rw [hp2] at hlb
              rw [hfv] at HRM HRK HMO HMF
              rw [hmv] at HRK HMZ HMF HMA
              rw [hvm] at HMA
              rw [hM] at HMA HMO HMZ T3
              rw [hzm] at HMA
              rw [hks] at HRM HRK HMO
              obtain ⟨lk, hlk⟩ : ∃ lk, ks.length = lk := ⟨_, rfl⟩
              rw [hlk] at HRM HRK
              obtain ⟨q1, hq1⟩ : ∃ q1, xs.length = q1 := ⟨_, rfl⟩
              obtain ⟨q2, hq2⟩ : ∃ q2, ys.length = q2 := ⟨_, rfl⟩
              rw [hq1, hq2] at HRM
              have HQ1 : Hid (m1 = q1) := by show m1 = q1; rw [← HM1.out]; exact hq1
              have HQ2 : Hid (m2 = q2) := by show m2 = q2; rw [← HM2.out]; exact hq2
              rw [← HQ1.out, ← HQ2.out] at HRM
              clear hp1 hp2 hfv hmv hvm hM hzm hks HFF hlk hq1 hq2 HLA HLB
              go_wp2_with (go_at_call 7; refine hla.mono ?_)
              rintro e w13 ⟨rfl, hw13⟩
              rw [hw13]
              clear hla hw13
              go_upto_if 112 with fail
              go_cut [12] from 19 (fun u wx => u = .int .i64 fv ∧ wx = w12)
              case first =>
                by_cases a1 : p1 = 0
                · have e1 : fv = p2 := by rw [HFF2.out, if_pos a1]
                  subst a1
                  go_wp2_with (go_at_call 7; refine hlb.mono ?_; rintro e w' ⟨rfl, hw⟩; rw [hw])
                  go_meet
                  case rel => exact ⟨by rw [e1], rfl⟩
                · have e1 : fv = p1 := by rw [HFF2.out, if_neg a1]
                  have a1' : (p1 == 0) = false := by simpa using a1
                  clear a1
                  go_wp2_with fail
                  go_meet
                  case rel => exact ⟨by rw [e1], rfl⟩
              case rest =>
                obtain ⟨rfl, rfl⟩ := hcut
                obtain ⟨wD, rfl⟩ : ∃ wD, wD = wc := ⟨_, rfl⟩
                clear HFF2 hlb
                obtain ⟨b4, hb4⟩ : ∃ b4, (decide (fv = 0) && (decide (n < 0) || decide (1000 < n))) = b4 := ⟨_, rfl⟩
                have HB4 : Hid ((decide (fv = 0) && (decide (n < 0) || decide (1000 < n))) = b4) := hb4
                clear hb4
                go_upto_region 30 with fail
                go_cut [124] from 19 (fun u wx => u = .bool b4 ∧ wx = wD)
                case first =>
                  by_cases a1 : fv = 0
                  · subst a1
                    by_cases a2 : n < 0
                    · obtain rfl : b4 = true := by rw [← HB4.out]; simp [a2]
                      clear HB4
                      go_wp2_with fail
                      go_meet
                      case rel => exact ⟨rfl, rfl⟩
                    · by_cases a3 : 1000 < n
                      · obtain rfl : b4 = true := by rw [← HB4.out]; simp [a3]
                        clear HB4
                        go_wp2_with fail
                        go_meet
                        case rel => exact ⟨rfl, rfl⟩
                      · obtain rfl : b4 = false := by rw [← HB4.out]; simp; omega
                        clear HB4
                        go_wp2_with fail
                        go_meet
                        case rel => exact ⟨rfl, rfl⟩
                  · obtain rfl : b4 = false := by rw [← HB4.out]; simp [a1]
                    have a1' : (fv == 0) = false := by simpa using a1
                    clear a1 HB4
                    go_wp2_with fail
                    go_meet
                    case rel => exact ⟨rfl, rfl⟩
                case rest =>
                  obtain ⟨rfl, rfl⟩ := hcut
                  obtain ⟨wE, rfl⟩ : ∃ wE, wE = wc := ⟨_, rfl⟩
                  have EB : Hid ((b4 = true → mv = 1) ∧ (b4 = false → mv = fv)) := by
                    refine ⟨fun h => ?_, fun h => ?_⟩
                    · have h1 := HB4.out
                      rw [h] at h1
                      simp at h1
                      rw [HMF.out, if_neg (fun x => x h1.1), if_pos h1.2]
                    · have h1 := HB4.out
                      rw [h] at h1
                      rw [HMF.out]
                      by_cases e : fv = 0
                      · rw [if_neg (fun x => x e), if_neg (fun x => by simp [e] at h1; omega), e]
                      · rw [if_pos e]
                  have HZF : Hid (mv = 0 → fv = 0) := fun h => by
                    have h1 := HMF.out
                    by_cases e : fv = 0
                    · exact e
                    · rw [if_pos e] at h1; rw [← h1]; exact h
                  clear HB4 HMF
                  go_upto_if 124 with fail
                  go_cut [12] from 19 (fun u wx => u = .int .i64 mv ∧ wx = wE)
                  case first =>
                    cases b4
                    · have e := EB.out.2 rfl
                      go_wp2_with fail
                      go_meet
                      case rel => exact ⟨by rw [e], rfl⟩
                    · have e := EB.out.1 rfl
                      go_wp2_with fail
                      go_meet
                      case rel => exact ⟨by rw [e], rfl⟩
                  case rest =>
                    obtain ⟨rfl, rfl⟩ := hcut
                    obtain ⟨wF, rfl⟩ : ∃ wF, wF = wc := ⟨_, rfl⟩
                    clear EB
                    go_upto_if 126 with fail
                    go_cut [16] from 19 (fun u wx => ∃ a' c', u = .slice a' zm c' ∧ Below w.heap.size w wx ∧ Hks wx a' M)
                    case first =>
                      by_cases hz : mv = 0
                      · have hf0 := HZF.out hz
                        have hrm := HRM wF (SA.out.below hb12) (SB.out.below hb12) hf0
                        have HRK2 := fun a c w h h' => HRK a c w h h' hf0 hz
                        rw [← HMO.out hf0, HZM.out] at HRK2
                        subst hz
                        clear HRM HRK hf0
                        go_wp2_with (first | (go_at_call 23; refine hrm.mono ?_; rintro e w14 ⟨a14, c14, rfl, hk14, hb14, hc14⟩; have hb14' := hb12.trans (hb14.mono hb12.size)) | (go_at_call 33; refine (HRK2 a14 c14 w14 hk14 hc14).mono ?_; rintro e w15 ⟨a15, c15, rfl, hb15, hk15⟩))
                        have hb15' := hb14'.trans (hb15.mono hb14'.size)
                        go_meet
                        case rel => exact ⟨a15, c15, rfl, hb15', hk15⟩
                      · have hz' : (mv == 0) = false := by simpa using hz
                        have e1 := HMZ.out hz
                        have e2 : zm = 0 := by rw [← HZM.out, e1]; rfl
                        clear hz HRM HRK
                        go_wp2_with fail
                        go_meet
                        case rel => exact ⟨none, 0, by rw [e2], hb12, by rw [e1]; exact Hks.nil _ _⟩
                    case rest =>
                      obtain ⟨a15, c15, rfl, hb15, hk15⟩ := hcut
                      obtain ⟨wG, rfl⟩ : ∃ wG, wG = wc := ⟨_, rfl⟩
                      clear HRM HRK hb12 HMZ HMO HZF
                      go_wp2_with (go_at_call 35; refine (HMA wG (SA.out.below hb15) (SB.out.below hb15)).mono ?_)
                      rintro e w16 ⟨a16, c16, rfl, hb16, hk16⟩
                      have hk15 := hk15.below hb16
                      have hb16 := hb15.trans (hb16.mono hb15.size)
                      clear HMA hb15
                      have her := error_same mv w16 (HG.out.below hb16)
                      rw [HVM.out] at her
                      go_wp2_with (go_at_call 8; refine her.mono ?_)
                      rintro e w17 ⟨rfl, hb17⟩
                      have hhe := hunks_eq a16 a15 M c16 c15 w17 (hk16.below hb17) (hk15.below hb17) T3.out.1 T3.out.2
                      rw [HZM.out] at hhe
                      have hb17 := hb16.trans (hb17.mono hb16.size)
                      clear her hb16 hk15 hk16
                      go_wp2_with (go_at_call 32; refine hhe.mono ?_)
                      rintro e w18 ⟨rfl, hb18⟩
                      have hb18 := hb17.trans (hb18.mono hb17.size)
                      clear hhe hb17
                      go_wp2
                      go_ret
                      exact ⟨rfl, hb18⟩

end Go.Proofs.YtfgnnlpcdmkanaaDoor
