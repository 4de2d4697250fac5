/-
  Walk of the law EditIs: it returns true and writes nothing that was there.
-/
import Derived.Test.YtapebgoddcoijaaDoorRefE
import Derived.Test.YtapebgoddcoijaaDoorRefS
import Derived.Test.YtapebgoddcoijaaDoorSame
import Derived.Test.YtapebgoddcoijaaDoorTold3
namespace Go.Proofs.YtapebgoddcoijaaDoor
open Go.RowKit Dist

theorem textsNil (w : World) : Calls Tryd.prog 13 #[.slice none 0 0, .slice none 0 0] w fun e w' => e = .returned (.bool true) ∧ Below w.heap.size w w' :=
  (texts_same none none [] [] 0 0 w (fun i hi => absurd hi (by simp)) (fun i hi => absurd hi (by simp)) rfl (by simp)).mono fun e w' ⟨he, q, hw⟩ => ⟨by rw [he]; rfl, by rw [hw]; exact below_drawn (Below.refl _ _)⟩

theorem textsEq (a b : Option Addr) (xs : List ByteArray) (ca cb : Nat) (w : World) (ha : Strs w a xs) (hb : Strs w b xs) (hm : xs.length ≤ maxLen) :
    Calls Tryd.prog 13 #[.slice a xs.length ca, .slice b xs.length cb] w fun e w' => e = .returned (.bool true) ∧ Below w.heap.size w w' :=
  (texts_same a b xs xs ca cb w ha hb rfl hm).mono fun e w' ⟨he, q, hw⟩ => ⟨by rw [he, decide_eq_true rfl], by rw [hw]; exact below_drawn (Below.refl _ _)⟩

theorem marksNil (w : World) : Calls Tryd.prog 25 #[.slice none 0 0, .slice none 0 0] w fun e w' => e = .returned (.bool true) ∧ Below w.heap.size w w' :=
  marks_eq none none [] 0 0 w (fun i hi => absurd hi (by simp)) (fun i hi => absurd hi (by simp)) (by simp)

theorem errorNil (w : World) : Calls Tryd.prog 7 #[.nilIface, .int .i64 0] w fun ev w' => ev = .returned (.bool true) ∧ Below w.heap.size w w' :=
  (error_nil 0 w).mono fun ev w' ⟨he, hw⟩ => ⟨he, by rw [hw]; exact Below.refl _ _⟩

theorem errorIs (f : Int) (w : World) (hg : TypeLaid w) : Calls Tryd.prog 7 #[.iface 23 (.int .i64 f), .int .i64 f] w fun ev w' => ev = .returned (.bool true) ∧ Below w.heap.size w w' :=
  (error_err f f w hg).mono fun ev w' ⟨he, hb⟩ => ⟨by rw [he]; simp, hb⟩

set_option maxRecDepth 100000 in
set_option maxHeartbeats 1000000 in
theorem editIs_any (s a b : Option Addr) (ms : List (Int × ByteArray)) (xs ys : List ByteArray) (cs ca cb : Nat) (w : World) (hs : Mks w s ms) (ha : Strs w a xs) (hb : Strs w b ys) (h3 : ms.length ≤ maxLen) (h1 : xs.length ≤ maxLen) (h2 : ys.length ≤ maxLen)
    (g3 : ∀ m ∈ ms, m.2.size ≤ maxLen) (g1 : ∀ x ∈ xs, x.size ≤ maxLen) (g2 : ∀ x ∈ ys, x.size ≤ maxLen) (hg : TypeLaid w) :
    Calls Tryd.prog 5 #[.slice s ms.length cs, .slice a xs.length ca, .slice b ys.length cb] w fun e w' => e = .returned (.bool true) ∧ Below w.heap.size w w' := by
  have hsf := scriptFault s ms cs w hs h3 g3
  have hck := editCheck s ms cs w hs h3
  have SS : Hid (Mks w s ms) := hs
  have SA : Hid (Strs w a xs) := ha
  have SB : Hid (Strs w b ys) := hb
  have H1 : Hid (xs.length ≤ maxLen) := h1
  have H2 : Hid (ys.length ≤ maxLen) := h2
  have H3 : Hid (ms.length ≤ maxLen) := h3
  have G1 : Hid (∀ x ∈ xs, x.size ≤ maxLen) := g1
  have G2 : Hid (∀ x ∈ ys, x.size ≤ maxLen) := g2
  have HG : Hid (TypeLaid w) := hg
  obtain ⟨m, hm⟩ : ∃ m, xs.length = m := ⟨_, rfl⟩
  obtain ⟨n, hn⟩ : ∃ n, ys.length = n := ⟨_, rfl⟩
  obtain ⟨q, hq⟩ : ∃ q, ms.length = q := ⟨_, rfl⟩
  have HM : Hid (xs.length = m) := hm
  have HN : Hid (ys.length = n) := hn
  have HQ : Hid (ms.length = q) := hq
  obtain ⟨f, hf⟩ : ∃ f, sf ms = f := ⟨_, rfl⟩
  have HF : Hid (sf ms = f) := hf
  obtain ⟨v, hv⟩ : ∃ v, errV f = v := ⟨_, rfl⟩
  have HV : Hid (errV f = v) := hv
  rw [hq, hf] at hsf hck
  rw [hv] at hck
  rw [hm, hn, hq]
  clear hs ha hb h1 h2 h3 g1 g2 g3 hm hn hq hf hg hv
  go_enter Tryd.func5, Tryd.ntmps5
  go_wp2_with (first | (go_at_call 16; refine hsf.mono ?_; rintro e w' ⟨rfl, hw⟩; rw [hw]) | (go_at_call 17; refine hck.mono ?_))
  rintro e w1 ⟨rfl, hb1⟩
  clear hsf hck
  have her := error_same f w1 (HG.out.below hb1)
  rw [HV.out] at her
  go_wp2_with (go_at_call 7; refine her.mono ?_)
  rintro e w2 ⟨rfl, hb2⟩
  have hb2 := hb1.trans (hb2.mono hb1.size)
  clear her hb1 HV
  by_cases hz : f = 0
  case' pos =>
    subst hz
    have hold := oldOf s ms cs w2 (SS.out.below hb2) HF.out
    have O2 : Hid ((lessOf 43 ms).length ≤ maxLen) := by show (lessOf 43 ms).length ≤ maxLen; have := lessOf_len 43 ms; have := (sf_zero HF.out).1; unfold maxLen; omega
    have O3 : Hid ((lessOf 45 ms).length ≤ maxLen) := by show (lessOf 45 ms).length ≤ maxLen; have := lessOf_len 45 ms; have := (sf_zero HF.out).1; unfold maxLen; omega
    have HNEW := fun w h => newOf s ms cs w h HF.out
    have HOLD2 := fun w h => old_ok s ms cs w h HF.out
    have HNEW2 := fun w h => new_ok s ms cs w h HF.out
    obtain ⟨os, hos⟩ : ∃ os, lessOf 43 ms = os := ⟨_, rfl⟩
    obtain ⟨ns, hns⟩ : ∃ ns, lessOf 45 ms = ns := ⟨_, rfl⟩
    rw [HQ.out] at hold HNEW HOLD2 HNEW2
    rw [hos] at hold HOLD2 O2
    rw [hns] at HNEW HNEW2 O3
    obtain ⟨lo, hlo⟩ : ∃ lo, os.length = lo := ⟨_, rfl⟩
    obtain ⟨ln, hln⟩ : ∃ ln, ns.length = ln := ⟨_, rfl⟩
    have HLO : Hid (os.length = lo) := hlo
    have HLN : Hid (ns.length = ln) := hln
    rw [hlo] at hold HOLD2
    rw [hln] at HNEW HNEW2
    clear hos hns hlo hln
    go_wp2_with (go_at_call 18; refine hold.mono ?_)
    rintro e w3 ⟨a3, c3, rfl, ho3, hb3⟩
    have hb3 := hb2.trans (hb3.mono hb2.size)
    clear hold hb2
    go_wp2_with (go_at_call 19; refine (HNEW w3 (SS.out.below hb3)).mono ?_)
    rintro e w4 ⟨a4, c4, rfl, hn4, hb4⟩
    have ho4 := ho3.below hb4
    have hb4 := hb3.trans (hb4.mono hb3.size)
    clear HNEW hb3 ho3
    go_wp2_with (go_at_call 20; refine (HOLD2 w4 (SS.out.below hb4)).mono ?_)
    rintro e w5 ⟨a5, c5, rfl, hp5, hb5⟩
    have ho5 := ho4.below hb5
    have hn5 := hn4.below hb5
    have hb5 := hb4.trans (hb5.mono hb4.size)
    clear HOLD2 hb4 ho4 hn4
    go_wp2_with (go_at_call 7; refine (errorNil w5).mono ?_)
    rintro e w6 ⟨rfl, hb6⟩
    have htx := textsEq a5 a3 os c5 c3 w6 (hp5.below hb6) (ho5.below hb6) O2.out
    rw [HLO.out] at htx
    have hn6 := hn5.below hb6
    have hb6 := hb5.trans (hb6.mono hb5.size)
    clear hp5 ho5 hn5 hb5
    go_wp2_with (go_at_call 13; refine htx.mono ?_)
    rintro e w7 ⟨rfl, hb7⟩
    have hn7 := hn6.below hb7
    have hb7 := hb6.trans (hb7.mono hb6.size)
    clear htx hn6 hb6
    go_wp2_with (go_at_call 21; refine (HNEW2 w7 (SS.out.below hb7)).mono ?_)
    rintro e w8 ⟨a8, c8, rfl, hp8, hb8⟩
    have hn8 := hn7.below hb8
    have hb8 := hb7.trans (hb8.mono hb7.size)
    clear HNEW2 hb7 hn7
    go_wp2_with (go_at_call 7; refine (errorNil w8).mono ?_)
    rintro e w9 ⟨rfl, hb9⟩
    have hty := textsEq a8 a4 ns c8 c4 w9 (hp8.below hb9) (hn8.below hb9) O3.out
    rw [HLN.out] at hty
    have hb9 := hb8.trans (hb9.mono hb8.size)
    clear hp8 hn8 hb8
    go_wp2_with (go_at_call 13; refine hty.mono ?_)
    rintro e w10 ⟨rfl, hb10⟩
    have hb10 := hb9.trans (hb10.mono hb9.size)
    clear hty hb9 HLO HLN O2 O3
    go_wp2_with fail
  case' neg =>
    have hfz : (f == 0) = false := by simpa using hz
    have hne : sf ms ≠ 0 := by rw [HF.out]; exact hz
    have HOLD := fun w h => old_bad s ms cs w h H3.out hne
    have HNEW := fun w h => new_bad s ms cs w h H3.out hne
    rw [HQ.out, HF.out] at HOLD HNEW
    clear hne hz
    go_wp2_with (go_at_call 20; refine (HOLD w2 (SS.out.below hb2)).mono ?_)
    rintro e w5 ⟨rfl, hb5⟩
    have hb5 := hb2.trans (hb5.mono hb2.size)
    clear HOLD hb2
    go_wp2_with (go_at_call 7; refine (errorIs f w5 (HG.out.below hb5)).mono ?_)
    rintro e w6 ⟨rfl, hb6⟩
    have hb6 := hb5.trans (hb6.mono hb5.size)
    clear hb5
    go_wp2_with (go_at_call 13; refine (textsNil w6).mono ?_)
    rintro e w7 ⟨rfl, hb7⟩
    have hb7 := hb6.trans (hb7.mono hb6.size)
    clear hb6
    go_wp2_with (go_at_call 21; refine (HNEW w7 (SS.out.below hb7)).mono ?_)
    rintro e w8 ⟨rfl, hb8⟩
    have hb8 := hb7.trans (hb8.mono hb7.size)
    clear HNEW hb7
    go_wp2_with (go_at_call 7; refine (errorIs f w8 (HG.out.below hb8)).mono ?_)
    rintro e w9 ⟨rfl, hb9⟩
    have hb9 := hb8.trans (hb9.mono hb8.size)
    clear hb8
    go_wp2_with (go_at_call 13; refine (textsNil w9).mono ?_)
    rintro e w10 ⟨rfl, hb10⟩
    have hb10 := hb9.trans (hb10.mono hb9.size)
    clear hb9
    go_wp2_with fail
  all_goals
    have hl1 := linesFault a xs ca w10 (SA.out.below hb10) H1.out G1.out
    have hl2 := linesFault b ys cb w10 (SB.out.below hb10) H2.out G2.out
    rw [HM.out] at hl1
    rw [HN.out] at hl2
    by_cases k1 : lsf (bts xs) = 0
    case' pos =>
      by_cases k2 : lsf (bts ys) = 0
      case' pos =>
        have HFF : Hid (ff xs ys = 0) := ff_of k1 k2
        have L1 : Hid (xs.length ≤ 60) := lsf_len k1
        have L2 : Hid (ys.length ≤ 60) := lsf_len k2
        rw [k1] at hl1
        rw [k2] at hl2
        clear k1 k2
        refine hl1.mono ?_
        rintro e w11 ⟨rfl, hw⟩
        rw [hw]
        clear hl1 hw
        go_wp2_with (go_at_call 6; refine hl2.mono ?_; rintro e w' ⟨rfl, hw⟩; rw [hw])
        clear hl2
        have hrs := refScript a b xs ys ca cb w10 (SA.out.below hb10) (SB.out.below hb10) L1.out L2.out
        have HRF := fun w h h' => refFar a b xs ys ca cb w h h' L1.out L2.out
        have HSK := fun w h h' => script_ok a b xs ys ca cb w h h' HFF.out
        have HFA := fun w h h' => far_ok a b xs ys ca cb w h h' HFF.out
        rw [HM.out, HN.out] at hrs HRF HSK HFA
        have HKL : Hid ((scr xs ys).length ≤ maxLen) := by show (scr xs ys).length ≤ maxLen; have := (scr_ok xs ys).2.2.2.1; have := L1.out; have := L2.out; unfold maxLen; omega
        obtain ⟨ks, hks⟩ : ∃ ks, scr xs ys = ks := ⟨_, rfl⟩
        obtain ⟨d, hd⟩ : ∃ d, dist xs ys = d := ⟨_, rfl⟩
        rw [hks] at hrs HSK HKL
        rw [hd] at HRF HFA
        obtain ⟨l, hl⟩ : ∃ l, ks.length = l := ⟨_, rfl⟩
        have HLL : Hid (ks.length = l) := hl
        rw [hl] at hrs HSK
        clear hks hd hl
        refine hrs.mono ?_
        rintro e w12 ⟨a12, c12, rfl, hm12, hb12⟩
        have hb12 := hb10.trans (hb12.mono hb10.size)
        clear hrs hb10
        go_wp2_with (go_at_call 23; refine (HRF w12 (SA.out.below hb12) (SB.out.below hb12)).mono ?_)
        rintro e w13 ⟨rfl, hb13⟩
        have hm13 := hm12.below hb13
        have hb13 := hb12.trans (hb13.mono hb12.size)
        clear HRF hb12 hm12
        go_wp2_with (go_at_call 24; refine (HSK w13 (SA.out.below hb13) (SB.out.below hb13)).mono ?_)
        rintro e w14 ⟨a14, c14, rfl, hk14, hb14⟩
        have hm14 := hm13.below hb14
        have hb14 := hb13.trans (hb14.mono hb13.size)
        clear HSK hb13 hm13
        go_wp2_with (go_at_call 7; refine (errorNil w14).mono ?_)
        rintro e w15 ⟨rfl, hb15⟩
        have hmk := marks_eq a14 a12 ks c14 c12 w15 (hk14.below hb15) (hm14.below hb15) HKL.out
        rw [HLL.out] at hmk
        have hb15 := hb14.trans (hb15.mono hb14.size)
        clear hb14 hk14 hm14
        go_wp2_with (go_at_call 25; refine hmk.mono ?_)
        rintro e w16 ⟨rfl, hb16⟩
        have hb16 := hb15.trans (hb16.mono hb15.size)
        clear hmk hb15
        go_wp2_with (go_at_call 26; refine (HFA w16 (SA.out.below hb16) (SB.out.below hb16)).mono ?_)
        rintro e w17 ⟨rfl, hb17⟩
        have hb17 := hb16.trans (hb17.mono hb16.size)
        clear HFA hb16
        go_wp2_with (go_at_call 7; refine (errorNil w17).mono ?_)
        rintro e w18 ⟨rfl, hb18⟩
        have hb18 := hb17.trans (hb18.mono hb17.size)
        clear hb17
        go_wp2
        go_ret
        exact ⟨rfl, hb18⟩
      case' neg =>
        obtain ⟨f2, hf2⟩ : ∃ f2, lsf (bts ys) = f2 := ⟨_, rfl⟩
        have HFF : Hid (ff xs ys = f2) := by show ff xs ys = f2; unfold ff both; rw [if_pos k1, hf2]
        rw [hf2] at hl2 k2
        rw [k1] at hl1
        have HFN : Hid (f2 ≠ 0) := k2
        have hfz2 : (f2 == 0) = false := by simpa using k2
        clear k1 k2 hf2
        refine hl1.mono ?_
        rintro e w11 ⟨rfl, hw⟩
        rw [hw]
        clear hl1 hw
        go_wp2_with (go_at_call 6; refine hl2.mono ?_; rintro e w' ⟨rfl, hw⟩; rw [hw])
        clear hl2
    case' neg =>
      obtain ⟨f2, hf2⟩ : ∃ f2, lsf (bts xs) = f2 := ⟨_, rfl⟩
      have HFF : Hid (ff xs ys = f2) := by show ff xs ys = f2; unfold ff both; rw [if_neg k1, hf2]
      rw [hf2] at hl1 k1
      have HFN : Hid (f2 ≠ 0) := k1
      have hfz2 : (f2 == 0) = false := by simpa using k1
      clear k1 hf2 hl2
      refine hl1.mono ?_
      rintro e w11 ⟨rfl, hw⟩
      rw [hw]
      clear hl1 hw
      go_wp2_with fail
    all_goals
      have HSK := fun w h h' => script_bad a b xs ys ca cb w h h' H1.out H2.out (by rw [HFF.out]; exact HFN.out)
      have HFA := fun w h h' => far_bad a b xs ys ca cb w h h' H1.out H2.out (by rw [HFF.out]; exact HFN.out)
      rw [HM.out, HN.out, HFF.out] at HSK HFA
      refine (HSK w10 (SA.out.below hb10) (SB.out.below hb10)).mono ?_
      rintro e w14 ⟨rfl, hb14⟩
      have hb14 := hb10.trans (hb14.mono hb10.size)
      clear HSK hb10
      go_wp2_with (go_at_call 7; refine (errorIs f2 w14 (HG.out.below hb14)).mono ?_)
      rintro e w15 ⟨rfl, hb15⟩
      have hb15 := hb14.trans (hb15.mono hb14.size)
      clear hb14
      go_wp2_with (go_at_call 25; refine (marksNil w15).mono ?_)
      rintro e w16 ⟨rfl, hb16⟩
      have hb16 := hb15.trans (hb16.mono hb15.size)
      clear hb15
      go_wp2_with (go_at_call 26; refine (HFA w16 (SA.out.below hb16) (SB.out.below hb16)).mono ?_)
      rintro e w17 ⟨rfl, hb17⟩
      have hb17 := hb16.trans (hb17.mono hb16.size)
      clear HFA hb16
      go_wp2_with (go_at_call 7; refine (errorIs f2 w17 (HG.out.below hb17)).mono ?_)
      rintro e w18 ⟨rfl, hb18⟩
      have hb18 := hb17.trans (hb18.mono hb17.size)
      clear hb17
      go_wp2
      go_ret
      exact ⟨rfl, hb18⟩
end Go.Proofs.YtapebgoddcoijaaDoor
