/-
  Walk of the law LineIs: it returns true and writes nothing that was there.
-/
import Derived.Test.YtapebgoddcoijaaDoorBack
import Derived.Test.YtapebgoddcoijaaDoorRef3
import Derived.Test.YtapebgoddcoijaaDoorTold3
namespace Go.Proofs.YtapebgoddcoijaaDoor
open Go.RowKit

theorem splitOf_bad (s : ByteArray) (w : World) (hs : s.size ≤ 2000000) (h : splitC s.data.toList ≠ 0) :
    Calls Tryd.prog 11 #[.string s] w fun e w' => e = .returned (.tuple #[.slice none 0 0, .int .i64 (splitC s.data.toList)]) ∧ Below w.heap.size w w' := by
  by_cases hl : (parts 10 s.data.toList).2 = []
  · have e : splitC s.data.toList = lsf (parts 10 s.data.toList).1 := by unfold splitC; rw [if_pos hl]
    rw [e] at h ⊢
    exact splitOf_lines s w hs hl h
  · have e : splitC s.data.toList = 5 := by unfold splitC; rw [if_neg hl]
    rw [e]
    exact splitOf_syntax s w hs hl

theorem splitOf_good (s : ByteArray) (w : World) (hs : s.size ≤ 2000000) (h : splitC s.data.toList = 0) :
    Calls Tryd.prog 11 #[.string s] w fun e w' => ∃ (g cap : Nat) (ps : List ByteArray), e = .returned (.tuple #[.slice (some ⟨g, 0, none⟩) ps.length cap, .int .i64 0]) ∧
      bts ps = (parts 10 s.data.toList).1 ∧ Below w.heap.size w w' ∧ Strs w' (some ⟨g, 0, none⟩) ps := by
  unfold splitC at h
  by_cases hl : (parts 10 s.data.toList).2 = []
  · rw [if_pos hl] at h
    exact splitOf_ok s w hs hl h
  · rw [if_neg hl] at h
    simp at h

theorem texts_nil (w : World) : Calls Tryd.prog 13 #[.slice none 0 0, .slice none 0 0] w fun e w' => e = .returned (.bool true) ∧ ∃ n, w' = w.drewN n :=
  (texts_same none none [] [] 0 0 w (fun i hi => absurd hi (by simp)) (fun i hi => absurd hi (by simp)) rfl (by simp)).mono fun e w' ⟨he, hw⟩ => ⟨by rw [he]; rfl, hw⟩

set_option maxRecDepth 100000 in
set_option maxHeartbeats 2000000 in
theorem is_any (a : Option Addr) (ss : List ByteArray) (ca : Nat) (s p : ByteArray) (w : World) (ha : Strs w a ss) (hm : ss.length ≤ maxLen) (hss : ∀ x ∈ ss, x.size ≤ maxLen) (hs : s.size ≤ 2000000) (hg : TypeLaid w) :
    Calls Tryd.prog 3 #[.slice a ss.length ca, .string s, .string p] w fun e w' => e = .returned (.bool true) ∧ Below w.heap.size w w' := by
  have hlf := linesFault a ss ca w ha hm hss
  have hck := check_any a ss ca w ha hm
  have her := error_same (lsf (bts ss)) w hg
  obtain ⟨n, hn⟩ : ∃ n, ss.length = n := ⟨_, rfl⟩
  obtain ⟨f, hf⟩ : ∃ f, lsf (bts ss) = f := ⟨_, rfl⟩
  obtain ⟨v, hv⟩ : ∃ v, errV f = v := ⟨_, rfl⟩
  rw [hn, hf] at hlf hck
  rw [hf] at her
  rw [hv] at hck her
  rw [hn]
  have HN : Hid (ss.length = n) := hn
  have HF : Hid (lsf (bts ss) = f) := hf
  have HA : Hid (Strs w a ss) := ha
  have HM : Hid (ss.length ≤ maxLen) := hm
  have HS : Hid (s.size ≤ 2000000) := hs
  have HG : Hid (TypeLaid w) := hg
  clear hn hf hv ha hm hss hg hs
  go_enter Tryd.func3, Tryd.ntmps3
  go_wp2_with (first | (go_at_call 6; refine hlf.mono ?_; rintro e w' ⟨rfl, hw⟩; rw [hw]) | (go_at_call 8; refine hck.mono ?_; rintro e w' ⟨rfl, hw⟩; rw [hw]) | (go_at_call 7; refine her.mono ?_))
  rintro e w1 ⟨rfl, hb1⟩
  clear hlf hck her
  by_cases hz : f = 0
  case' pos =>
    subst hz
    have hj0 := joinOf a ss ca w1 (HA.out.below hb1) HF.out
    have hj := join_ok a ss ca w1 (HA.out.below hb1) HF.out
    rw [HN.out] at hj0 hj
    obtain ⟨J, hJ⟩ : ∃ J, str (joinC 10 (bts ss)) = J := ⟨_, rfl⟩
    rw [hJ] at hj0 hj
    clear hJ
    go_wp2_with (first | (go_at_call 9; refine hj0.mono ?_; rintro e w' ⟨rfl, hw⟩; rw [hw]) | (go_at_call 10; refine hj.mono ?_))
    rintro e w2 ⟨rfl, hb2⟩
    have hb2 := hb1.trans (hb2.mono hb1.size)
    have her : Calls Tryd.prog 7 #[.nilIface, .int .i64 0] w2 fun ev w' => ev = .returned (.bool true) ∧ Below w2.heap.size w2 w' := error_same 0 w2 (HG.out.below hb2)
    clear hj0 hj
    go_wp2_with (go_at_call 7; refine her.mono ?_)
    rintro e w3 ⟨rfl, hb3⟩
    have hb3 := hb2.trans (hb3.mono hb2.size)
    clear her hb2
    go_wp2_with fail
  case' neg =>
    have hfz : (f == 0) = false := by simpa using hz
    have hj := join_bad' a ss ca w1 (HA.out.below hb1) HM.out (by rw [HF.out]; exact hz)
    rw [HN.out, HF.out, show str [] = ⟨#[]⟩ from rfl] at hj
    clear hz
    go_wp2_with (go_at_call 10; refine hj.mono ?_)
    rintro e w2 ⟨rfl, hb2⟩
    have hb2 := hb1.trans (hb2.mono hb1.size)
    have her := error_err f f w2 (HG.out.below hb2)
    rw [beq_self_eq_true] at her
    clear hj
    go_wp2_with (go_at_call 7; refine her.mono ?_)
    rintro e w3 ⟨rfl, hb3⟩
    have hb3 := hb2.trans (hb3.mono hb2.size)
    clear her hb2
    go_wp2_with fail
  all_goals
    by_cases hS : splitC s.data.toList = 0
    case' pos =>
      refine (splitOf_good s w3 HS.out hS).mono ?_
      rintro e w4 ⟨g4, c4, ps, rfl, hps, hb4, hst4⟩
      have hb4 := hb3.trans (hb4.mono hb3.size)
      have hsp := split_good s w4 (by have := HS.out; omega) hS
      obtain ⟨m, hm⟩ : ∃ m, ps.length = m := ⟨_, rfl⟩
      have HM4 : Hid (ps.length = m) := hm
      have HP4 : Hid (bts ps = (parts 10 s.data.toList).1) := hps
      have HS4 : Hid (Strs w4 (some ⟨g4, 0, none⟩) ps) := hst4
      have HL4 : Hid (m ≤ 60) := by
        have h1 := (lsf_zero (join_split hS).2).1
        rw [← hps, bts_length, hm] at h1
        exact h1
      rw [hm]
      clear hm hps hst4
      go_wp2_with (go_at_call 12; refine hsp.mono ?_; clear hsp; rintro e w5 ⟨b5, qs, rfl, hqs, hb5, hst5⟩; have e1 : qs = ps := bts_inj (hqs.trans HP4.out.symm); rw [e1] at hst5; rw [e1, HM4.out]; clear e1 hqs)
      have hs5 := HS4.out.below (hb5.mono (Nat.le_refl _))
      have hb5 := hb4.trans (hb5.mono hb4.size)
      have her : Calls Tryd.prog 7 #[.nilIface, .int .i64 0] w5 fun ev w' => ev = .returned (.bool true) ∧ Below w5.heap.size w5 w' := error_same 0 w5 (HG.out.below hb5)
      refine her.mono ?_
      rintro e w6 ⟨rfl, hb6⟩
      have htx := texts_same _ _ ps ps m c4 w6 (hst5.below hb6) (hs5.below hb6) rfl (by rw [HM4.out]; have := HL4.out; unfold maxLen; omega)
      rw [HM4.out, decide_eq_true rfl] at htx
      have hb6 := hb5.trans (hb6.mono hb5.size)
      clear her hst5 hs5 hb5 hb4
      go_wp2_with (go_at_call 13; refine htx.mono ?_)
      rintro e w7 ⟨rfl, q, hq⟩
      have hb7 : Below w.heap.size w w7 := by rw [hq]; exact below_drawn hb6
      clear htx hq hb6
      go_wp2_with fail
    case' neg =>
      have hso := splitOf_bad s w3 HS.out hS
      have hsp := fun w => split_bad s w (by have := HS.out; omega) hS
      obtain ⟨f2, hf2⟩ : ∃ f2, splitC s.data.toList = f2 := ⟨_, rfl⟩
      rw [hf2] at hso hsp
      clear hf2
      refine hso.mono ?_
      rintro e w4 ⟨rfl, hb4⟩
      have hb4 := hb3.trans (hb4.mono hb3.size)
      go_wp2_with (go_at_call 12; refine (hsp _).mono ?_)
      rintro e w5 ⟨rfl, hb5⟩
      have hb5 := hb4.trans (hb5.mono hb4.size)
      have her := error_err f2 f2 w5 (HG.out.below hb5)
      rw [beq_self_eq_true] at her
      clear hso hsp hb4
      go_wp2_with (go_at_call 7; refine her.mono ?_)
      rintro e w6 ⟨rfl, hb6⟩
      have hb6 := hb5.trans (hb6.mono hb5.size)
      clear her hb5
      go_wp2_with (go_at_call 13; refine (texts_nil _).mono ?_)
      rintro e w7 ⟨rfl, q, hq⟩
      have hb7 : Below w.heap.size w w7 := by rw [hq]; exact below_drawn hb6
      clear hq hb6
      go_wp2_with fail
    all_goals
      clear hS hb3 hb1
      have hpa := path_any p w7
      have hpf := fun w => pathFault p w
      have her := fun w hg => error_same (pf p.data.toList) w hg
      obtain ⟨f3, hf3⟩ : ∃ f3, pf p.data.toList = f3 := ⟨_, rfl⟩
      rw [hf3] at hpa hpf her
      obtain ⟨v3, hv3⟩ : ∃ v3, errV f3 = v3 := ⟨_, rfl⟩
      rw [hv3] at hpa her
      clear hf3 hv3
      refine hpa.mono ?_
      rintro e w8 ⟨rfl, hb8⟩
      have hb8 := hb7.trans (hb8.mono hb7.size)
      have her8 := her w8 (HG.out.below hb8)
      clear hpa her hb7
      go_wp2_with (first | (go_at_call 15; refine (hpf _).mono ?_; rintro e w' ⟨rfl, hw⟩; rw [hw]) | (go_at_call 7; refine her8.mono ?_))
      rintro e w9 ⟨rfl, hb9⟩
      have hb9 := hb8.trans (hb9.mono hb8.size)
      clear her8 hpf
      go_wp2
      go_ret
      exact ⟨rfl, hb9⟩
end Go.Proofs.YtapebgoddcoijaaDoor
