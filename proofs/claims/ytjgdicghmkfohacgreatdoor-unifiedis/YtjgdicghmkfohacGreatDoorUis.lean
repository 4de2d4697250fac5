/-
  Walk of the law UnifiedIs: any hunks as a text, any text as hunks.
-/
import Derived.Test.YtjgdicghmkfohacGreatDoorRof
import Derived.Test.YtjgdicghmkfohacGreatDoorRtx
import Derived.Test.YtjgdicghmkfohacGreatDoorUpb
import Derived.Test.YtjgdicghmkfohacGreatDoorUpr2
import Derived.Test.YtjgdicghmkfohacGreatDoorHsame
import Derived.Test.YtjgdicghmkfohacGreatDoorTold3

namespace Go.Proofs.YtjgdicghmkfohacGreatDoor
open Go.RowKit Dist

attribute [local go_sem] Go.wp_at_zero Go.wp_at_succ

theorem psr_small {s : List UInt8} : (psr s).1.length ≤ 60 ∧ ∀ h ∈ (psr s).1, h.2.2.length ≤ 120 := by
  have h0 : ([] : List Uk).length ≤ 60 ∧ ∀ h ∈ ([] : List Uk), h.2.2.length ≤ 120 := ⟨Nat.zero_le _, fun h hh => by cases hh⟩
  unfold psr
  split
  · exact h0
  · split
    · exact h0
    · split
      · split
        · rename_i hz
          exact ⟨(hf_zero hz).1, fun h hh => (sf_zero (hf_rd hz h hh).2.2).1⟩
        · exact h0
      · exact h0

set_option maxRecDepth 100000 in
set_option maxHeartbeats 2000000 in
theorem is_any (a : Option Addr) (l : List Uk) (ca : Nat) (s : ByteArray) (w : World) (ha : Hks w a l) (hm : l.length ≤ maxLen) (hms : ∀ h ∈ l, h.2.2.length ≤ maxLen) (hts : ∀ h ∈ l, ∀ m ∈ h.2.2, m.2.size ≤ maxLen) (hs : s.size ≤ maxLen) (hg : Gs w) (ht : TypeLaid w) :
    Calls Tryz.prog 3 #[.slice a l.length ca, .string s] w fun e w' => e = .returned (.bool true) ∧ Below w.heap.size w w' := by
  have hrf := refHunks a l ca w ha hm hms hts
  have HG : Hid (Gs w) := hg
  have HT : Hid (TypeLaid w) := ht
  have HA : Hid (Hks w a l) := ha
  have HM : Hid (l.length ≤ maxLen) := hm
  have HMS : Hid (∀ h ∈ l, h.2.2.length ≤ maxLen) := hms
  obtain ⟨n, hn⟩ : ∃ n, l.length = n := ⟨_, rfl⟩
  have HN : Hid (l.length = n) := hn
  obtain ⟨q0, hq0⟩ : ∃ q, (hf l).1 = q := ⟨_, rfl⟩
  rw [hn, hq0] at hrf
  rw [hn]
  clear hg ht ha hms hn hts hm hq0
  by_cases hf0 : (hf l).2 = 0
  · rw [hf0] at hrf
    have HF : Hid ((hf l).2 = 0) := hf0
    have HPL : Hid ((prt l).length ≤ 14760) := (prt_len hf0).2
    have HTXT := fun w' h => refText a l ca w' (HA.out.below (w' := w') h) HF.out
    have HPRT := fun w' h => print_ok a l ca w' (HA.out.below (w' := w') h) HF.out
    rw [HN.out] at HTXT HPRT
    obtain ⟨T, hT⟩ : ∃ T, ByteArray.mk (prt l).toArray = T := ⟨_, rfl⟩
    rw [hT] at HTXT HPRT
    clear hf0 hT
    go_enter Tryz.func3, Tryz.ntmps3
    go_wp2_with (go_at_call 6; refine hrf.mono ?_)
    rintro e w1 ⟨rfl, hb1⟩
    have htx := HTXT w1 hb1
    clear hrf HTXT
    go_wp2_with (go_at_call 7; refine htx.mono ?_)
    rintro e w2 ⟨rfl, hb2⟩
    have hb2 := hb1.trans (hb2.mono hb1.size)
    have hpr := HPRT w2 hb2
    clear htx HPRT hb1
    go_wp2_with (go_at_call 8; refine hpr.mono ?_)
    rintro e w3 ⟨rfl, hb3⟩
    have hb3 := hb2.trans (hb3.mono hb2.size)
    have her := error_nil 0 w3
    clear hpr hb2
    go_wp2_with (go_at_call 9; refine her.mono ?_)
    rintro e W ⟨rfl, rfl⟩
    have hW := hb3
    clear her hb3
    obtain ⟨pl, hpl⟩ : ∃ x, (psr s.data.toList).1 = x := ⟨_, rfl⟩
    obtain ⟨pk, hpk⟩ : ∃ x, (psr s.data.toList).2.1 = x := ⟨_, rfl⟩
    obtain ⟨pf, hpf⟩ : ∃ x, (psr s.data.toList).2.2 = x := ⟨_, rfl⟩
    have hof := refOf s W hs
    have HPA := fun w' (h : Below w.heap.size w w') => parse_any s w' (HG.out.below h) hs
    have HSM : Hid (pl.length ≤ 60 ∧ ∀ h ∈ pl, h.2.2.length ≤ 120) := by rw [← hpl]; exact psr_small
    rw [hpl, hpk, hpf] at hof HPA
    clear hpl hpk hpf
    obtain ⟨ev, hev⟩ : ∃ ev, errV pf = ev := ⟨_, rfl⟩
    have HER := fun w' (h : Below w.heap.size w w') => error_same pf w' (HT.out.below h)
    rw [hev] at HPA HER
    obtain ⟨q, hq⟩ : ∃ q, pl.length = q := ⟨_, rfl⟩
    have HQ : Hid (pl.length = q) := hq
    rw [hq] at hof HPA
    clear hev hq
    go_wp2_with (go_at_call 10; refine hof.mono ?_)
    rintro e w5 ⟨xa, xc, rfl, hks5, hb5⟩
    have hb5 := hW.trans (hb5.mono hW.size)
    have HK5 : Hid (Hks w5 xa pl) := hks5
    have hpa := HPA w5 hb5
    clear hof hks5 HPA hW
    go_wp2_with (go_at_call 11; refine hpa.mono ?_)
    rintro e w6 ⟨ya, yc, rfl, hks6, _, hb6⟩
    have HK5 : Hid (Hks w6 xa pl) := HK5.out.below hb6
    have hb6 := hb5.trans (hb6.mono hb5.size)
    have HK6 : Hid (Hks w6 ya pl) := hks6
    have her := HER w6 hb6
    clear hpa hks6 hb5 HER
    go_wp2_with (go_at_call 9; refine her.mono ?_)
    rintro e w7 ⟨rfl, hb7⟩
    have hheq := hunks_eq ya xa pl yc xc w7 (HK6.out.below hb7) (HK5.out.below hb7) (Nat.le_trans HSM.out.1 (by decide)) (fun h hh => Nat.le_trans (HSM.out.2 h hh) (by decide))
    rw [HQ.out] at hheq
    have hb7 := hb6.trans (hb7.mono hb6.size)
    clear her hb6
    go_wp2_with (go_at_call 12; refine hheq.mono ?_)
    rintro e w8 ⟨rfl, hb8⟩
    have hb8 := hb7.trans (hb8.mono hb7.size)
    clear hheq hb7
    go_wp2
    go_ret
    exact ⟨rfl, hb8⟩
  · have HF : Hid ((hf l).2 ≠ 0) := hf0
    have HPRT := fun w' h => print_bad a l ca w' (HA.out.below (w' := w') h) HM.out HMS.out HF.out
    rw [HN.out] at HPRT
    obtain ⟨f, hff⟩ : ∃ f, (hf l).2 = f := ⟨_, rfl⟩
    rw [hff] at HPRT hrf hf0
    have HER0 := fun w' (h : Below w.heap.size w w') => error_err f f w' (HT.out.below h)
    have hfz : (f == 0) = false := by simpa using hf0
    clear hf0 hff HF
    go_enter Tryz.func3, Tryz.ntmps3
    go_wp2_with (go_at_call 6; refine hrf.mono ?_)
    rintro e w2 ⟨rfl, hb2⟩
    have hpr := HPRT w2 hb2
    clear hrf HPRT
    go_wp2_with (go_at_call 8; refine hpr.mono ?_)
    rintro e w3 ⟨rfl, hb3⟩
    have hb3 := hb2.trans (hb3.mono hb2.size)
    have her := HER0 w3 hb3
    clear hpr hb2 HER0
    go_wp2_with (go_at_call 9; refine her.mono ?_)
    rintro e W ⟨rfl, hb4⟩
    have hW := hb3.trans (hb4.mono hb3.size)
    clear her hb3 hb4
    obtain ⟨pl, hpl⟩ : ∃ x, (psr s.data.toList).1 = x := ⟨_, rfl⟩
    obtain ⟨pk, hpk⟩ : ∃ x, (psr s.data.toList).2.1 = x := ⟨_, rfl⟩
    obtain ⟨pf, hpf⟩ : ∃ x, (psr s.data.toList).2.2 = x := ⟨_, rfl⟩
    have hof := refOf s W hs
    have HPA := fun w' (h : Below w.heap.size w w') => parse_any s w' (HG.out.below h) hs
    have HSM : Hid (pl.length ≤ 60 ∧ ∀ h ∈ pl, h.2.2.length ≤ 120) := by rw [← hpl]; exact psr_small
    rw [hpl, hpk, hpf] at hof HPA
    clear hpl hpk hpf
    obtain ⟨ev, hev⟩ : ∃ ev, errV pf = ev := ⟨_, rfl⟩
    have HER := fun w' (h : Below w.heap.size w w') => error_same pf w' (HT.out.below h)
    rw [hev] at HPA HER
    obtain ⟨q, hq⟩ : ∃ q, pl.length = q := ⟨_, rfl⟩
    have HQ : Hid (pl.length = q) := hq
    rw [hq] at hof HPA
    clear hev hq
    go_wp2_with (go_at_call 10; refine hof.mono ?_)
    rintro e w5 ⟨xa, xc, rfl, hks5, hb5⟩
    have hb5 := hW.trans (hb5.mono hW.size)
    have HK5 : Hid (Hks w5 xa pl) := hks5
    have hpa := HPA w5 hb5
    clear hof hks5 HPA hW
    go_wp2_with (go_at_call 11; refine hpa.mono ?_)
    rintro e w6 ⟨ya, yc, rfl, hks6, _, hb6⟩
    have HK5 : Hid (Hks w6 xa pl) := HK5.out.below hb6
    have hb6 := hb5.trans (hb6.mono hb5.size)
    have HK6 : Hid (Hks w6 ya pl) := hks6
    have her := HER w6 hb6
    clear hpa hks6 hb5 HER
    go_wp2_with (go_at_call 9; refine her.mono ?_)
    rintro e w7 ⟨rfl, hb7⟩
    have hheq := hunks_eq ya xa pl yc xc w7 (HK6.out.below hb7) (HK5.out.below hb7) (Nat.le_trans HSM.out.1 (by decide)) (fun h hh => Nat.le_trans (HSM.out.2 h hh) (by decide))
    rw [HQ.out] at hheq
    have hb7 := hb6.trans (hb7.mono hb6.size)
    clear her hb6
    go_wp2_with (go_at_call 12; refine hheq.mono ?_)
    rintro e w8 ⟨rfl, hb8⟩
    have hb8 := hb7.trans (hb8.mono hb7.size)
    clear hheq hb7
    go_wp2
    go_ret
    exact ⟨rfl, hb8⟩

end Go.Proofs.YtjgdicghmkfohacGreatDoor
