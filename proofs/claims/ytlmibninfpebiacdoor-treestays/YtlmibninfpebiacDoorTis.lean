/-
  The walk of the law TreeIs: any tree, any file of it.
-/
import Derived.Test.YtlmibninfpebiacDoorPtf
import Derived.Test.YtlmibninfpebiacDoorRtf
import Derived.Test.YtlmibninfpebiacDoorRpf
import Derived.Test.YtlmibninfpebiacDoorTold3

namespace Go.Proofs.YtlmibninfpebiacDoor
open Go.RowKit

theorem texts_none (g : Option Addr) (c : Nat) (w : World) : Calls Tryd.prog 12 #[.slice g 0 c, .slice none 0 0] w fun e w' => e = .returned (.bool true) ∧ Below w.heap.size w w' :=
  texts_eq g none [] c 0 w (fun _ hi => absurd hi (Nat.not_lt_zero _)) (fun _ hi => absurd hi (Nat.not_lt_zero _)) (Nat.zero_le _)

theorem trees_none (g : Option Addr) (c : Nat) (w : World) : Calls Tryd.prog 14 #[.slice g 0 c, .slice none 0 0] w fun e w' => e = .returned (.bool true) ∧ Below w.heap.size w w' :=
  trees_eq g none [] c 0 w (Fls.nil _ _) (Fls.nil _ _) (Nat.zero_le _) (fun x hx => by cases hx)

theorem small_files {l : List Fl} (h : l.length ≤ 8 ∧ ∀ x ∈ l, fOne x = 0) : l.length ≤ maxLen ∧ ∀ x ∈ l, x.2.length ≤ maxLen := by
  refine ⟨by have := h.1; unfold maxLen; omega, fun x hx => ?_⟩
  have := (fOne_small (h.2 x hx)).2.1
  unfold maxLen; omega

set_option maxRecDepth 100000 in
set_option maxHeartbeats 16000000 in
theorem treeIs_any (a : Option Addr) (l : List Fl) (ca : Nat) (x p : ByteArray) (am : Option Addr) (ss : List ByteArray) (cm : Nat) (w : World) (ha : Fls w a l) (hca : l.length ≤ ca) (hm : l.length ≤ maxLen) (hms : ∀ y ∈ l, y.2.length ≤ maxLen) (hts : ∀ y ∈ l, ∀ s ∈ y.2, s.size ≤ maxLen) (hst : Strs w am ss) (hss : ss.length ≤ maxLen) (hsz : ∀ s ∈ ss, s.size ≤ maxLen) (hsc : ss.length ≤ cm) (ht : TypeLaid w) :
    Calls Tryd.prog 3 #[.slice a l.length ca, .string x, .agg #[.string p, .slice am ss.length cm]] w fun e w' => e = .returned (.bool true) ∧ Below w.heap.size w w' := by
  have hb0 := below_alloc w (.cells #[.string p, .slice am ss.length cm] 25)
  have c0 := cells2_later (Below.refl (w.alloc (.cells #[.string p, .slice am ss.length cm] 25)).heap.size (w.alloc (.cells #[.string p, .slice am ss.length cm] 25)))
  obtain ⟨W0, hW0⟩ : ∃ W0, w.alloc (.cells #[.string p, .slice am ss.length cm] 25) = W0 := ⟨_, rfl⟩
  rw [hW0] at hb0 c0
  have HBX : Hid (∀ w', Below W0.heap.size W0 w' → w'.cell? ⟨w.heap.size, 0, none⟩ = some (.string p) ∧ w'.cell? ⟨w.heap.size, 1, none⟩ = some (.slice am ss.length cm)) := fun w' h => ⟨cell_later h c0.1, cell_later h c0.2⟩
  have HB0 : Hid (Below w.heap.size w W0) := hb0
  replace ha := ha.below hb0
  replace hst := hst.below hb0
  replace ht := ht.below hb0
  have HA : Hid (∀ w', Below W0.heap.size W0 w' → Fls w' a l) := fun w' h => ha.below h
  have htf := treeFault a l ca W0 ha hm hms hts
  have HCK := fun w' (h : Below W0.heap.size W0 w') => treeCheck a l ca w' (ha.below h) hm hms
  have HE0 := fun w' (h : Below W0.heap.size W0 w') => error_same (tf l).2 w' (ht.below h)
  have HE1 := fun w' (h : Below W0.heap.size W0 w') => error_same (gf l x) w' (ht.below h)
  have HE2 := fun w' (h : Below W0.heap.size W0 w') => error_same (uf l (p, ss)) w' (ht.below h)
  have HPX := fun w' => pathFault x w'
  have HPP := fun w' => pathFault p w'
  have HLF := fun w' (h : Below W0.heap.size W0 w') => linesFault am ss cm w' (hst.below h) hss hsz
  have HPC := fun w' (h : Below W0.heap.size W0 w') => placeRef a l ca x w' (ha.below h) hm
  have HPD := fun w' (h : Below W0.heap.size W0 w') => placeRef a l ca p w' (ha.below h) hm
  have HGT := fun w' (h : Below W0.heap.size W0 w') => getOf a l ca x w' (ha.below h) hm hms
  have HDR := fun w' (h : Below W0.heap.size W0 w') => dropOf a l ca x w' (ha.below h) hca hm hms
  have HPU := fun w' (h : Below W0.heap.size W0 w') => putOf a l ca p am ss cm w' (ha.below h) hca hm hms (hst.below h) hss hsc
  have HDK := fun w' (h : Below W0.heap.size W0 w') k (h1 : l.length ≤ 1000) (h2 : k < l.length) => dropRef a l ca k w' (ha.below h) hca h1 h2
  have HPR := fun w' (h : Below W0.heap.size W0 w') (h1 : Ris l) (h2 : l.length ≤ 1000) => putRef a l ca p am ss cm w' (ha.below h) h1 h2 (hst.below h) hsc
  have GS : Hid ((gl l x).length ≤ 60) := gl_small.1
  have DS : Hid ((dl l x).length ≤ maxLen ∧ ∀ y ∈ dl l x, y.2.length ≤ maxLen) := small_files dl_small
  have US : Hid ((ul l (p, ss)).length ≤ maxLen ∧ ∀ y ∈ ul l (p, ss), y.2.length ≤ maxLen) := small_files ul_small
  obtain ⟨n, hn⟩ : ∃ n, l.length = n := ⟨_, rfl⟩
  have HN : Hid (l.length = n) := hn
  have HW0 : Hid (w.alloc (.cells #[.string p, .slice am ss.length cm] 25) = W0) := hW0
  rw [hn] at htf HCK HPC HPD HGT HDR HPU HDK HPR ⊢
  obtain ⟨q, hq⟩ : ∃ q, ss.length = q := ⟨_, rfl⟩
  rw [hq] at HBX HLF HPU HPR HW0 ⊢
  obtain ⟨t1, ht1⟩ : ∃ t, (tf l).1 = t := ⟨_, rfl⟩
  obtain ⟨t2, ht2⟩ : ∃ t, (tf l).2 = t := ⟨_, rfl⟩
  have HT2 : Hid ((tf l).2 = t2) := ht2
  obtain ⟨e2, he2⟩ : ∃ e, gf l x = e := ⟨_, rfl⟩
  have HG2 : Hid (gf l x = e2) := he2
  obtain ⟨u2, hu2⟩ : ∃ u, uf l (p, ss) = u := ⟨_, rfl⟩
  have HU2 : Hid (uf l (p, ss) = u2) := hu2
  rw [ht1, ht2] at htf HCK
  rw [ht2] at HE0
  rw [he2] at HE1 HGT HDR
  rw [hu2] at HE2 HPU
  obtain ⟨v0, hv0⟩ : ∃ v, errV t2 = v := ⟨_, rfl⟩
  obtain ⟨v1, hv1⟩ : ∃ v, errV e2 = v := ⟨_, rfl⟩
  obtain ⟨v2, hv2⟩ : ∃ v, errV u2 = v := ⟨_, rfl⟩
  rw [hv0] at HCK HE0
  rw [hv1] at HE1 HGT HDR
  rw [hv2] at HE2 HPU
  obtain ⟨f1, hf1⟩ : ∃ f, pf x.data.toList = f := ⟨_, rfl⟩
  have HF1 : Hid (pf x.data.toList = f1) := hf1
  obtain ⟨f2, hf2⟩ : ∃ f, pf p.data.toList = f := ⟨_, rfl⟩
  have HF2 : Hid (pf p.data.toList = f2) := hf2
  obtain ⟨f3, hf3⟩ : ∃ f, lsf (bts ss) = f := ⟨_, rfl⟩
  have HF3 : Hid (lsf (bts ss) = f3) := hf3
  rw [hf1] at HPX
  rw [hf2] at HPP
  rw [hf3] at HLF
  obtain ⟨pc, hpc⟩ : ∃ c, plc l x = c := ⟨_, rfl⟩
  have HQC : Hid (plc l x = pc) := hpc
  obtain ⟨pd, hpd⟩ : ∃ c, plc l p = c := ⟨_, rfl⟩
  have HQD : Hid (plc l p = pd) := hpd
  rw [hpc] at HPC
  rw [hpd] at HPD
  obtain ⟨GL, hGL⟩ : ∃ g, gl l x = g := ⟨_, rfl⟩
  have HGL : Hid (gl l x = GL) := hGL
  obtain ⟨DL, hDL⟩ : ∃ d, dl l x = d := ⟨_, rfl⟩
  have HDL : Hid (dl l x = DL) := hDL
  obtain ⟨UL, hUL⟩ : ∃ u, ul l (p, ss) = u := ⟨_, rfl⟩
  have HUL : Hid (ul l (p, ss) = UL) := hUL
  rw [hGL] at HGT GS
  rw [hDL] at HDR DS
  rw [hUL] at HPU US
  clear ha hca hm hms hts hst hss hsz hsc ht hb0 c0 hW0 hn hq ht1 ht2 he2 hu2 hv0 hv1 hv2 hf1 hf2 hf3 hpc hpd hGL hDL hUL
  by_cases h1 : t2 = 0
  case' neg =>
    have H1 : Hid (t2 ≠ 0) := h1
    obtain rfl : e2 = t2 := by rw [← HG2.out, gf_tree (by rw [HT2.out]; exact h1), HT2.out]
    obtain rfl : u2 = e2 := by rw [← HU2.out, uf_tree (by rw [HT2.out]; exact h1), HT2.out]
    obtain rfl : GL = [] := by rw [← HGL.out]; exact gl_not (by rw [HG2.out]; exact h1)
    obtain rfl : DL = [] := by rw [← HDL.out]; exact dl_not (by rw [HG2.out]; exact h1)
    simp only [List.length_nil] at HGT HDR
    obtain rfl : UL = [] := by rw [← HUL.out]; exact ul_not (by rw [HU2.out]; exact h1)
    simp only [List.length_nil] at HPU
    have hz : (u2 == 0) = false := by simpa using h1
    clear h1 HPP HLF HPD HDK HPR
    go_enter Tryd.func3, Tryd.ntmps3
    go_wp2_with (go_at_call 5; rw [HW0.out]; refine htf.mono ?_)
    rintro e w1 ⟨rfl, hb1⟩
    have hck := HCK w1 hb1
    clear htf HCK HW0
    go_wp2_with (go_at_call 6; refine hck.mono ?_)
    rintro e w2 ⟨rfl, hb2⟩
    have hb2 := hb1.trans (hb2.mono hb1.size)
    have her := HE0 w2 hb2
    clear hck HE0 hb1
    go_wp2_with (go_at_call 7; refine her.mono ?_)
    rintro e w3 ⟨rfl, hb3⟩
    have hb3 := hb2.trans (hb3.mono hb2.size)
    have hpx := HPX w3
    have hpc := HPC w3 hb3
    clear her hb2 HPC HPX
    go_wp2_with (go_at_call 9; refine hpc.mono ?_; rintro e w' ⟨rfl, hw⟩; rw [hw]; clear hw w')
    obtain ⟨wq, hwq⟩ : ∃ wq, w3 = wq := ⟨_, rfl⟩
    subst hwq
    have hgt := HGT w3 hb3
    refine hgt.mono ?_
    rintro e w5 ⟨g5, c5, rfl, hs5, hb5⟩
    have hb5 := hb3.trans (hb5.mono hb3.size)
    clear hgt hb3 hpx hpc HGT
    have her := HE1 w5 hb5
    go_wp2_with (go_at_call 7; refine her.mono ?_)
    rintro e w6 ⟨rfl, hb6⟩
    replace hs5 := hs5.below hb6
    have hb6 := hb5.trans (hb6.mono hb5.size)
    have htx := texts_none g5 c5 w6
    clear her hb5 hs5
    go_wp2_with (go_at_call 12; refine htx.mono ?_)
    rintro e w7 ⟨rfl, hb7⟩
    have hb7 := hb6.trans (hb7.mono hb6.size)
    have hdr := HDR w7 hb7
    clear htx hb6 HDR
    go_wp2_with (go_at_call 13; refine hdr.mono ?_)
    rintro e w8 ⟨g8, c8, rfl, hf8, _, hb8⟩
    have hb8 := hb7.trans (hb8.mono hb7.size)
    have her := HE1 w8 hb8
    clear hdr hb7 HE1
    go_wp2_with (go_at_call 7; refine her.mono ?_)
    rintro e w9 ⟨rfl, hb9⟩
    replace hf8 := hf8.below hb9
    have hb9 := hb8.trans (hb9.mono hb8.size)
    have hte := trees_none g8 c8 w9
    clear her hb8 hf8
    go_wp2_with (go_at_call 14; refine hte.mono ?_)
    rintro e wa ⟨rfl, hba⟩
    have hba := hb9.trans (hba.mono hb9.size)
    obtain ⟨d0, d1⟩ := HBX.out wa hba
    clear hte hb9
    have hpu := HPU wa hba
    clear HPU
    go_wp2_with (go_at_call 17; refine hpu.mono ?_)
    rintro e wc ⟨gc5, cc5, rfl, hfc, _, hbc⟩
    have hbc := hba.trans (hbc.mono hba.size)
    have her := HE2 wc hbc
    clear hpu hba HE2
    go_wp2_with (go_at_call 7; refine her.mono ?_)
    rintro e wd ⟨rfl, hbd⟩
    have hte := trees_none gc5 cc5 wd
    have hbd := hbc.trans (hbd.mono hbc.size)
    clear her hbc hfc
    go_wp2_with (go_at_call 14; refine hte.mono ?_)
    rintro e we ⟨rfl, hbe⟩
    have hbe := hbd.trans (hbe.mono hbd.size)
    clear hte hbd
    go_wp2
    go_ret
    exact ⟨rfl, HB0.out.trans (hbe.mono HB0.out.size)⟩
  case' pos =>
    subst h1
    obtain ⟨k1, hri, k3⟩ := tf_zero HT2.out
    rw [HN.out] at k1
    have hl1 : n ≤ 1000 := by omega
    have HRI : Hid (Ris l) := hri
    have hplx := hri.plc x
    have hplp := hri.plc p
    rw [HQC.out] at hplx
    rw [HQD.out] at hplp
    have HPLP : Hid (pd = if eqs l p = [] then -1 else (pl l p : Int)) := hplp
    clear k3 hplp
    by_cases h2 : f1 = 0
    case' neg =>
      obtain rfl : e2 = f1 := by rw [← HG2.out, gf_path HT2.out (by rw [HF1.out]; exact h2), HF1.out]
      obtain rfl : GL = [] := by rw [← HGL.out]; exact gl_not (by rw [HG2.out]; exact h2)
      obtain rfl : DL = [] := by rw [← HDL.out]; exact dl_not (by rw [HG2.out]; exact h2)
      simp only [List.length_nil] at HGT HDR
      have hz : (e2 == 0) = false := by simpa using h2
      clear h2 HDK hplx
      go_enter Tryd.func3, Tryd.ntmps3
      go_wp2_with (go_at_call 5; rw [HW0.out]; refine htf.mono ?_)
      rintro e w1 ⟨rfl, hb1⟩
      have hck := HCK w1 hb1
      clear htf HCK HW0
      go_wp2_with (go_at_call 6; refine hck.mono ?_)
      rintro e w2 ⟨rfl, hb2⟩
      have hb2 := hb1.trans (hb2.mono hb1.size)
      have her := HE0 w2 hb2
      clear hck HE0 hb1
      go_wp2_with (go_at_call 7; refine her.mono ?_)
      rintro e w3 ⟨rfl, hb3⟩
      have hb3 := hb2.trans (hb3.mono hb2.size)
      have hpx := HPX w3
      have hpc := HPC w3 hb3
      clear her hb2 HPC HPX
      go_wp2_with (first | (go_at_call 8; refine hpx.mono ?_; rintro e w' ⟨rfl, hw⟩; rw [hw]; clear hw w') | (go_at_call 9; refine hpc.mono ?_; rintro e w' ⟨rfl, hw⟩; rw [hw]; clear hw w'))
      have hgt := HGT w3 hb3
      refine hgt.mono ?_
      rintro e w5 ⟨g5, c5, rfl, hs5, hb5⟩
      have hb5 := hb3.trans (hb5.mono hb3.size)
      clear hgt hb3 hpx hpc HGT
      have her := HE1 w5 hb5
      go_wp2_with (go_at_call 7; refine her.mono ?_)
      rintro e w6 ⟨rfl, hb6⟩
      replace hs5 := hs5.below hb6
      have hb6 := hb5.trans (hb6.mono hb5.size)
      have htx := texts_none g5 c5 w6
      clear her hb5 hs5
      go_wp2_with (go_at_call 12; refine htx.mono ?_)
      rintro e w7 ⟨rfl, hb7⟩
      have hb7 := hb6.trans (hb7.mono hb6.size)
      have hdr := HDR w7 hb7
      clear htx hb6 HDR
      go_wp2_with (go_at_call 13; refine hdr.mono ?_)
      rintro e w8 ⟨g8, c8, rfl, hf8, _, hb8⟩
      have hb8 := hb7.trans (hb8.mono hb7.size)
      have her := HE1 w8 hb8
      clear hdr hb7 HE1
      go_wp2_with (go_at_call 7; refine her.mono ?_)
      rintro e w9 ⟨rfl, hb9⟩
      replace hf8 := hf8.below hb9
      have hb9 := hb8.trans (hb9.mono hb8.size)
      have hte := trees_none g8 c8 w9
      clear her hb8 hf8
      go_wp2_with (go_at_call 14; refine hte.mono ?_)
      rintro e wa ⟨rfl, hba⟩
      have hba := hb9.trans (hba.mono hb9.size)
      obtain ⟨d0, d1⟩ := HBX.out wa hba
      clear hte hb9
    case' pos =>
      subst h2
      by_cases h3 : eqs l x = []
      case' pos =>
        obtain rfl : e2 = 4 := by rw [← HG2.out]; exact gf_none HT2.out HF1.out h3
        obtain rfl : pc = -1 := by rw [hplx, if_pos h3]
        obtain rfl : GL = [] := by rw [← HGL.out]; exact gl_not (by rw [HG2.out]; decide)
        obtain rfl : DL = [] := by rw [← HDL.out]; exact dl_not (by rw [HG2.out]; decide)
        simp only [List.length_nil] at HGT HDR
        clear h3 HDK hplx
        go_enter Tryd.func3, Tryd.ntmps3
        go_wp2_with (go_at_call 5; rw [HW0.out]; refine htf.mono ?_)
        rintro e w1 ⟨rfl, hb1⟩
        have hck := HCK w1 hb1
        clear htf HCK HW0
        go_wp2_with (go_at_call 6; refine hck.mono ?_)
        rintro e w2 ⟨rfl, hb2⟩
        have hb2 := hb1.trans (hb2.mono hb1.size)
        have her := HE0 w2 hb2
        clear hck HE0 hb1
        go_wp2_with (go_at_call 7; refine her.mono ?_)
        rintro e w3 ⟨rfl, hb3⟩
        have hb3 := hb2.trans (hb3.mono hb2.size)
        have hpx := HPX w3
        have hpc := HPC w3 hb3
        clear her hb2 HPC HPX
        go_wp2_with (first | (go_at_call 8; refine hpx.mono ?_; rintro e w' ⟨rfl, hw⟩; rw [hw]; clear hw w') | (go_at_call 9; refine hpc.mono ?_; rintro e w' ⟨rfl, hw⟩; rw [hw]; clear hw w'))
        have hgt := HGT w3 hb3
        refine hgt.mono ?_
        rintro e w5 ⟨g5, c5, rfl, hs5, hb5⟩
        have hb5 := hb3.trans (hb5.mono hb3.size)
        clear hgt hb3 hpx hpc HGT
        have her := HE1 w5 hb5
        go_wp2_with (go_at_call 7; refine her.mono ?_)
        rintro e w6 ⟨rfl, hb6⟩
        replace hs5 := hs5.below hb6
        have hb6 := hb5.trans (hb6.mono hb5.size)
        have htx := texts_none g5 c5 w6
        clear her hb5 hs5
        go_wp2_with (go_at_call 12; refine htx.mono ?_)
        rintro e w7 ⟨rfl, hb7⟩
        have hb7 := hb6.trans (hb7.mono hb6.size)
        have hdr := HDR w7 hb7
        clear htx hb6 HDR
        go_wp2_with (go_at_call 13; refine hdr.mono ?_)
        rintro e w8 ⟨g8, c8, rfl, hf8, _, hb8⟩
        have hb8 := hb7.trans (hb8.mono hb7.size)
        have her := HE1 w8 hb8
        clear hdr hb7 HE1
        go_wp2_with (go_at_call 7; refine her.mono ?_)
        rintro e w9 ⟨rfl, hb9⟩
        replace hf8 := hf8.below hb9
        have hb9 := hb8.trans (hb9.mono hb8.size)
        have hte := trees_none g8 c8 w9
        clear her hb8 hf8
        go_wp2_with (go_at_call 14; refine hte.mono ?_)
        rintro e wa ⟨rfl, hba⟩
        have hba := hb9.trans (hba.mono hb9.size)
        obtain ⟨d0, d1⟩ := HBX.out wa hba
        clear hte hb9
      case' neg =>
        obtain rfl : e2 = 0 := by rw [← HG2.out]; exact gf_of HT2.out HF1.out h3
        obtain ⟨m1, hk, _, _⟩ := hri.drop_more h3
        have HDQ : Hid (l.take (pl l x) ++ l.drop (pl l x + 1) = DL) := by
          show l.take (pl l x) ++ l.drop (pl l x + 1) = DL
          rw [← HDL.out, dl_of HG2.out, hri.take, m1]; rfl
        have HGQ : Hid ((l.getD (pl l x) fz).2 = GL) := by show (l.getD (pl l x) fz).2 = GL; rw [← HGL.out, gl_of HG2.out]
        obtain rfl : pc = (pl l x : Int) := by rw [hplx, if_neg h3]
        obtain ⟨b, off, rfl⟩ := (HA.out W0 (Below.refl _ _)).addr hk
        obtain ⟨am2, cm2, _, hc2, hs2, _⟩ := (HA.out W0 (Below.refl _ _)).at hk
        rw [HGQ.out] at hc2 hs2
        have HTX := fun w' g c (h1 : Strs w' g GL) (h : Below W0.heap.size W0 w') => texts_eq g am2 GL c cm2 w' h1 (hs2.below h) (by have := GS.out; unfold maxLen; omega)
        obtain ⟨k, hkk⟩ : ∃ k, pl l x = k := ⟨_, rfl⟩
        obtain ⟨ng, hng⟩ : ∃ n, GL.length = n := ⟨_, rfl⟩
        obtain ⟨nd, hnd⟩ : ∃ n, DL.length = n := ⟨_, rfl⟩
        have HND : Hid (DL.length = nd) := hnd
        rw [hkk] at hk HDQ hc2 HPC
        rw [HN.out] at hk
        rw [hng] at hc2 HTX HGT
        rw [hnd] at HDR
        have HCX : Hid (∀ w', Below W0.heap.size W0 w' → w'.cell? ⟨b, off + k * 2 + 1, none⟩ = some (.slice am2 ng cm2) ∧ True) := fun w' h => ⟨cell_later h hc2, trivial⟩
        clear h3 hplx m1 hs2 hc2 hkk hng hnd HGQ
        go_enter Tryd.func3, Tryd.ntmps3
        go_wp2_with (go_at_call 5; rw [HW0.out]; refine htf.mono ?_)
        rintro e w1 ⟨rfl, hb1⟩
        have hck := HCK w1 hb1
        clear htf HCK HW0
        go_wp2_with (go_at_call 6; refine hck.mono ?_)
        rintro e w2 ⟨rfl, hb2⟩
        have hb2 := hb1.trans (hb2.mono hb1.size)
        have her := HE0 w2 hb2
        clear hck HE0 hb1
        go_wp2_with (go_at_call 7; refine her.mono ?_)
        rintro e w3 ⟨rfl, hb3⟩
        have hb3 := hb2.trans (hb3.mono hb2.size)
        have hpx := HPX w3
        have hpc := HPC w3 hb3
        clear her hb2 HPC HPX
        have hdk := HDK w3 hb3 k hl1 hk
        obtain ⟨g0, g1⟩ := HCX.out w3 hb3
        clear HDK
        go_wp2_with (first | (go_at_call 8; refine hpx.mono ?_; rintro e w' ⟨rfl, hw⟩; rw [hw]; clear hw w') | (go_at_call 9; refine hpc.mono ?_; rintro e w' ⟨rfl, hw⟩; rw [hw]; clear hw w') | (go_at_call 10; refine hdk.mono ?_))
        rintro e w4 ⟨ga, gc, rfl, hf4, hb4⟩
        have hb4 := hb3.trans (hb4.mono hb3.size)
        rw [HDQ.out] at hf4 ⊢
        rw [HND.out]
        have hgt := HGT w4 hb4
        clear hdk hpx hpc hb3 g0 g1 HGT
        go_wp2_with (go_at_call 11; refine hgt.mono ?_)
        rintro e w5 ⟨g5, c5, rfl, hs5, hb5⟩
        replace hf4 := hf4.below hb5
        have hb5 := hb4.trans (hb5.mono hb4.size)
        clear hgt hb4
        have her := HE1 w5 hb5
        go_wp2_with (go_at_call 7; refine her.mono ?_)
        rintro e w6 ⟨rfl, hb6⟩
        replace hf4 := hf4.below hb6
        replace hs5 := hs5.below hb6
        have hb6 := hb5.trans (hb6.mono hb5.size)
        have htx := HTX w6 g5 c5 hs5 hb6
        clear her hb5 hs5
        go_wp2_with (go_at_call 12; refine htx.mono ?_)
        rintro e w7 ⟨rfl, hb7⟩
        replace hf4 := hf4.below hb7
        have hb7 := hb6.trans (hb7.mono hb6.size)
        have hdr := HDR w7 hb7
        clear htx hb6 HDR
        go_wp2_with (go_at_call 13; refine hdr.mono ?_)
        rintro e w8 ⟨g8, c8, rfl, hf8, _, hb8⟩
        replace hf4 := hf4.below hb8
        have hb8 := hb7.trans (hb8.mono hb7.size)
        have her := HE1 w8 hb8
        clear hdr hb7 HE1
        go_wp2_with (go_at_call 7; refine her.mono ?_)
        rintro e w9 ⟨rfl, hb9⟩
        replace hf8 := hf8.below hb9
        replace hf4 := hf4.below hb9
        have hb9 := hb8.trans (hb9.mono hb8.size)
        have hte := trees_eq g8 ga DL c8 gc w9 hf8 hf4 DS.out.1 DS.out.2
        rw [HND.out] at hte
        clear hf4
        clear her hb8 hf8
        go_wp2_with (go_at_call 14; refine hte.mono ?_)
        rintro e wa ⟨rfl, hba⟩
        have hba := hb9.trans (hba.mono hb9.size)
        obtain ⟨d0, d1⟩ := HBX.out wa hba
        clear hte hb9
    all_goals
      by_cases h4 : f2 = 0
      case' neg =>
        obtain rfl : u2 = f2 := by rw [← HU2.out, uf_file HT2.out (by rw [fOne_path (x := (p, ss)) (by rw [HF2.out]; exact h4)]; show pf p.data.toList ≠ 0; rw [HF2.out]; exact h4), fOne_path (x := (p, ss)) (by rw [HF2.out]; exact h4)]; exact HF2.out
        obtain rfl : UL = [] := by rw [← HUL.out]; exact ul_not (by rw [HU2.out]; exact h4)
        simp only [List.length_nil] at HPU
        have hz4 : (u2 == 0) = false := by simpa using h4
        clear h4
        have hpp := HPP wa
        have hpu := HPU wa hba
        clear HPU HPP
        go_wp2_with (first | (go_at_call 8; refine hpp.mono ?_; rintro e w' ⟨rfl, hw⟩; rw [hw]; clear hw w') | (go_at_call 17; refine hpu.mono ?_))
        rintro e wc ⟨gc5, cc5, rfl, hfc, _, hbc⟩
        have hbc := hba.trans (hbc.mono hba.size)
        have her := HE2 wc hbc
        clear hpu hba HE2
        go_wp2_with (go_at_call 7; refine her.mono ?_)
        rintro e wd ⟨rfl, hbd⟩
        have hte := trees_none gc5 cc5 wd
        have hbd := hbc.trans (hbd.mono hbc.size)
        clear her hbc hfc
        go_wp2_with (go_at_call 14; refine hte.mono ?_)
        rintro e we ⟨rfl, hbe⟩
        have hbe := hbd.trans (hbe.mono hbd.size)
        clear hte hbd
        go_wp2
        go_ret
        exact ⟨rfl, HB0.out.trans (hbe.mono HB0.out.size)⟩
      case' pos =>
        subst h4
        have HO : Hid (fOne (p, ss) = f3) := by show fOne (p, ss) = f3; rw [fOne_lines (x := (p, ss)) HF2.out]; exact HF3.out
        by_cases h5 : f3 = 0
        case' neg =>
          obtain rfl : u2 = f3 := by rw [← HU2.out, uf_file HT2.out (by rw [HO.out]; exact h5)]; exact HO.out
          obtain rfl : UL = [] := by rw [← HUL.out]; exact ul_not (by rw [HU2.out]; exact h5)
          simp only [List.length_nil] at HPU
          have hz5 : (u2 == 0) = false := by simpa using h5
          clear h5
          have hpp := HPP wa
          have hlf := HLF wa hba
          have hpu := HPU wa hba
          clear HPU HPP HLF
          go_wp2_with (first | (go_at_call 8; refine hpp.mono ?_; rintro e w' ⟨rfl, hw⟩; rw [hw]; clear hw w') | (go_at_call 15; refine hlf.mono ?_; rintro e w' ⟨rfl, hw⟩; rw [hw]; clear hw w') | (go_at_call 17; refine hpu.mono ?_))
          rintro e wc ⟨gc5, cc5, rfl, hfc, _, hbc⟩
          have hbc := hba.trans (hbc.mono hba.size)
          have her := HE2 wc hbc
          clear hpu hba HE2
          go_wp2_with (go_at_call 7; refine her.mono ?_)
          rintro e wd ⟨rfl, hbd⟩
          have hte := trees_none gc5 cc5 wd
          have hbd := hbc.trans (hbd.mono hbc.size)
          clear her hbc hfc
          go_wp2_with (go_at_call 14; refine hte.mono ?_)
          rintro e we ⟨rfl, hbe⟩
          have hbe := hbd.trans (hbe.mono hbd.size)
          clear hte hbd
          go_wp2
          go_ret
          exact ⟨rfl, HB0.out.trans (hbe.mono HB0.out.size)⟩
        case' pos =>
          subst h5
          by_cases h6 : eqs l p = [] ∧ 8 ≤ n
          case' pos =>
            obtain rfl : u2 = 3 := by rw [← HU2.out]; exact uf_full HT2.out HO.out (by rw [HN.out]; exact h6)
            obtain rfl : pd = -1 := by rw [HPLP.out, if_pos h6.1]
            have h8 : 8 ≤ n := h6.2
            obtain rfl : UL = [] := by rw [← HUL.out]; exact ul_not (by rw [HU2.out]; decide)
            simp only [List.length_nil] at HPU
            clear h6
            have hpp := HPP wa
            have hlf := HLF wa hba
            have hpd := HPD wa hba
            have hpu := HPU wa hba
            clear HPU HPP HLF HPD
            go_wp2_with (first | (go_at_call 8; refine hpp.mono ?_; rintro e w' ⟨rfl, hw⟩; rw [hw]; clear hw w') | (go_at_call 15; refine hlf.mono ?_; rintro e w' ⟨rfl, hw⟩; rw [hw]; clear hw w') | (go_at_call 9; refine hpd.mono ?_; rintro e w' ⟨rfl, hw⟩; rw [hw]; clear hw w') | (go_at_call 17; refine hpu.mono ?_))
            rintro e wc ⟨gc5, cc5, rfl, hfc, _, hbc⟩
            have hbc := hba.trans (hbc.mono hba.size)
            have her := HE2 wc hbc
            clear hpu hba HE2
            go_wp2_with (go_at_call 7; refine her.mono ?_)
            rintro e wd ⟨rfl, hbd⟩
            have hte := trees_none gc5 cc5 wd
            have hbd := hbc.trans (hbd.mono hbc.size)
            clear her hbc hfc
            go_wp2_with (go_at_call 14; refine hte.mono ?_)
            rintro e we ⟨rfl, hbe⟩
            have hbe := hbd.trans (hbe.mono hbd.size)
            clear hte hbd
            go_wp2
            go_ret
            exact ⟨rfl, HB0.out.trans (hbe.mono HB0.out.size)⟩
          case' neg =>
            obtain rfl : u2 = 0 := by rw [← HU2.out]; exact uf_of HT2.out HO.out (by rw [HN.out]; exact h6)
            have HUQ : Hid (putM l (p, ss) = UL) := by show putM l (p, ss) = UL; rw [← HUL.out, ul_of HU2.out]
            obtain ⟨nu, hnu⟩ : ∃ n, UL.length = n := ⟨_, rfl⟩
            have HNU : Hid (UL.length = nu) := hnu
            rw [hnu] at HPU
            have hri := HRI.out
            clear hnu
            by_cases h7 : eqs l p = []
            case' pos =>
              obtain rfl : pd = -1 := by rw [HPLP.out, if_pos h7]
              have h8 : ¬ 8 ≤ n := fun h => h6 ⟨h7, h⟩
            case' neg =>
              obtain rfl : pd = (pl l p : Int) := by rw [HPLP.out, if_neg h7]
              have h8 : True := trivial
            all_goals
              clear h6 h7
              have hpp := HPP wa
              have hlf := HLF wa hba
              have hpd := HPD wa hba
              have hpr := HPR wa hba hri hl1
              clear HPP HLF HPD HPR
              go_wp2_with (first | (go_at_call 8; refine hpp.mono ?_; rintro e w' ⟨rfl, hw⟩; rw [hw]; clear hw w') | (go_at_call 15; refine hlf.mono ?_; rintro e w' ⟨rfl, hw⟩; rw [hw]; clear hw w') | (go_at_call 9; refine hpd.mono ?_; rintro e w' ⟨rfl, hw⟩; rw [hw]; clear hw w') | (go_at_call 16; refine hpr.mono ?_; rintro e wb ⟨gb, cb, rfl, hfb, hbb⟩; have hbb := hba.trans (hbb.mono hba.size); rw [HUQ.out] at hfb; rw [HUQ.out, HNU.out]; obtain ⟨d2, d3⟩ := HBX.out wb hbb; have hpu := HPU wb hbb; clear HPU hpr hba d0 d1 hpp hlf hpd) | (go_at_call 17; refine hpu.mono ?_))
              rintro e wc ⟨gc5, cc5, rfl, hfc, _, hbc⟩
              replace hfb := hfb.below hbc
              have hbc := hbb.trans (hbc.mono hbb.size)
              have her := HE2 wc hbc
              clear hpu hbb HE2
              go_wp2_with (go_at_call 7; refine her.mono ?_)
              rintro e wd ⟨rfl, hbd⟩
              have hte := trees_eq gc5 gb UL cc5 cb wd (hfc.below hbd) (hfb.below hbd) US.out.1 US.out.2
              rw [HNU.out] at hte
              clear hfb
              have hbd := hbc.trans (hbd.mono hbc.size)
              clear her hbc hfc
              go_wp2_with (go_at_call 14; refine hte.mono ?_)
              rintro e we ⟨rfl, hbe⟩
              have hbe := hbd.trans (hbe.mono hbd.size)
              clear hte hbd
              go_wp2
              go_ret
              exact ⟨rfl, HB0.out.trans (hbe.mono HB0.out.size)⟩

end Go.Proofs.YtlmibninfpebiacDoor
