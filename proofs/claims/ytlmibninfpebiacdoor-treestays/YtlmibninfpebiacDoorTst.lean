/-
  The walk of the law TreeStays: what is put is there, and all else as it was; dropped it is not there; what comes is a tree.
-/
import Derived.Test.YtlmibninfpebiacDoorTis

namespace Go.Proofs.YtlmibninfpebiacDoor
open Go.RowKit

theorem fact_tree : tf [] = (0, 0) := by rfl

set_option maxRecDepth 100000 in
theorem fact_file : fOne (⟨#[97]⟩, [⟨#[120]⟩]) = 0 := by decide +kernel

theorem fact_put : uf [] (⟨#[97]⟩, [⟨#[120]⟩]) = 0 ∧ ul [] (⟨#[97]⟩, [⟨#[120]⟩]) = [(⟨#[97]⟩, [⟨#[120]⟩])] := by
  have h : uf [] (⟨#[97]⟩, [⟨#[120]⟩]) = 0 := uf_of (by rw [fact_tree]) fact_file (fun h => by have := h.2; simp at this)
  refine ⟨h, ?_⟩
  rw [ul_of h]; rfl

/-- A line in a block of its own. -/
theorem strs_new (w : World) (s : ByteArray) (t : TypeId) : Strs (w.alloc (.cells #[.string s] t)) (some ⟨w.heap.size, 0, none⟩) [s] := by
  intro i hi
  obtain rfl : i = 0 := by simpa using hi
  exact ⟨_, 0, rfl, Lib.cell_of_heap (heap_alloc_new w (.cells #[.string s] t)) 0⟩

set_option maxRecDepth 100000 in
set_option maxHeartbeats 16000000 in
theorem treeStays_any (a : Option Addr) (l : List Fl) (ca : Nat) (x p : ByteArray) (am : Option Addr) (ss : List ByteArray) (cm : Nat) (w : World) (ha : Fls w a l) (hca : l.length ≤ ca) (hm : l.length ≤ maxLen) (hms : ∀ y ∈ l, y.2.length ≤ maxLen) (_hts : ∀ y ∈ l, ∀ s ∈ y.2, s.size ≤ maxLen) (hst : Strs w am ss) (hss : ss.length ≤ maxLen) (_hsz : ∀ s ∈ ss, s.size ≤ maxLen) (hsc : ss.length ≤ cm) (ht : TypeLaid w) :
    Calls Tryd.prog 4 #[.slice a l.length ca, .agg #[.string p, .slice am ss.length cm], .string x] w fun e w' => e = .returned (.bool true) ∧ Below w.heap.size w w' := by
  have hb0 := below_alloc w (.cells #[.string p, .slice am ss.length cm] 25)
  have c0 := cells2_later (Below.refl (w.alloc (.cells #[.string p, .slice am ss.length cm] 25)).heap.size (w.alloc (.cells #[.string p, .slice am ss.length cm] 25)))
  obtain ⟨W0, hW0⟩ : ∃ W0, w.alloc (.cells #[.string p, .slice am ss.length cm] 25) = W0 := ⟨_, rfl⟩
  have hsw : W0.heap.size = w.heap.size + 1 := by rw [← hW0]; simp
  rw [hW0] at hb0 c0
  have HBX : Hid (∀ w', Below W0.heap.size W0 w' → w'.cell? ⟨w.heap.size, 0, none⟩ = some (.string p) ∧ w'.cell? ⟨w.heap.size, 1, none⟩ = some (.slice am ss.length cm)) := fun w' h => ⟨cell_later h c0.1, cell_later h c0.2⟩
  have HB0 : Hid (Below w.heap.size w W0) := hb0
  replace ha := ha.below hb0
  replace hst := hst.below hb0
  replace ht := ht.below hb0
  have HA : Hid (∀ w', Below W0.heap.size W0 w' → Fls w' a l) := fun w' h => ha.below h
  have HS : Hid (∀ w', Below W0.heap.size W0 w' → Strs w' am ss) := fun w' h => hst.below h
  have HT : Hid (∀ w', Below W0.heap.size W0 w' → TypeLaid w') := fun w' h => ht.below h
  have hp0 := putOf none [] 0 ⟨#[97]⟩ (some ⟨W0.heap.size, 0, none⟩) [⟨#[120]⟩] 1 (W0.alloc (.cells #[.string ⟨#[120]⟩] 9)) (Fls.nil _ _) (Nat.le_refl _) (Nat.zero_le _) (fun y hy => by cases hy) (strs_new W0 _ _) (by unfold maxLen; simp) (Nat.le_refl _)
  rw [fact_put.1, fact_put.2, errV_zero] at hp0
  have hbs := below_alloc W0 (.cells #[.string ⟨#[120]⟩] 9)
  have HBS : Hid (Below W0.heap.size W0 (W0.alloc (.cells #[.string ⟨#[120]⟩] 9))) := hbs
  have HPU := fun w' (h : Below W0.heap.size W0 w') => putOf a l ca p am ss cm w' (ha.below h) hca hm hms (hst.below h) hss hsc
  have HGO := fun w' (h : Below W0.heap.size W0 w') => getOf a l ca x w' (ha.below h) hm hms
  have HPD := fun w' (h : Below W0.heap.size W0 w') => placeRef a l ca p w' (ha.below h) hm
  have US : Hid ((ul l (p, ss)).length ≤ maxLen ∧ ∀ y ∈ ul l (p, ss), y.2.length ≤ maxLen) := small_files ul_small
  have HLM : Hid (l.length ≤ maxLen ∧ ∀ y ∈ l, y.2.length ≤ maxLen) := ⟨hm, hms⟩
  obtain ⟨n, hn⟩ : ∃ n, l.length = n := ⟨_, rfl⟩
  have HN : Hid (l.length = n) := hn
  have HW0 : Hid (w.alloc (.cells #[.string p, .slice am ss.length cm] 25) = W0) := hW0
  rw [hn] at HPU HGO HPD ⊢
  obtain ⟨q, hq⟩ : ∃ q, ss.length = q := ⟨_, rfl⟩
  have HQ : Hid (ss.length = q) := hq
  rw [hq] at HBX HPU HW0 ⊢
  have HTX := fun w' g c (h1 : Strs w' g ss) (h : Below W0.heap.size W0 w') => texts_eq g am ss c cm w' h1 (HS.out w' h) hss
  rw [HQ.out] at HTX
  rw [hsw] at hp0
  simp only [List.length_nil, List.length_cons, Nat.zero_add] at hp0
  clear ha hca hm hms _hts hst hss _hsz hsc ht hb0 c0 hW0 hn hq hbs hsw
  by_cases hu : uf l (p, ss) = 0
  case' neg =>
    obtain ⟨u, hu2⟩ : ∃ u, uf l (p, ss) = u := ⟨_, rfl⟩
    obtain ⟨nu, hnu⟩ : ∃ n, (ul l (p, ss)).length = n := ⟨_, rfl⟩
    rw [errV_not hu, hu2, hnu] at HPU
    clear hu hu2 hnu HGO HPD HTX
    go_enter Tryd.func4, Tryd.ntmps4
    go_wp2_with (go_at_call 17; rw [HW0.out]; refine hp0.mono ?_)
    rintro e w1 ⟨g1, c1, rfl, hf1, _, hb1⟩
    have hb1 := HBS.out.trans (hb1.mono HBS.out.size)
    obtain ⟨b1, o1, rfl⟩ := hf1.addr (i := 0) (by simp)
    obtain ⟨_, _, k1, _⟩ := hf1.at (i := 0) (by simp)
    replace k1 : w1.cell? ⟨b1, o1, none⟩ = some (.string ⟨#[97]⟩) := k1
    obtain ⟨d0, d1⟩ := HBX.out w1 hb1
    have hpu := HPU w1 hb1
    clear hp0 HW0 HBS HPU hf1
    go_wp2_with (go_at_call 17; refine hpu.mono ?_)
    rintro e w2 ⟨gx, cx, rfl, hfx, hcx, hb2⟩
    have hb2 := hb1.trans (hb2.mono hb1.size)
    clear hpu hb1 k1 d0 d1
    go_wp2
    go_ret
    exact ⟨rfl, HB0.out.trans (hb2.mono HB0.out.size)⟩
  case' pos =>
    have hUL := ul_of hu
    rw [hu, errV_zero, hUL] at HPU
    rw [hUL] at US
    obtain ⟨h1, h2, h3⟩ := uf_zero hu
    obtain ⟨k1, hri, k3⟩ := tf_zero h1
    have hpl := hri.plc p
    have hlen := hri.put_length (p, ss)
    have htx := tf_put hu
    obtain ⟨hg1, hg2⟩ := gl_put hu
    have hgo := fun h : x ≠ p => gl_other (p := x) hu h
    have hdp := drop_put l (p, ss)
    have hdl := dl_of (l := putM l (p, ss)) hg1
    rw [hdp] at hdl
    have hgy : gf (dropM l p) p = 4 := gf_dropped h1 (fOne_zero h2).1
    have hyn := fun h : eqs l p = [] => hri.dropM_none h
    have DS : Hid ((dropM l p).length ≤ maxLen ∧ ∀ y ∈ dropM l p, y.2.length ≤ maxLen) := by
      have := tf_drop (p := p) h1
      obtain ⟨q1, _, q3⟩ := tf_zero (l := dropM l p) (by rw [this])
      exact small_files ⟨q1, q3⟩
    have HGX := fun w' g c (h : Fls w' g (putM l (p, ss))) => getOf g (putM l (p, ss)) c p w' h US.out.1 US.out.2
    have HG2 := fun w' g c (h : Fls w' g (putM l (p, ss))) => getOf g (putM l (p, ss)) c x w' h US.out.1 US.out.2
    have HCX := fun w' g c (h : Fls w' g (putM l (p, ss))) => treeCheck g (putM l (p, ss)) c w' h US.out.1 US.out.2
    have HDX := fun w' g c (h : Fls w' g (putM l (p, ss))) (hc : (putM l (p, ss)).length ≤ c) => dropOf g (putM l (p, ss)) c p w' h hc US.out.1 US.out.2
    have HGY := fun w' g c (h : Fls w' g (dropM l p)) => getOf g (dropM l p) c p w' h DS.out.1 DS.out.2
    have HER := fun w' h => error_err 4 4 w' (HT.out w' h)
    simp only [hg1, hg2, errV_zero] at HGX
    simp only [htx, errV_zero] at HCX
    simp only [hg1, errV_zero, hdl] at HDX
    rw [hgy, gl_not (by rw [hgy]; decide), errV_not (by decide)] at HGY
    have GS : Hid ((gl l x).length ≤ 60) := gl_small.1
    obtain ⟨X, hX⟩ : ∃ X, putM l (p, ss) = X := ⟨_, rfl⟩
    obtain ⟨Y, hY⟩ : ∃ Y, dropM l p = Y := ⟨_, rfl⟩
    rw [hX] at HPU HGX HG2 HCX HDX hgo hlen
    rw [hY] at HDX HGY hyn
    have HLEN : Hid ((eqs l p ≠ [] → X.length = n) ∧ (eqs l p = [] → X.length = n + 1)) := by rw [← HN.out]; exact hlen
    have HYN : Hid (eqs l p = [] → Y = l) := hyn
    have HPL : Hid (plc l p = if eqs l p = [] then -1 else (pl l p : Int)) := hpl
    obtain ⟨nx, hnx⟩ : ∃ n, X.length = n := ⟨_, rfl⟩
    obtain ⟨ny, hny⟩ : ∃ n, Y.length = n := ⟨_, rfl⟩
    have HNX : Hid (X.length = nx) := hnx
    have HNY : Hid (Y.length = ny) := hny
    have hn8 : n ≤ 8 := by rw [← HN.out]; exact k1
    rw [hnx] at HPU HGX HG2 HCX HDX
    rw [hny] at HDX HGY
    rw [HQ.out] at HGX
    have HXX : Hid (∀ (h : x ≠ p), gf X x = gf l x ∧ gl X x = gl l x) := hgo
    obtain ⟨pd, hpd⟩ : ∃ c, plc l p = c := ⟨_, rfl⟩
    rw [hpd] at HPD HPL
    clear hu hUL h1 h2 h3 k1 hri k3 hpl hlen htx hg1 hg2 hgo hdp hdl hgy hyn hX hY hnx hny hpd
    by_cases hxp : x = p
    case' pos =>
      have hbq : (x.toList == p.toList) = true := by rw [hxp]; simp
      clear hxp HXX
      go_enter Tryd.func4, Tryd.ntmps4
      go_wp2_with (go_at_call 17; rw [HW0.out]; refine hp0.mono ?_)
      rintro e w1 ⟨g1, c1, rfl, hf1, _, hb1⟩
      have hb1 := HBS.out.trans (hb1.mono HBS.out.size)
      obtain ⟨b1, o1, rfl⟩ := hf1.addr (i := 0) (by simp)
      obtain ⟨_, _, k1, _⟩ := hf1.at (i := 0) (by simp)
      replace k1 : w1.cell? ⟨b1, o1, none⟩ = some (.string ⟨#[97]⟩) := k1
      obtain ⟨d0, d1⟩ := HBX.out w1 hb1
      have hpu := HPU w1 hb1
      clear hp0 HW0 HBS HPU hf1
      go_wp2_with (go_at_call 17; refine hpu.mono ?_)
      rintro e w2 ⟨gx, cx, rfl, hfx, hcx, hb2⟩
      have hb2 := hb1.trans (hb2.mono hb1.size)
      clear hpu hb1 k1 d0 d1
      have hgx := HGX w2 gx cx hfx
      obtain ⟨d0, d1⟩ := HBX.out w2 hb2
      clear HGX
      go_wp2_with (go_at_call 11; refine hgx.mono ?_)
      rintro e w3 ⟨g3, c3, rfl, hs3, hb3⟩
      replace hfx := hfx.below hb3
      have hb3 := hb2.trans (hb3.mono hb2.size)
      have htx := HTX w3 g3 c3 hs3 hb3
      obtain ⟨d2, d3⟩ := HBX.out w3 hb3
      clear hgx hb2 HTX d0 d1 hs3
      go_wp2_with (go_at_call 12; refine htx.mono ?_)
      rintro e w4 ⟨rfl, hb4⟩
      replace hfx := hfx.below hb4
      have hb4 := hb3.trans (hb4.mono hb3.size)
      have hcx2 := HCX w4 gx cx hfx
      clear htx hb3 HCX d2 d3
      go_wp2_with (go_at_call 6; refine hcx2.mono ?_)
      rintro e w5 ⟨rfl, hb5⟩
      replace hfx := hfx.below hb5
      have hb5 := hb4.trans (hb5.mono hb4.size)
      obtain ⟨d0, d1⟩ := HBX.out w5 hb5
      clear hcx2 hb4
      have hdx := HDX w5 gx cx hfx hcx
      clear HDX
      go_wp2_with (go_at_call 13; refine hdx.mono ?_)
      rintro e wa ⟨ga, cga, rfl, hfa, _, hba⟩
      have hba := hb5.trans (hba.mono hb5.size)
      obtain ⟨d4, d5⟩ := HBX.out wa hba
      have hgy := HGY wa ga cga hfa
      clear hdx hb5 HGY d0 d1
      go_wp2_with (go_at_call 11; refine hgy.mono ?_)
      rintro e wb ⟨gb, cb, rfl, _, hbb⟩
      replace hfa := hfa.below hbb
      have hbb := hba.trans (hbb.mono hba.size)
      have her := HER wb hbb
      clear hgy hba HER d4 d5
      go_wp2_with (go_at_call 7; refine her.mono ?_)
      rintro e wc ⟨rfl, hbc⟩
      replace hfa := hfa.below hbc
      have hbc := hbb.trans (hbc.mono hbb.size)
      obtain ⟨d6, d7⟩ := HBX.out wc hbc
      have hpd := HPD wc hbc
      clear her hbb HPD
      by_cases h7 : eqs l p = []
      · obtain rfl : pd = -1 := by rw [HPL.out, if_pos h7]
        have hYl := HYN.out h7
        have hte := trees_eq ga a Y cga ca wc hfa (by rw [hYl]; exact HA.out wc hbc) (by rw [hYl]; exact HLM.out.1) (by rw [hYl]; exact HLM.out.2)
        obtain rfl : ny = n := by rw [← HNY.out, hYl]; exact HN.out
        rw [HNY.out] at hte
        clear h7 hYl
        go_wp2_with (first | (go_at_call 9; refine hpd.mono ?_; rintro e w' ⟨rfl, hw⟩; rw [hw]; clear hw w') | (go_at_call 14; refine hte.mono ?_; rintro e wd ⟨rfl, hbd⟩; have hbd := hbc.trans (hbd.mono hbc.size)))
        go_ret
        exact ⟨rfl, HB0.out.trans (hbd.mono HB0.out.size)⟩
      · obtain rfl : pd = (pl l p : Int) := by rw [HPL.out, if_neg h7]
        obtain rfl : nx = n := by rw [← HNX.out]; exact HLEN.out.1 h7
        obtain ⟨k, hk⟩ : ∃ k, pl l p = k := ⟨_, rfl⟩
        rw [hk] at hpd
        clear h7 hk
        go_wp2_with (go_at_call 9; refine hpd.mono ?_; rintro e w' ⟨rfl, hw⟩; rw [hw]; clear hw w')
        go_ret
        exact ⟨rfl, HB0.out.trans (hbc.mono HB0.out.size)⟩
    case' neg =>
      have hbq : (x.toList == p.toList) = false := by rw [ba_beq]; exact decide_eq_false hxp
      obtain ⟨hx1, hx2⟩ := HXX.out hxp
      rw [hx1, hx2] at HG2
      obtain ⟨GL, hGL⟩ : ∃ g, gl l x = g := ⟨_, rfl⟩
      obtain ⟨ng, hng⟩ : ∃ n, GL.length = n := ⟨_, rfl⟩
      have HNG : Hid (GL.length = ng) := hng
      rw [hGL] at HGO HG2 GS
      rw [hng] at HGO HG2
      clear hxp HXX hx1 hx2 hGL hng
      by_cases he : gf l x = 0
      case' pos =>
        rw [he, errV_zero] at HGO HG2
        clear he
      case' neg =>
        rw [errV_not he] at HGO HG2
        obtain ⟨e3, he3⟩ : ∃ e, gf l x = e := ⟨_, rfl⟩
        rw [he3] at HGO HG2
        clear he he3
      all_goals
        go_enter Tryd.func4, Tryd.ntmps4
        go_wp2_with (go_at_call 17; rw [HW0.out]; refine hp0.mono ?_)
        rintro e w1 ⟨g1, c1, rfl, hf1, _, hb1⟩
        have hb1 := HBS.out.trans (hb1.mono HBS.out.size)
        obtain ⟨b1, o1, rfl⟩ := hf1.addr (i := 0) (by simp)
        obtain ⟨_, _, k1, _⟩ := hf1.at (i := 0) (by simp)
        replace k1 : w1.cell? ⟨b1, o1, none⟩ = some (.string ⟨#[97]⟩) := k1
        obtain ⟨d0, d1⟩ := HBX.out w1 hb1
        have hpu := HPU w1 hb1
        clear hp0 HW0 HBS HPU hf1
        go_wp2_with (go_at_call 17; refine hpu.mono ?_)
        rintro e w2 ⟨gx, cx, rfl, hfx, hcx, hb2⟩
        have hb2 := hb1.trans (hb2.mono hb1.size)
        clear hpu hb1 k1 d0 d1
        have hgx := HGX w2 gx cx hfx
        obtain ⟨d0, d1⟩ := HBX.out w2 hb2
        clear HGX
        go_wp2_with (go_at_call 11; refine hgx.mono ?_)
        rintro e w3 ⟨g3, c3, rfl, hs3, hb3⟩
        replace hfx := hfx.below hb3
        have hb3 := hb2.trans (hb3.mono hb2.size)
        have htx := HTX w3 g3 c3 hs3 hb3
        obtain ⟨d2, d3⟩ := HBX.out w3 hb3
        clear hgx hb2 HTX d0 d1 hs3
        go_wp2_with (go_at_call 12; refine htx.mono ?_)
        rintro e w4 ⟨rfl, hb4⟩
        replace hfx := hfx.below hb4
        have hb4 := hb3.trans (hb4.mono hb3.size)
        have hcx2 := HCX w4 gx cx hfx
        clear htx hb3 HCX d2 d3
        go_wp2_with (go_at_call 6; refine hcx2.mono ?_)
        rintro e w5 ⟨rfl, hb5⟩
        replace hfx := hfx.below hb5
        have hb5 := hb4.trans (hb5.mono hb4.size)
        obtain ⟨d0, d1⟩ := HBX.out w5 hb5
        clear hcx2 hb4
        have hgo := HGO w5 hb5
        clear HGO
        go_wp2_with (go_at_call 11; refine hgo.mono ?_)
        rintro e w6 ⟨g6, c6, rfl, hs6, hb6⟩
        replace hfx := hfx.below hb6
        have hb6 := hb5.trans (hb6.mono hb5.size)
        have hg2 := HG2 w6 gx cx hfx
        clear hgo hb5 HG2 d0 d1
        go_wp2_with (go_at_call 11; refine hg2.mono ?_)
        rintro e w7 ⟨g7, c7, rfl, hs7, hb7⟩
        replace hfx := hfx.below hb7
        replace hs6 := hs6.below hb7
        have hb7 := hb6.trans (hb7.mono hb6.size)
        have htx := texts_eq g6 g7 GL c6 c7 w7 hs6 hs7 (by have := GS.out; unfold maxLen; omega)
        rw [HNG.out] at htx
        clear hg2 hb6 hs6 hs7
        go_wp2_with (go_at_call 12; refine htx.mono ?_)
        rintro e w8 ⟨rfl, hb8⟩
        replace hfx := hfx.below hb8
        have hb8 := hb7.trans (hb8.mono hb7.size)
        clear htx hb7
        go_wp2
        go_quiet (fail)
        obtain ⟨d0, d1⟩ := HBX.out _ (below_drawn (q := nq) hb8)
        replace hfx := hfx.below (below_drawn (q := nq) (Below.refl _ _))
        replace hb8 := below_drawn (q := nq) hb8
        generalize w8.drewN nq = w9 at hb8 hfx d0 d1 ⊢
        have hdx := HDX w9 gx cx hfx hcx
        clear HDX
        go_wp2_with (go_at_call 13; refine hdx.mono ?_)
        rintro e wa ⟨ga, cga, rfl, hfa, _, hba⟩
        have hba := hb8.trans (hba.mono hb8.size)
        obtain ⟨d4, d5⟩ := HBX.out wa hba
        have hgy := HGY wa ga cga hfa
        clear hdx hb8 HGY d0 d1
        go_wp2_with (go_at_call 11; refine hgy.mono ?_)
        rintro e wb ⟨gb, cb, rfl, _, hbb⟩
        replace hfa := hfa.below hbb
        have hbb := hba.trans (hbb.mono hba.size)
        have her := HER wb hbb
        clear hgy hba HER d4 d5
        go_wp2_with (go_at_call 7; refine her.mono ?_)
        rintro e wc ⟨rfl, hbc⟩
        replace hfa := hfa.below hbc
        have hbc := hbb.trans (hbc.mono hbb.size)
        obtain ⟨d6, d7⟩ := HBX.out wc hbc
        have hpd := HPD wc hbc
        clear her hbb HPD
        by_cases h7 : eqs l p = []
        · obtain rfl : pd = -1 := by rw [HPL.out, if_pos h7]
          have hYl := HYN.out h7
          have hte := trees_eq ga a Y cga ca wc hfa (by rw [hYl]; exact HA.out wc hbc) (by rw [hYl]; exact HLM.out.1) (by rw [hYl]; exact HLM.out.2)
          obtain rfl : ny = n := by rw [← HNY.out, hYl]; exact HN.out
          rw [HNY.out] at hte
          clear h7 hYl
          go_wp2_with (first | (go_at_call 9; refine hpd.mono ?_; rintro e w' ⟨rfl, hw⟩; rw [hw]; clear hw w') | (go_at_call 14; refine hte.mono ?_; rintro e wd ⟨rfl, hbd⟩; have hbd := hbc.trans (hbd.mono hbc.size)))
          go_ret
          exact ⟨rfl, HB0.out.trans (hbd.mono HB0.out.size)⟩
        · obtain rfl : pd = (pl l p : Int) := by rw [HPL.out, if_neg h7]
          obtain rfl : nx = n := by rw [← HNX.out]; exact HLEN.out.1 h7
          obtain ⟨k, hk⟩ : ∃ k, pl l p = k := ⟨_, rfl⟩
          rw [hk] at hpd
          clear h7 hk
          go_wp2_with (go_at_call 9; refine hpd.mono ?_; rintro e w' ⟨rfl, hw⟩; rw [hw]; clear hw w')
          go_ret
          exact ⟨rfl, HB0.out.trans (hbc.mono HB0.out.size)⟩

end Go.Proofs.YtlmibninfpebiacDoor
