/-
  Walks of the document's own answer for hunks: how much longer marks make a file; the first fault of hunks.
-/
import Derived.Test.YtfmhapajdnmhoafDoorRefE
import Derived.Test.YtfmhapajdnmhoafDoorXbb
import Derived.Deep.RegionWith
import Derived.Deep.RegionHeld3
import Derived.Deep.DrawnRows
namespace Go.Proofs.YtfmhapajdnmhoafDoor
open Go.RowKit Dist

attribute [local go_sem] Go.wp_at_zero Go.wp_at_succ

theorem oldC (a : Option Addr) (ms : List (Int × ByteArray)) (ca : Nat) (w : World) (ha : Mks w a ms) (hf : sf ms = 0) :
    Calls Tryd.prog 13 #[.slice a ms.length ca] w fun e w' => ∃ a' cap, e = .returned (.slice a' (ob ms) cap) ∧ Below w.heap.size w w' :=
  (oldOf a ms ca w ha hf).mono fun e w' ⟨a', cap, he, _, hb⟩ => ⟨a', cap, by rw [he, ob_less ms fun m hm => ((sf_zero hf).2 m hm).1], hb⟩

theorem newC (a : Option Addr) (ms : List (Int × ByteArray)) (ca : Nat) (w : World) (ha : Mks w a ms) (hf : sf ms = 0) :
    Calls Tryd.prog 14 #[.slice a ms.length ca] w fun e w' => ∃ a' cap, e = .returned (.slice a' (nb ms) cap) ∧ Below w.heap.size w w' :=
  (newOf a ms ca w ha hf).mono fun e w' ⟨a', cap, he, _, hb⟩ => ⟨a', cap, by rw [he, nb_less ms fun m hm => ((sf_zero hf).2 m hm).1], hb⟩

set_option maxHeartbeats 400000 in
theorem moreOf (a : Option Addr) (ms : List (Int × ByteArray)) (ca : Nat) (w : World) (ha : Mks w a ms) (hf : sf ms = 0) :
    Calls Tryd.prog 25 #[.slice a ms.length ca] w fun e w' => e = .returned (.int .i64 ((nb ms : Int) - ob ms)) ∧ Below w.heap.size w w' := by
  have hnw := newC a ms ca w ha hf
  have HOL := fun w h => oldC a ms ca w h hf
  have HA : Hid (Mks w a ms) := ha
  have l1 := ob_le ms
  have l2 := nb_le ms
  have l3 := (sf_zero hf).1
  obtain ⟨q, hq⟩ : ∃ q, ms.length = q := ⟨_, rfl⟩
  obtain ⟨k1, hk1⟩ : ∃ k, ob ms = k := ⟨_, rfl⟩
  obtain ⟨k2, hk2⟩ : ∃ k, nb ms = k := ⟨_, rfl⟩
  rw [hk1] at HOL l1
  rw [hk2] at hnw l2
  rw [hq] at hnw HOL l1 l2 l3
  rw [hq, hk1, hk2]
  clear ha hf hq hk1 hk2
  go_enter Tryd.func25, Tryd.ntmps25
  go_wp2_with (go_at_call 14; refine hnw.mono ?_)
  rintro e w1 ⟨a1, c1, rfl, hb1⟩
  clear hnw
  go_wp2_with (go_at_call 13; refine (HOL w1 (HA.out.below hb1)).mono ?_)
  rintro e w2 ⟨a2, c2, rfl, hb2⟩
  have hb2 := hb1.trans (hb2.mono hb1.size)
  clear HOL
  go_wp2
  go_ret
  exact ⟨rfl, hb2⟩

set_option maxRecDepth 100000 in
set_option maxHeartbeats 20000000 in
theorem refHunks (a : Option Addr) (l : List (Int × Int × List (Int × ByteArray))) (ca : Nat) (w : World) (ha : Hks w a l) (hm : l.length ≤ maxLen) (hms : ∀ h ∈ l, h.2.2.length ≤ maxLen) (hts : ∀ h ∈ l, ∀ m ∈ h.2.2, m.2.size ≤ maxLen) :
    Calls Tryd.prog 12 #[.slice a l.length ca] w fun e w' => e = .returned (.tuple #[.int .i64 (hf l).1, .int .i64 (hf l).2]) ∧ Below w.heap.size w w' := by
  unfold maxLen at hm
  obtain ⟨n, hn⟩ : ∃ n, l.length = n := ⟨_, rfl⟩
  rw [hn] at hm ⊢
  by_cases hbig : 60 < (n : Int)
  · have he : Hid (hf l = (0, 3)) := hf_big (by rw [hn]; omega)
    clear hn ha hms hts
    go_enter Tryd.func12, Tryd.ntmps12
    go_wp2
    go_ret2
    refine ⟨?_, Below.refl _ _⟩
    rw [he.out]; rfl
  · have HN : Hid (l.length = n) := hn
    have HL : Hid (l.length ≤ 60) := by show l.length ≤ 60; omega
    have HA : Hid (Hks w a l) := ha
    have HM : Hid (∀ h ∈ l, h.2.2.length ≤ maxLen) := hms
    have HTS : Hid (∀ h ∈ l, ∀ m ∈ h.2.2, m.2.size ≤ maxLen) := hts
    clear hn ha hms hts
    obtain ⟨B, hB⟩ : ∃ B, w.heap.size = B := ⟨_, rfl⟩
    have HB : Hid (w.heap.size = B) := hB
    rw [hB]
    clear hB
    go_enter Tryd.func12, Tryd.ntmps12
    go_wp2
    go_loopw [4] (fun i w1 => ∃ k : Nat, k ≤ n ∧ i = .int .i64 k ∧ Below B w w1 ∧ ∀ j : Nat, j < k → hAt l j = 0) (fun i _ => n - (intOf i).toNat)
    case atStart => exact ⟨0, Nat.zero_le _, rfl, Below.refl _ _, by simp⟩
    case round =>
      obtain ⟨wa, rfl⟩ : ∃ wa, wa = wr := ⟨_, rfl⟩
      obtain ⟨k, hk, rfl, hbl, hall⟩ := hrel
      have HALL : Hid (∀ j : Nat, j < k → hAt l j = 0) := hall
      clear hall
      by_cases hlt : k < n
      · have ha := HA.out
        have hkl : k < l.length := by rw [HN.out]; exact hlt
        obtain ⟨b, off, am, cm, rfl, hc1, hc2, hc3, hmk⟩ := ha.at (i := k) hkl
        clear ha
        have hb' : Below w.heap.size w wa := by rw [HB.out]; exact hbl
        replace hc1 := cell_later hb' hc1
        replace hc2 := cell_later hb' hc2
        replace hc3 := cell_later hb' hc3
        replace hmk := hmk.below hb'
        have hml := HM.out _ (mem_getD3 hkl)
        have hmt := HTS.out _ (mem_getD3 hkl)
        have HAT : Hid (hAt l k = hPut (eo (l.take k)) (sh (l.take k)) (l.getD k (0, 0, []))) := rfl
        have HFA : Hid (hAt l k ≠ 0 → hf l = (k, hAt l k)) := hf_at HL.out k HALL.out hkl
        obtain ⟨o, ho⟩ : ∃ o, (l.getD k (0, 0, [])).1 = o := ⟨_, rfl⟩
        obtain ⟨p, hp⟩ : ∃ p, (l.getD k (0, 0, [])).2.1 = p := ⟨_, rfl⟩
        obtain ⟨ms, hms⟩ : ∃ ms, (l.getD k (0, 0, [])).2.2 = ms := ⟨_, rfl⟩
        rw [getD_eta3 l k ho hp hms] at HAT
        rw [ho] at hc1
        rw [hp] at hc2
        rw [hms] at hc3 hmk hml hmt
        clear ho hp hms hb'
        have hb0 := below_alloc wa (.cells #[.int .i64 o, .int .i64 p, .slice am ms.length cm] 51)
        have hsf := scriptFault am ms cm _ (hmk.below hb0) hml hmt
        have hm1 := hmk.below hb0
        obtain ⟨d0, d1, d2⟩ := cells_later (Below.refl (wa.alloc (.cells #[.int .i64 o, .int .i64 p, .slice am ms.length cm] 51)).heap.size (wa.alloc (.cells #[.int .i64 o, .int .i64 p, .slice am ms.length cm] 51)))
        have hszB : B ≤ wa.heap.size := by have := hbl.size; have := HB.out; omega
        have hbl1 := hbl.trans (hb0.mono hszB)
        obtain ⟨q, hq⟩ : ∃ q, ms.length = q := ⟨_, rfl⟩
        have HQ : Hid (ms.length = q) := hq
        unfold maxLen at hml
        rw [hq] at hc3 hsf d0 d1 d2 hm1 hbl1 hml
        clear hb0 hq hmk hmt hkl
        by_cases h1 : sf ms = 0
        · rw [h1] at hsf
          have H1 : Hid (sf ms = 0) := h1
          clear h1
          go_wp2_with (go_at_call 24; refine hsf.mono ?_; rintro e w' ⟨rfl, hw⟩; rw [hw])
          clear hsf hc1 hc2 hc3
          generalize wa.alloc (.cells #[.int .i64 o, .int .i64 p, .slice am q cm] 51) = W1 at d0 d1 d2 hm1 hbl1 ⊢
          obtain ⟨G, hG⟩ : ∃ G, wa.heap.size = G := ⟨_, rfl⟩
          rw [hG] at d0 d1 d2 ⊢
          have D0 : Hid (W1.cell? ⟨G, 0, none⟩ = some (.int .i64 o)) := d0
          have D1 : Hid (W1.cell? ⟨G, 1, none⟩ = some (.int .i64 p)) := d1
          have HM1 : Hid (Mks W1 am ms) := hm1
          clear d0 d1 hm1 hG
          go_loop [7, 8] (fun v j => ∃ t : Nat, t ≤ q ∧ j = .int .i64 t ∧ v = .bool (decide (0 < chg (ms.take t)))) (fun _ j => q - (intOf j).toNat)
          case atStart => exact ⟨0, Nat.zero_le _, rfl, rfl⟩
          case round =>
            obtain ⟨t, htq, rfl, rfl⟩ := hrel
            by_cases htl : t < q
            · have hm1 := HM1.out
              have hsn := tk_snoc ms t (by rw [HQ.out]; exact htl)
              obtain ⟨bm, om, rfl, hx1, _⟩ := hm1.at (i := t) (by rw [HQ.out]; exact htl)
              clear hm1
              obtain ⟨c, hc⟩ : ∃ c, (ms.getD t (0, ByteArray.empty)).1 = c := ⟨_, rfl⟩
              rw [hc] at hx1
              have HS : Hid (chg (ms.take (t + 1)) = chg (ms.take t) + (if c = 32 then 0 else 1)) := by
                show chg (ms.take (t + 1)) = _
                rw [hsn, ch_append, show [ms.getD t (0, ByteArray.empty)] = [((ms.getD t (0, ByteArray.empty)).1, (ms.getD t (0, ByteArray.empty)).2)] from rfl, ch_one, hc]
              obtain ⟨d, hd⟩ : ∃ d, chg (ms.take t) = d := ⟨_, rfl⟩
              rw [hd] at HS ⊢
              clear hd hc hsn
              by_cases hd0 : 0 < d
              · have HS2 : Hid (decide (0 < chg (ms.take (t + 1))) = true) := decide_eq_true (by rw [HS.out]; omega)
                rw [decide_eq_true hd0]
                go_wp2
                go_round
                case rel => exact ⟨t + 1, by omega, by go_num, by rw [HS2.out]⟩
                case measure => simp [intOf]; omega
              · rw [decide_eq_false hd0]
                by_cases hcs : c = 32
                · have HS2 : Hid (decide (0 < chg (ms.take (t + 1))) = false) := decide_eq_false (by rw [HS.out, if_pos hcs]; omega)
                  subst hcs
                  go_wp2
                  go_round
                  case rel => exact ⟨t + 1, by omega, by go_num, by rw [HS2.out]⟩
                  case measure => simp [intOf]; omega
                · have HS2 : Hid (decide (0 < chg (ms.take (t + 1))) = true) := decide_eq_true (by rw [HS.out, if_neg hcs]; omega)
                  have hne : (c != 32) = true := by simpa using hcs
                  go_wp2
                  go_round
                  case rel => exact ⟨t + 1, by omega, by go_num, by rw [HS2.out]⟩
                  case measure => simp [intOf]; omega
            · have hct : chg (ms.take t) = chg ms := by rw [List.take_of_length_le (by have := HQ.out; omega)]
              rw [hct]
              clear hct
              by_cases hch : chg ms = 0
              · have HG : Hid (hAt l k = 4) := by show hAt l k = 4; rw [HAT.out, hPut_bad (by rw [hOne_none H1.out hch]; decide), hOne_none H1.out hch]
                rw [decide_eq_false (by omega)]
                clear hch
                go_wp2
                go_ret2
                refine ⟨?_, hbl1⟩
                rw [HFA.out (by rw [HG.out]; decide), HG.out]; rfl
              · rw [decide_eq_true (by omega)]
                have HO : Hid (hOne (o, p, ms) = if (fitB o (ob ms) && fitB p (nb ms)) = true then 0 else 1) := hOne_fit H1.out hch
                have HBAD : Hid (hOne (o, p, ms) = 1 → hf l = (k, 1)) := fun h => by
                  have e : hAt l k = 1 := by rw [HAT.out, hPut_bad (by rw [h]; decide), h]
                  rw [HFA.out (by rw [e]; decide), e]
                clear hch
                have d0 := D0.out
                have d1 := D1.out
                by_cases g1 : o < 0
                · have HE : Hid (hf l = (k, 1)) := HBAD.out (by rw [HO.out, if_neg]; simp [fitB]; omega)
                  go_wp2
                  go_quiet (fail)
                  go_wp2
                  go_ret2
                  refine ⟨?_, below_drawn hbl1⟩
                  rw [HE.out]; rfl
                by_cases g2 : 60 < o
                · have HE : Hid (hf l = (k, 1)) := HBAD.out (by rw [HO.out, if_neg]; simp [fitB]; omega)
                  have G2 : Hid (60 < o) := g2
                  clear g1 g2
                  go_wp2
                  have e1 : decide (o < 0) = false := decide_eq_false (by have := G2.out; omega)
                  have e2 : decide (60 < o) = true := decide_eq_true G2.out
                  go_quiet (fail)
                  go_wp2
                  go_ret2
                  refine ⟨?_, below_drawn hbl1⟩
                  rw [HE.out]; rfl
                have G1 : Hid (0 ≤ o ∧ o ≤ 60) := by show 0 ≤ o ∧ o ≤ 60; omega
                clear g1 g2
                by_cases g3 : p < 0
                · have HE : Hid (hf l = (k, 1)) := HBAD.out (by rw [HO.out, if_neg]; simp [fitB]; omega)
                  have G3 : Hid (p < 0) := g3
                  clear g3
                  go_wp2
                  have e1 : decide (o < 0) = false := decide_eq_false (by have := G1.out; omega)
                  have e2 : decide (60 < o) = false := decide_eq_false (by have := G1.out; omega)
                  have e3 : decide (p < 0) = true := decide_eq_true G3.out
                  go_quiet (fail)
                  go_wp2
                  go_ret2
                  refine ⟨?_, below_drawn hbl1⟩
                  rw [HE.out]; rfl
                by_cases g4 : 60 < p
                · have HE : Hid (hf l = (k, 1)) := HBAD.out (by rw [HO.out, if_neg]; simp [fitB]; omega)
                  have G4 : Hid (60 < p) := g4
                  clear g3 g4
                  go_wp2
                  have e1 : decide (o < 0) = false := decide_eq_false (by have := G1.out; omega)
                  have e2 : decide (60 < o) = false := decide_eq_false (by have := G1.out; omega)
                  have e3 : decide (p < 0) = false := decide_eq_false (by have := G4.out; omega)
                  have e4 : decide (60 < p) = true := decide_eq_true G4.out
                  go_quiet (fail)
                  go_wp2
                  go_ret2
                  refine ⟨?_, below_drawn hbl1⟩
                  rw [HE.out]; rfl
                have G3 : Hid (0 ≤ p ∧ p ≤ 60) := by show 0 ≤ p ∧ p ≤ 60; omega
                clear g3 g4
                have HOL := fun w h => oldC am ms cm w h H1.out
                have HNW := fun w h => newC am ms cm w h H1.out
                have l1 := ob_le ms
                have l2 := nb_le ms
                have l3 := (sf_zero H1.out).1
                obtain ⟨k1, hk1⟩ : ∃ k1, ob ms = k1 := ⟨_, rfl⟩
                obtain ⟨k2, hk2⟩ : ∃ k2, nb ms = k2 := ⟨_, rfl⟩
                have HK1 : Hid (ob ms = k1) := hk1
                have HK2 : Hid (nb ms = k2) := hk2
                rw [hk1] at HOL l1 HO
                rw [hk2] at HNW l2 HO
                rw [HQ.out] at HOL HNW l1 l2 l3
                clear hk1 hk2
                have OL := HOL W1.drew HM1.out
                have DD : Hid (∀ w2, Below W1.drew.heap.size W1.drew w2 → w2.cell? ⟨G, 0, none⟩ = some (.int .i64 o) ∧ w2.cell? ⟨G, 1, none⟩ = some (.int .i64 p) ∧ w2.cell? ⟨G, 2, none⟩ = some (.slice am q cm)) := fun w2 h => ⟨cell_later h D0.out, cell_later h D1.out, cell_later h d2⟩
                by_cases g5 : 60 < o + k1
                · have HE : Hid (hf l = (k, 1)) := HBAD.out (by rw [HO.out, if_neg]; simp [fitB]; omega)
                  have G5 : Hid (60 < IntKind.i64.wrap (o + (k1 : Int))) := by have := G1.out; show 60 < IntKind.i64.wrap (o + (k1 : Int)); rw [IntKind.wrap_i64]; omega
                  clear g5
                  go_wp2
                  have e1 : decide (o < 0) = false := decide_eq_false (by have := G1.out; omega)
                  have e2 : decide (60 < o) = false := decide_eq_false (by have := G1.out; omega)
                  have e3 : decide (p < 0) = false := decide_eq_false (by have := G3.out; omega)
                  have e4 : decide (60 < p) = false := decide_eq_false (by have := G3.out; omega)
                  have e5 : decide (60 < IntKind.i64.wrap (o + (k1 : Int))) = true := decide_eq_true G5.out
                  refine wp_region_held_drew (S := fun w' => w'.cell? ⟨G, 0, none⟩ = some (.int .i64 o) ∧ w'.cell? ⟨G, 1, none⟩ = some (.int .i64 p) ∧ w'.cell? ⟨G, 2, none⟩ = some (.slice am q cm)) (by kernel_rfl) ?_ (fun hHeld => ?_)
                  · exact DD.out _ (Below.refl _ _)
                  refine wpAnyH_take (i := 0) (v := ?_) rfl (by kernel_rfl) (by kernel_rfl) (by kernel_rfl) (fun _ _ _ h => h) (Or.inl ⟨by rfl, ?_⟩) (by assumption) ?_
                  rotate_left
                  · intro w' hSw
                    (try dsimp only at hSw)
                    go_simp
                    try with_reducible rfl
                  simp only [Act.put, List.getElem_toArray, List.getElem_cons_zero, List.setIfInBounds_toArray, List.set_cons_zero, List.set_cons_succ]
                  refine wpAnyH_take (i := 1) (v := ?_) rfl (by kernel_rfl) (by kernel_rfl) (by kernel_rfl) (fun _ _ _ h => h) (Or.inl ⟨by rfl, ?_⟩) (by assumption) ?_
                  rotate_left
                  · intro w' hSw
                    (try dsimp only at hSw)
                    go_simp
                    try with_reducible rfl
                  simp only [Act.put, List.getElem_toArray, List.getElem_cons_zero, List.getElem_cons_succ, List.setIfInBounds_toArray, List.set_cons_zero, List.set_cons_succ]
                  refine wpAnyH_take (i := 2) (v := ?_) rfl (by kernel_rfl) (by kernel_rfl) (by kernel_rfl) (fun _ _ _ h => h) (Or.inl ⟨by rfl, ?_⟩) (by assumption) ?_
                  rotate_left
                  · intro w' hSw
                    (try dsimp only at hSw)
                    go_simp
                    try with_reducible rfl
                  simp only [Act.put, List.getElem_toArray, List.getElem_cons_zero, List.getElem_cons_succ, List.setIfInBounds_toArray, List.set_cons_zero, List.set_cons_succ]
                  refine wpAnyH_take (i := 3) (v := ?_) rfl (by kernel_rfl) (by kernel_rfl) (by kernel_rfl) (fun _ _ _ h => h) (Or.inl ⟨by rfl, ?_⟩) (by assumption) ?_
                  rotate_left
                  · intro w' hSw
                    (try dsimp only at hSw)
                    go_simp
                    try with_reducible rfl
                  simp only [Act.put, List.getElem_toArray, List.getElem_cons_zero, List.getElem_cons_succ, List.setIfInBounds_toArray, List.set_cons_zero, List.set_cons_succ]
                  refine wpAnyH_take (i := 4) (v := ?_) rfl (by kernel_rfl) (by kernel_rfl) (by kernel_rfl) (fun _ _ _ h => h) (Or.inl ⟨by rfl, ?_⟩) (by assumption) ?_
                  rotate_left
                  · intro w' hSw
                    (try dsimp only at hSw)
                    go_simp
                    try with_reducible rfl
                  simp only [Act.put, List.getElem_toArray, List.getElem_cons_zero, List.getElem_cons_succ, List.setIfInBounds_toArray, List.set_cons_zero, List.set_cons_succ]
                  refine wpAnyH_take (i := 5) (v := ?_) rfl (by kernel_rfl) (by kernel_rfl) (by kernel_rfl) (fun _ _ _ h => h) (Or.inl ⟨by rfl, ?_⟩) (by assumption) ?_
                  rotate_left
                  · intro w' hSw
                    (try dsimp only at hSw)
                    go_simp
                    try with_reducible rfl
                  simp only [Act.put, List.getElem_toArray, List.getElem_cons_zero, List.getElem_cons_succ, List.setIfInBounds_toArray, List.set_cons_zero, List.set_cons_succ]
                  refine wpAnyH_take (i := 6) (v := ?_) rfl (by kernel_rfl) (by kernel_rfl) (by kernel_rfl) (fun _ _ _ h => h) (Or.inl ⟨by rfl, ?_⟩) (by assumption) ?_
                  rotate_left
                  · intro w' hSw
                    (try dsimp only at hSw)
                    go_simp
                    try with_reducible rfl
                  simp only [Act.put, List.getElem_toArray, List.getElem_cons_zero, List.getElem_cons_succ, List.setIfInBounds_toArray, List.set_cons_zero, List.set_cons_succ]
                  refine wpAnyH_take (i := 7) (v := ?_) rfl (by kernel_rfl) (by kernel_rfl) (by kernel_rfl) (fun _ _ _ h => h) (Or.inl ⟨by rfl, ?_⟩) (by assumption) ?_
                  rotate_left
                  · intro w' hSw
                    (try dsimp only at hSw)
                    go_simp
                    try with_reducible rfl
                  simp only [Act.put, List.getElem_toArray, List.getElem_cons_zero, List.getElem_cons_succ, List.setIfInBounds_toArray, List.set_cons_zero, List.set_cons_succ]
                  refine wpAnyH_take (i := 8) (v := ?_) rfl (by kernel_rfl) (by kernel_rfl) (by kernel_rfl) (fun _ _ _ h => h) (Or.inl ⟨by rfl, ?_⟩) (by assumption) ?_
                  rotate_left
                  · intro w' hSw
                    (try dsimp only at hSw)
                    go_simp
                    try with_reducible rfl
                  simp only [Act.put, List.getElem_toArray, List.getElem_cons_zero, List.getElem_cons_succ, List.setIfInBounds_toArray, List.set_cons_zero, List.set_cons_succ]
                  refine wpAnyH_take (i := 9) (v := ?_) rfl (by kernel_rfl) (by kernel_rfl) (by kernel_rfl) (fun _ _ _ h => h) (Or.inl ⟨by rfl, ?_⟩) (by assumption) ?_
                  rotate_left
                  · intro w' hSw
                    (try dsimp only at hSw)
                    go_simp
                    try with_reducible rfl
                  simp only [Act.put, List.getElem_toArray, List.getElem_cons_zero, List.getElem_cons_succ, List.setIfInBounds_toArray, List.set_cons_zero, List.set_cons_succ]
                  refine wpAnyH_take (i := 10) (v := ?_) rfl (by kernel_rfl) (by kernel_rfl) (by kernel_rfl) (fun _ _ _ h => h) (Or.inl ⟨by rfl, ?_⟩) (by assumption) ?_
                  rotate_left
                  · intro w' hSw
                    (try dsimp only at hSw)
                    go_simp
                    try with_reducible rfl
                  simp only [Act.put, List.getElem_toArray, List.getElem_cons_zero, List.getElem_cons_succ, List.setIfInBounds_toArray, List.set_cons_zero, List.set_cons_succ]
                  refine wpAnyH_take (i := 11) (v := ?_) rfl (by kernel_rfl) (by kernel_rfl) (by kernel_rfl) (fun _ _ _ h => h) (Or.inl ⟨by rfl, ?_⟩) (by assumption) ?_
                  rotate_left
                  · intro w' hSw
                    (try dsimp only at hSw)
                    go_simp
                    try with_reducible rfl
                  simp only [Act.put, List.getElem_toArray, List.getElem_cons_zero, List.getElem_cons_succ, List.setIfInBounds_toArray, List.set_cons_zero, List.set_cons_succ]
                  refine wpAnyH_take (i := 12) (v := ?_) rfl (by kernel_rfl) (by kernel_rfl) (by kernel_rfl) (fun _ _ _ h => h) (Or.inl ⟨by rfl, ?_⟩) (by assumption) ?_
                  rotate_left
                  · intro w' hSw
                    (try dsimp only at hSw)
                    go_simp
                    try with_reducible rfl
                  simp only [Act.put, List.getElem_toArray, List.getElem_cons_zero, List.getElem_cons_succ, List.setIfInBounds_toArray, List.set_cons_zero, List.set_cons_succ]
                  refine wpAnyH_take (i := 13) (v := ?_) rfl (by kernel_rfl) (by kernel_rfl) (by kernel_rfl) (fun _ _ _ h => h) (Or.inl ⟨by rfl, ?_⟩) (by assumption) ?_
                  rotate_left
                  · intro w' hSw
                    (try dsimp only at hSw)
                    go_simp
                    try with_reducible rfl
                  simp only [Act.put, List.getElem_toArray, List.getElem_cons_zero, List.getElem_cons_succ, List.setIfInBounds_toArray, List.set_cons_zero, List.set_cons_succ]
                  refine wpAnyH_take (i := 14) (v := ?_) rfl (by kernel_rfl) (by kernel_rfl) (by kernel_rfl) (fun _ _ _ h => h) (Or.inl ⟨by rfl, ?_⟩) (by assumption) ?_
                  rotate_left
                  · intro w' hSw
                    (try dsimp only at hSw)
                    go_simp
                    try with_reducible rfl
                  simp only [Act.put, List.getElem_toArray, List.getElem_cons_zero, List.getElem_cons_succ, List.setIfInBounds_toArray, List.set_cons_zero, List.set_cons_succ]
                  refine wpAnyH_take (i := 15) (v := ?_) rfl (by kernel_rfl) (by kernel_rfl) (by kernel_rfl) (fun _ _ _ h => h) (Or.inl ⟨by rfl, ?_⟩) (by assumption) ?_
                  rotate_left
                  · intro w' hSw
                    (try dsimp only at hSw)
                    go_simp
                    try with_reducible rfl
                  simp only [Act.put, List.getElem_toArray, List.getElem_cons_zero, List.getElem_cons_succ, List.setIfInBounds_toArray, List.set_cons_zero, List.set_cons_succ]
                  refine wpAnyH_take (i := 16) (v := ?_) rfl (by kernel_rfl) (by kernel_rfl) (by kernel_rfl) (fun _ _ _ h => h) (Or.inl ⟨by rfl, ?_⟩) (by assumption) ?_
                  rotate_left
                  · intro w' hSw
                    (try dsimp only at hSw)
                    go_simp
                    try with_reducible rfl
                  simp only [Act.put, List.getElem_toArray, List.getElem_cons_zero, List.getElem_cons_succ, List.setIfInBounds_toArray, List.set_cons_zero, List.set_cons_succ]
                  refine wpAnyH_take (i := 17) (v := ?_) rfl (by kernel_rfl) (by kernel_rfl) (by kernel_rfl) (fun _ _ _ h => h) (Or.inl ⟨by rfl, ?_⟩) (by assumption) ?_
                  rotate_left
                  · intro w' hSw
                    (try dsimp only at hSw)
                    go_simp
                    try with_reducible rfl
                  simp only [Act.put, List.getElem_toArray, List.getElem_cons_zero, List.getElem_cons_succ, List.setIfInBounds_toArray, List.set_cons_zero, List.set_cons_succ]
                  refine wpAnyH_take (i := 18) (v := ?_) rfl (by kernel_rfl) (by kernel_rfl) (by kernel_rfl) (fun _ _ _ h => h) (Or.inl ⟨by rfl, ?_⟩) (by assumption) ?_
                  rotate_left
                  · intro w' hSw
                    (try dsimp only at hSw)
                    go_simp
                    try with_reducible rfl
                  simp only [Act.put, List.getElem_toArray, List.getElem_cons_zero, List.getElem_cons_succ, List.setIfInBounds_toArray, List.set_cons_zero, List.set_cons_succ]
                  refine wpAnyH_take (i := 19) (v := ?_) rfl (by kernel_rfl) (by kernel_rfl) (by kernel_rfl) (fun _ _ _ h => h) (Or.inl ⟨by rfl, ?_⟩) (by assumption) ?_
                  rotate_left
                  · intro w' hSw
                    (try dsimp only at hSw)
                    go_simp
                    try with_reducible rfl
                  simp only [Act.put, List.getElem_toArray, List.getElem_cons_zero, List.getElem_cons_succ, List.setIfInBounds_toArray, List.set_cons_zero, List.set_cons_succ]
                  refine wpAnyH_take (i := 20) (v := ?_) rfl (by kernel_rfl) (by kernel_rfl) (by kernel_rfl) (fun _ _ _ h => h) (Or.inl ⟨by rfl, ?_⟩) (by assumption) ?_
                  rotate_left
                  · intro w' hSw
                    (try dsimp only at hSw)
                    go_simp
                    try with_reducible rfl
                  simp only [Act.put, List.getElem_toArray, List.getElem_cons_zero, List.getElem_cons_succ, List.setIfInBounds_toArray, List.set_cons_zero, List.set_cons_succ]
                  refine wpAnyH_take (i := 21) (v := ?_) rfl (by kernel_rfl) (by kernel_rfl) (by kernel_rfl) (fun _ _ _ h => h) (Or.inl ⟨by rfl, ?_⟩) (by assumption) ?_
                  rotate_left
                  · intro w' hSw
                    (try dsimp only at hSw)
                    go_simp
                    try with_reducible rfl
                  simp only [Act.put, List.getElem_toArray, List.getElem_cons_zero, List.getElem_cons_succ, List.setIfInBounds_toArray, List.set_cons_zero, List.set_cons_succ]
                  refine wpAnyH_take (i := 22) (v := ?_) rfl (by kernel_rfl) (by kernel_rfl) (by kernel_rfl) (fun _ _ _ h => h) (Or.inl ⟨by rfl, ?_⟩) (by assumption) ?_
                  rotate_left
                  · intro w' hSw
                    (try dsimp only at hSw)
                    go_simp
                    try with_reducible rfl
                  simp only [Act.put, List.getElem_toArray, List.getElem_cons_zero, List.getElem_cons_succ, List.setIfInBounds_toArray, List.set_cons_zero, List.set_cons_succ]
                  refine wpAnyH_ready (rs := [23]) (by kernel_rfl) (by simp) ?_
                  refine AllReadyH.cons rfl (fun K hK => ?_) AllReadyH.nil
                  go_simp
                  go_at_call 13; refine OL.mono ?_; rintro e w2 ⟨a2, c2, rfl, hb2⟩
                  go_wp2_with fail
                  refine hK.out _ _ ?_ (fun hHeld => ?_)
                  · exact DD.out _ hb2
                  clear hK K
                  refine wpAnyH_take (i := 24) (v := ?_) rfl (by kernel_rfl) (by kernel_rfl) (by kernel_rfl) (fun _ _ _ h => h) (Or.inl ⟨by rfl, ?_⟩) (by assumption) ?_
                  rotate_left
                  · intro w' hSw
                    (try dsimp only at hSw)
                    go_simp
                    try with_reducible rfl
                  simp only [Act.put, List.getElem_toArray, List.getElem_cons_zero, List.getElem_cons_succ, List.setIfInBounds_toArray, List.set_cons_zero, List.set_cons_succ]
                  refine wpAnyH_take (i := 25) (v := ?_) rfl (by kernel_rfl) (by kernel_rfl) (by kernel_rfl) (fun _ _ _ h => h) (Or.inl ⟨by rfl, ?_⟩) (by assumption) ?_
                  rotate_left
                  · intro w' hSw
                    (try dsimp only at hSw)
                    go_simp
                    try with_reducible rfl
                  simp only [Act.put, List.getElem_toArray, List.getElem_cons_zero, List.getElem_cons_succ, List.setIfInBounds_toArray, List.set_cons_zero, List.set_cons_succ]
                  refine wpAnyH_take (i := 26) (v := ?_) rfl (by kernel_rfl) (by kernel_rfl) (by kernel_rfl) (fun _ _ _ h => h) (Or.inl ⟨by rfl, ?_⟩) (by assumption) ?_
                  rotate_left
                  · intro w' hSw
                    (try dsimp only at hSw)
                    go_simp
                    try with_reducible rfl
                  simp only [Act.put, List.getElem_toArray, List.getElem_cons_zero, List.getElem_cons_succ, List.setIfInBounds_toArray, List.set_cons_zero, List.set_cons_succ]
                  refine wpAnyH_take (i := 27) (v := ?_) rfl (by kernel_rfl) (by kernel_rfl) (by kernel_rfl) (fun _ _ _ h => h) (Or.inl ⟨by rfl, ?_⟩) (by assumption) ?_
                  rotate_left
                  · intro w' hSw
                    (try dsimp only at hSw)
                    go_simp
                    try with_reducible rfl
                  simp only [Act.put, List.getElem_toArray, List.getElem_cons_zero, List.getElem_cons_succ, List.setIfInBounds_toArray, List.set_cons_zero, List.set_cons_succ]
                  refine wpAnyH_take (i := 28) (v := ?_) rfl (by kernel_rfl) (by kernel_rfl) (by kernel_rfl) (fun _ _ _ h => h) (Or.inl ⟨by rfl, ?_⟩) (by assumption) ?_
                  rotate_left
                  · intro w' hSw
                    (try dsimp only at hSw)
                    go_simp
                    try with_reducible rfl
                  simp only [Act.put, List.getElem_toArray, List.getElem_cons_zero, List.getElem_cons_succ, List.setIfInBounds_toArray, List.set_cons_zero, List.set_cons_succ]
                  refine wpAnyH_take (i := 29) rfl (by kernel_rfl) (by kernel_rfl) (by kernel_rfl) (fun _ _ _ h => h) (Or.inr ⟨by rfl, rfl⟩) (by assumption) ?_
                  simp only [Act.put, List.getElem_toArray, List.getElem_cons_zero, List.getElem_cons_succ, List.setIfInBounds_toArray, List.set_cons_zero, List.set_cons_succ]
                  refine wpAnyH_take (i := 30) rfl (by kernel_rfl) (by kernel_rfl) (by kernel_rfl) (fun _ _ _ h => h) (Or.inr ⟨by rfl, rfl⟩) (by assumption) ?_
                  simp only [Act.put, List.getElem_toArray, List.getElem_cons_zero, List.getElem_cons_succ, List.setIfInBounds_toArray, List.set_cons_zero, List.set_cons_succ]
                  refine wpAnyH_take (i := 31) rfl (by kernel_rfl) (by kernel_rfl) (by kernel_rfl) (fun _ _ _ h => h) (Or.inr ⟨by rfl, rfl⟩) (by assumption) ?_
                  simp only [Act.put, List.getElem_toArray, List.getElem_cons_zero, List.getElem_cons_succ, List.setIfInBounds_toArray, List.set_cons_zero, List.set_cons_succ]
                  refine wpAnyH_take (i := 32) rfl (by kernel_rfl) (by kernel_rfl) (by kernel_rfl) (fun _ _ _ h => h) (Or.inr ⟨by rfl, rfl⟩) (by assumption) ?_
                  simp only [Act.put, List.getElem_toArray, List.getElem_cons_zero, List.getElem_cons_succ, List.setIfInBounds_toArray, List.set_cons_zero, List.set_cons_succ]
                  refine wpAnyH_take (i := 33) rfl (by kernel_rfl) (by kernel_rfl) (by kernel_rfl) (fun _ _ _ h => h) (Or.inr ⟨by rfl, rfl⟩) (by assumption) ?_
                  simp only [Act.put, List.getElem_toArray, List.getElem_cons_zero, List.getElem_cons_succ, List.setIfInBounds_toArray, List.set_cons_zero, List.set_cons_succ]
                  refine wpAnyH_take (i := 34) rfl (by kernel_rfl) (by kernel_rfl) (by kernel_rfl) (fun _ _ _ h => h) (Or.inr ⟨by rfl, rfl⟩) (by assumption) ?_
                  simp only [Act.put, List.getElem_toArray, List.getElem_cons_zero, List.getElem_cons_succ, List.setIfInBounds_toArray, List.set_cons_zero, List.set_cons_succ]
                  refine wpAnyH_take (i := 35) rfl (by kernel_rfl) (by kernel_rfl) (by kernel_rfl) (fun _ _ _ h => h) (Or.inr ⟨by rfl, rfl⟩) (by assumption) ?_
                  simp only [Act.put, List.getElem_toArray, List.getElem_cons_zero, List.getElem_cons_succ, List.setIfInBounds_toArray, List.set_cons_zero, List.set_cons_succ]
                  refine wpAnyH_take (i := 36) rfl (by kernel_rfl) (by kernel_rfl) (by kernel_rfl) (fun _ _ _ h => h) (Or.inr ⟨by rfl, rfl⟩) (by assumption) ?_
                  simp only [Act.put, List.getElem_toArray, List.getElem_cons_zero, List.getElem_cons_succ, List.setIfInBounds_toArray, List.set_cons_zero, List.set_cons_succ]
                  refine wpAnyH_take (i := 37) (v := ?_) rfl (by kernel_rfl) (by kernel_rfl) (by kernel_rfl) (fun _ _ _ h => h) (Or.inl ⟨by rfl, ?_⟩) (by assumption) ?_
                  rotate_left
                  · intro w' hSw
                    (try dsimp only at hSw)
                    go_simp
                    try with_reducible rfl
                  simp only [Act.put, List.getElem_toArray, List.getElem_cons_zero, List.getElem_cons_succ, List.setIfInBounds_toArray, List.set_cons_zero, List.set_cons_succ]
                  refine wpAnyH_done (by kernel_rfl) ?_ _
                  all_goals
                    have hb3 : Below B w w2 := (below_drawn (q := 1) hbl1).trans (hb2.mono (by have := hbl1.size; have := HB.out; show B ≤ W1.heap.size; omega))
                    go_wp2
                    go_ret2
                    refine ⟨?_, hb3⟩
                    rw [HE.out]; rfl
                · have NW2 : ∀ w2, Below W1.drew.heap.size W1.drew w2 → Calls Tryd.prog 14 #[.slice am q cm] w2 fun e w' => ∃ a' cap, e = .returned (.slice a' k2 cap) ∧ Below w2.heap.size w2 w' := fun w2 h => HNW w2 ((show Mks W1.drew am ms from HM1.out).below h)
                  by_cases g6 : 60 < p + k2
                  · have HE : Hid (hf l = (k, 1)) := HBAD.out (by rw [HO.out, if_neg]; simp [fitB]; omega)
                    have G5 : Hid (¬ 60 < IntKind.i64.wrap (o + (k1 : Int))) := by have := G1.out; show ¬ 60 < IntKind.i64.wrap (o + (k1 : Int)); rw [IntKind.wrap_i64]; omega
                    have G6 : Hid (60 < IntKind.i64.wrap (p + (k2 : Int))) := by have := G3.out; show 60 < IntKind.i64.wrap (p + (k2 : Int)); rw [IntKind.wrap_i64]; omega
                    clear g5 g6
                    go_wp2
                    have e1 : decide (o < 0) = false := decide_eq_false (by have := G1.out; omega)
                    have e2 : decide (60 < o) = false := decide_eq_false (by have := G1.out; omega)
                    have e3 : decide (p < 0) = false := decide_eq_false (by have := G3.out; omega)
                    have e4 : decide (60 < p) = false := decide_eq_false (by have := G3.out; omega)
                    have e5 : decide (60 < IntKind.i64.wrap (o + (k1 : Int))) = false := decide_eq_false (by have := G5.out; omega)
                    have e6 : decide (60 < IntKind.i64.wrap (p + (k2 : Int))) = true := decide_eq_true G6.out
                    first
                      | (go_region_held3 (fun w' => w'.cell? ⟨G, 0, none⟩ = some (.int .i64 o) ∧ w'.cell? ⟨G, 1, none⟩ = some (.int .i64 p) ∧ w'.cell? ⟨G, 2, none⟩ = some (.slice am q cm)) (first | go_keep | exact DD.out _ hb3 | exact DD.out _ hb2)
                          (first | (go_at_call 13; refine OL.mono ?_; rintro e w2 ⟨a2, c2, rfl, hb2⟩) | (go_at_call 14; refine (NW2 _ hb2).mono ?_; rintro e w3 ⟨a3, c3, rfl, hb3⟩; have hb3 := hb2.trans (hb3.mono hb2.size))))
                      | fail
                    have hb4 : Below B w w3 := (below_drawn (q := 1) hbl1).trans (hb3.mono (by have := hbl1.size; have := HB.out; show B ≤ W1.heap.size; omega))
                    go_wp2
                    go_ret2
                    refine ⟨?_, hb4⟩
                    rw [HE.out]; rfl
                  · have HZ : Hid (hOne (o, p, ms) = 0) := by
                      have := G1.out
                      have := G3.out
                      show hOne (o, p, ms) = 0
                      rw [HO.out, if_pos]
                      simp [fitB]; omega
                    have G5 : Hid (¬ 60 < IntKind.i64.wrap (o + (k1 : Int))) := by have := G1.out; show ¬ 60 < IntKind.i64.wrap (o + (k1 : Int)); rw [IntKind.wrap_i64]; omega
                    have G6 : Hid (¬ 60 < IntKind.i64.wrap (p + (k2 : Int))) := by have := G3.out; show ¬ 60 < IntKind.i64.wrap (p + (k2 : Int)); rw [IntKind.wrap_i64]; omega
                    clear g5 g6
                    go_wp2
                    have e1 : decide (o < 0) = false := decide_eq_false (by have := G1.out; omega)
                    have e2 : decide (60 < o) = false := decide_eq_false (by have := G1.out; omega)
                    have e3 : decide (p < 0) = false := decide_eq_false (by have := G3.out; omega)
                    have e4 : decide (60 < p) = false := decide_eq_false (by have := G3.out; omega)
                    have e5 : decide (60 < IntKind.i64.wrap (o + (k1 : Int))) = false := decide_eq_false (by have := G5.out; omega)
                    have e6 : decide (60 < IntKind.i64.wrap (p + (k2 : Int))) = false := decide_eq_false (by have := G6.out; omega)
                    first
                      | (go_region_held3 (fun w' => w'.cell? ⟨G, 0, none⟩ = some (.int .i64 o) ∧ w'.cell? ⟨G, 1, none⟩ = some (.int .i64 p) ∧ w'.cell? ⟨G, 2, none⟩ = some (.slice am q cm)) (first | go_keep | exact DD.out _ hb3 | exact DD.out _ hb2)
                          (first | (go_at_call 13; refine OL.mono ?_; rintro e w2 ⟨a2, c2, rfl, hb2⟩) | (go_at_call 14; refine (NW2 _ hb2).mono ?_; rintro e w3 ⟨a3, c3, rfl, hb3⟩; have hb3 := hb2.trans (hb3.mono hb2.size))))
                      | fail
                    have hb4 : Below B w w3 := (below_drawn (q := 1) hbl1).trans (hb3.mono (by have := hbl1.size; have := HB.out; show B ≤ W1.heap.size; omega))
                    obtain ⟨d0', d1', _⟩ := DD.out _ hb3
                    have D03 : Hid (w3.cell? ⟨G, 0, none⟩ = some (.int .i64 o)) := d0'
                    have D13 : Hid (w3.cell? ⟨G, 1, none⟩ = some (.int .i64 p)) := d1'
                    obtain ⟨U, hU⟩ : ∃ U, w3.heap.size = U := ⟨_, rfl⟩
                    have HU : Hid (w3.heap.size = U) := hU
                    clear e1 e2 e3 e4 e5 e6 OL NW2 HOL HNW HO HBAD d0 d1 d2 hU d0' d1' hb2 hb3 DD HM1 D0 D1
                    go_wp2
                    go_loopw [9, 10] (fun v j w1 => ∃ t : Nat, t ≤ k ∧ j = .int .i64 t ∧ v = .int .i64 (sh (l.take t)) ∧ Below U w3 w1) (fun _ j _ => k - (intOf j).toNat)
                    case atStart => exact ⟨0, Nat.zero_le _, rfl, rfl, Below.refl _ _⟩
                    case round =>
                      obtain ⟨s, hsk, rfl, rfl, hbs⟩ := hrel
                      have hbs' : Below w3.heap.size w3 wr := by rw [HU.out]; exact hbs
                      have hb5 : Below B w wr := hb4.trans (hbs'.mono (by have := hb4.size; have := HB.out; omega))
                      have hb5' : Below w.heap.size w wr := by rw [HB.out]; exact hb5
                      have hbs0 := hbs
                      by_cases hsl : s < k
                      · have ha := HA.out
                        have hkl : s < l.length := by rw [HN.out]; omega
                        obtain ⟨b', off', am', cm', ea, _, _, hc3, hmk⟩ := ha.at (i := s) hkl
                        simp only [Option.some.injEq, Addr.mk.injEq] at ea
                        obtain ⟨rfl, rfl, _⟩ := ea
                        clear ha
                        replace hc3 := cell_later hb5' hc3
                        replace hmk := hmk.below hb5'
                        have hsf := (hOne_zero (hAt_zero (HALL.out s hsl)).1).1
                        obtain ⟨s1, s2⟩ := sh_bound (k := s) (by omega) (fun j hj => HALL.out j (by omega))
                        have hsn := tk_snoc3 l s hkl
                        have HS : Hid (sh (l.take (s + 1)) = sh (l.take s) + ((nb (l.getD s (0, 0, [])).2.2 : Int) - ob (l.getD s (0, 0, [])).2.2)) := by
                          show sh (l.take (s + 1)) = _
                          rw [hsn, sh_snoc]
                        obtain ⟨ks, hks⟩ : ∃ ks, (l.getD s (0, 0, [])).2.2 = ks := ⟨_, rfl⟩
                        rw [hks] at hc3 hmk hsf HS
                        have hmo := moreOf am' ks cm' wr hmk hsf
                        have l4 := ob_le ks
                        have l5 := nb_le ks
                        have l6 := (sf_zero hsf).1
                        obtain ⟨S, hS⟩ : ∃ S, sh (l.take s) = S := ⟨_, rfl⟩
                        obtain ⟨m1, hm1⟩ : ∃ m, ob ks = m := ⟨_, rfl⟩
                        obtain ⟨m2, hm2⟩ : ∃ m, nb ks = m := ⟨_, rfl⟩
                        obtain ⟨y, hy⟩ : ∃ y, ks.length = y := ⟨_, rfl⟩
                        rw [hS] at HS s1 s2 ⊢
                        rw [hm1] at hmo HS l4
                        rw [hm2] at hmo HS l5
                        rw [hy] at hc3 hmo l4 l5 l6
                        clear hS hm1 hm2 hy hks hsf hmk hsn hkl
                        go_wp2_with (go_at_call 25; refine hmo.mono ?_)
                        rintro e w5 ⟨rfl, hb6⟩
                        have hb7 : Below U w3 w5 := hbs.trans (hb6.mono (by have := hbs.size; have := HU.out; omega))
                        clear hmo hb6
                        go_wp2
                        go_roundw
                        case rel => exact ⟨s + 1, by omega, by go_num, by rw [HS.out], hb7⟩
                        case measure => simp [intOf]; omega
                      · have es : s = k := by omega
                        rw [es]
                        have hb9 := hb5'
                        clear es hsk hsl hbs hbs' hb5'
                        obtain ⟨s1, s2⟩ := sh_bound (k := k) (by have := HN.out; omega) HALL.out
                        have d0 := cell_later (by rw [HU.out]; exact hbs0) D03.out
                        have d1 := cell_later (by rw [HU.out]; exact hbs0) D13.out
                        have o1 := G1.out
                        have p1 := G3.out
                        by_cases hk0 : k = 0
                        · subst hk0
                          have HPUT : Hid (hAt l 0 = if p = o then 0 else 2) := by
                            show hAt l 0 = _
                            rw [HAT.out]
                            by_cases e : p = o
                            · rw [if_pos e]; exact hPut_ok HZ.out (by simp [eo, sh]; omega)
                            · rw [if_neg e]; exact hPut_shape HZ.out (.inr (by simpa [sh] using e))
                          have hS0 : sh (l.take 0) = 0 := rfl
                          rw [hS0]
                          clear hS0 s1 s2
                          clear o1 p1
                          have ew : IntKind.i64.wrap o = o := by have := G1.out; rw [IntKind.wrap_i64]; omega
                          by_cases e : p = o
                          · have HG2 : Hid (hAt l 0 = 0) := by show hAt l 0 = 0; rw [HPUT.out, if_pos e]
                            have e' : (p != o) = false := by simpa using e
                            clear e
                            go_wp2
                            go_quiet (fail)
                            go_wp2
                            go_roundw
                            case rel => exact ⟨1, by omega, by go_num, below_drawn hb5, fun j hj => by
                              obtain rfl : j = 0 := by omega
                              exact HG2.out⟩
                            case measure => simp [intOf]; omega
                          · have HG2 : Hid (hAt l 0 = 2) := by show hAt l 0 = 2; rw [HPUT.out, if_neg e]
                            have e' : (p != o) = true := by simpa using e
                            clear e
                            go_wp2
                            go_quiet (fail)
                            go_wp2
                            go_ret2
                            refine ⟨?_, below_drawn hb5⟩
                            rw [HFA.out (by rw [HG2.out]; decide), HG2.out]; rfl
                        · obtain ⟨k', rfl⟩ : ∃ k', k = k' + 1 := ⟨k - 1, by omega⟩
                          have ha := HA.out
                          have hkl : k' < l.length := by rw [HN.out]; omega
                          obtain ⟨b', off', am', cm', ea, hc1, _, hc3, hmk⟩ := ha.at (i := k') hkl
                          simp only [Option.some.injEq, Addr.mk.injEq] at ea
                          obtain ⟨rfl, rfl, _⟩ := ea
                          clear ha
                          replace hc1 := cell_later hb9 hc1
                          replace hc3 := cell_later hb9 hc3
                          replace hmk := hmk.below hb9
                          obtain ⟨hsf, _, q1, q2, _, _, _, _⟩ := hOne_zero (hAt_zero (HALL.out k' (by omega))).1
                          have hsn := tk_snoc3 l k' hkl
                          have HEO : Hid (eo (l.take (k' + 1)) = (l.getD k' (0, 0, [])).1 + ob (l.getD k' (0, 0, [])).2.2) := by
                            show eo (l.take (k' + 1)) = _
                            rw [hsn, eo_snoc]
                          obtain ⟨o', ho'⟩ : ∃ o', (l.getD k' (0, 0, [])).1 = o' := ⟨_, rfl⟩
                          obtain ⟨ks, hks⟩ : ∃ ks, (l.getD k' (0, 0, [])).2.2 = ks := ⟨_, rfl⟩
                          rw [ho'] at hc1 q1 q2 HEO
                          rw [hks] at hc3 hmk hsf HEO
                          have OL2 := oldC am' ks cm' wr.drew hmk hsf
                          have l4 := ob_le ks
                          have l6 := (sf_zero hsf).1
                          obtain ⟨S, hS⟩ : ∃ S, sh (l.take (k' + 1)) = S := ⟨_, rfl⟩
                          obtain ⟨m1, hm1⟩ : ∃ m, ob ks = m := ⟨_, rfl⟩
                          obtain ⟨y, hy⟩ : ∃ y, ks.length = y := ⟨_, rfl⟩
                          rw [hS] at s1 s2 HAT ⊢
                          rw [hm1] at OL2 HEO l4
                          rw [hy] at hc3 OL2 l4 l6
                          rw [HEO.out] at HAT
                          have DD2 : Hid (∀ w2, Below wr.drew.heap.size wr.drew w2 → w2.cell? ⟨G, 0, none⟩ = some (.int .i64 o) ∧ w2.cell? ⟨G, 1, none⟩ = some (.int .i64 p) ∧ w2.cell? ⟨b, off + k' * 3, none⟩ = some (.int .i64 o') ∧ w2.cell? ⟨b, off + k' * 3 + 2, none⟩ = some (.slice am' y cm')) := fun w2 h => ⟨cell_later h d0, cell_later h d1, cell_later h hc1, cell_later h hc3⟩
                          clear hS hm1 hy hks ho' hsf hmk hsn hkl hc1 hc3 HEO hk0 d0 d1
                          have ek : IntKind.i64.wrap (k' : Int) = k' := by rw [IntKind.wrap_i64]; omega
                          have kb0 : (0 : Int) ≤ (k' : Int) := by omega
                          have kb1 : (k' : Int) < (n : Int) := by omega
                          have EK : Hid (IntKind.i64.wrap (k' : Int) = k') := ek
                          clear ek
                          by_cases h2 : o < o' + m1
                          · have HG2 : Hid (hAt l (k' + 1) = 2) := by show hAt l (k' + 1) = 2; rw [HAT.out]; exact hPut_shape HZ.out (.inl h2)
                            have E7 : Hid (o < IntKind.i64.wrap (o' + (m1 : Int))) := by show o < IntKind.i64.wrap (o' + (m1 : Int)); rw [IntKind.wrap_i64]; omega
                            clear h2
                            go_wp2
                            have e7 : decide (o < IntKind.i64.wrap (o' + (m1 : Int))) = true := decide_eq_true E7.out
                            have ek := EK.out
                            refine wp_region_held_drew (S := fun w' => w'.cell? ⟨G, 0, none⟩ = some (.int .i64 o) ∧ w'.cell? ⟨G, 1, none⟩ = some (.int .i64 p) ∧ w'.cell? ⟨b, off + k' * 3, none⟩ = some (.int .i64 o') ∧ w'.cell? ⟨b, off + k' * 3 + 2, none⟩ = some (.slice am' y cm')) (by kernel_rfl) ?_ (fun hHeld => ?_)
                            · exact DD2.out _ (Below.refl _ _)
                            refine wpAnyH_take (i := 0) (v := ?_) rfl (by kernel_rfl) (by kernel_rfl) (by kernel_rfl) (fun _ _ _ h => h) (Or.inl ⟨by rfl, ?_⟩) (by assumption) ?_
                            rotate_left
                            · intro w' hSw
                              (try dsimp only at hSw)
                              go_simp
                              try with_reducible rfl
                            simp only [Act.put, List.getElem_toArray, List.getElem_cons_zero, List.setIfInBounds_toArray, List.set_cons_zero, List.set_cons_succ]
                            refine wpAnyH_take (i := 1) (v := ?_) rfl (by kernel_rfl) (by kernel_rfl) (by kernel_rfl) (fun _ _ _ h => h) (Or.inl ⟨by rfl, ?_⟩) (by assumption) ?_
                            rotate_left
                            · intro w' hSw
                              (try dsimp only at hSw)
                              go_simp
                              try with_reducible rfl
                            simp only [Act.put, List.getElem_toArray, List.getElem_cons_zero, List.getElem_cons_succ, List.setIfInBounds_toArray, List.set_cons_zero, List.set_cons_succ]
                            refine wpAnyH_take (i := 2) (v := ?_) rfl (by kernel_rfl) (by kernel_rfl) (by kernel_rfl) (fun _ _ _ h => h) (Or.inl ⟨by rfl, ?_⟩) (by assumption) ?_
                            rotate_left
                            · intro w' hSw
                              (try dsimp only at hSw)
                              go_simp
                              try with_reducible rfl
                            simp only [Act.put, List.getElem_toArray, List.getElem_cons_zero, List.getElem_cons_succ, List.setIfInBounds_toArray, List.set_cons_zero, List.set_cons_succ]
                            refine wpAnyH_take (i := 3) (v := ?_) rfl (by kernel_rfl) (by kernel_rfl) (by kernel_rfl) (fun _ _ _ h => h) (Or.inl ⟨by rfl, ?_⟩) (by assumption) ?_
                            rotate_left
                            · intro w' hSw
                              (try dsimp only at hSw)
                              go_simp
                              try with_reducible rfl
                            simp only [Act.put, List.getElem_toArray, List.getElem_cons_zero, List.getElem_cons_succ, List.setIfInBounds_toArray, List.set_cons_zero, List.set_cons_succ]
                            refine wpAnyH_take (i := 4) (v := ?_) rfl (by kernel_rfl) (by kernel_rfl) (by kernel_rfl) (fun _ _ _ h => h) (Or.inl ⟨by rfl, ?_⟩) (by assumption) ?_
                            rotate_left
                            · intro w' hSw
                              (try dsimp only at hSw)
                              go_simp
                              try with_reducible rfl
                            simp only [Act.put, List.getElem_toArray, List.getElem_cons_zero, List.getElem_cons_succ, List.setIfInBounds_toArray, List.set_cons_zero, List.set_cons_succ]
                            refine wpAnyH_take (i := 5) (v := ?_) rfl (by kernel_rfl) (by kernel_rfl) (by kernel_rfl) (fun _ _ _ h => h) (Or.inl ⟨by rfl, ?_⟩) (by assumption) ?_
                            rotate_left
                            · intro w' hSw
                              (try dsimp only at hSw)
                              go_simp
                              try with_reducible rfl
                            simp only [Act.put, List.getElem_toArray, List.getElem_cons_zero, List.getElem_cons_succ, List.setIfInBounds_toArray, List.set_cons_zero, List.set_cons_succ]
                            refine wpAnyH_take (i := 6) (v := ?_) rfl (by kernel_rfl) (by kernel_rfl) (by kernel_rfl) (fun _ _ _ h => h) (Or.inl ⟨by rfl, ?_⟩) (by assumption) ?_
                            rotate_left
                            · intro w' hSw
                              (try dsimp only at hSw)
                              go_simp
                              try with_reducible rfl
                            simp only [Act.put, List.getElem_toArray, List.getElem_cons_zero, List.getElem_cons_succ, List.setIfInBounds_toArray, List.set_cons_zero, List.set_cons_succ]
                            refine wpAnyH_take (i := 7) (v := ?_) rfl (by kernel_rfl) (by kernel_rfl) (by kernel_rfl) (fun _ _ _ h => h) (Or.inl ⟨by rfl, ?_⟩) (by assumption) ?_
                            rotate_left
                            · intro w' hSw
                              (try dsimp only at hSw)
                              go_simp
                              try with_reducible rfl
                            simp only [Act.put, List.getElem_toArray, List.getElem_cons_zero, List.getElem_cons_succ, List.setIfInBounds_toArray, List.set_cons_zero, List.set_cons_succ]
                            refine wpAnyH_take (i := 8) (v := ?_) rfl (by kernel_rfl) (by kernel_rfl) (by kernel_rfl) (fun _ _ _ h => h) (Or.inl ⟨by rfl, ?_⟩) (by assumption) ?_
                            rotate_left
                            · intro w' hSw
                              (try dsimp only at hSw)
                              go_simp
                              try with_reducible rfl
                            simp only [Act.put, List.getElem_toArray, List.getElem_cons_zero, List.getElem_cons_succ, List.setIfInBounds_toArray, List.set_cons_zero, List.set_cons_succ]
                            refine wpAnyH_take (i := 9) (v := ?_) rfl (by kernel_rfl) (by kernel_rfl) (by kernel_rfl) (fun _ _ _ h => h) (Or.inl ⟨by rfl, ?_⟩) (by assumption) ?_
                            rotate_left
                            · intro w' hSw
                              (try dsimp only at hSw)
                              go_simp
                              try with_reducible rfl
                            simp only [Act.put, List.getElem_toArray, List.getElem_cons_zero, List.getElem_cons_succ, List.setIfInBounds_toArray, List.set_cons_zero, List.set_cons_succ]
                            refine wpAnyH_take (i := 10) (v := ?_) rfl (by kernel_rfl) (by kernel_rfl) (by kernel_rfl) (fun _ _ _ h => h) (Or.inl ⟨by rfl, ?_⟩) (by assumption) ?_
                            rotate_left
                            · intro w' hSw
                              (try dsimp only at hSw)
                              go_simp
                              try with_reducible rfl
                            simp only [Act.put, List.getElem_toArray, List.getElem_cons_zero, List.getElem_cons_succ, List.setIfInBounds_toArray, List.set_cons_zero, List.set_cons_succ]
                            refine wpAnyH_take (i := 11) (v := ?_) rfl (by kernel_rfl) (by kernel_rfl) (by kernel_rfl) (fun _ _ _ h => h) (Or.inl ⟨by rfl, ?_⟩) (by assumption) ?_
                            rotate_left
                            · intro w' hSw
                              (try dsimp only at hSw)
                              go_simp
                              try with_reducible rfl
                            simp only [Act.put, List.getElem_toArray, List.getElem_cons_zero, List.getElem_cons_succ, List.setIfInBounds_toArray, List.set_cons_zero, List.set_cons_succ]
                            refine wpAnyH_take (i := 12) (v := ?_) rfl (by kernel_rfl) (by kernel_rfl) (by kernel_rfl) (fun _ _ _ h => h) (Or.inl ⟨by rfl, ?_⟩) (by assumption) ?_
                            rotate_left
                            · intro w' hSw
                              (try dsimp only at hSw)
                              go_simp
                              try with_reducible rfl
                            simp only [Act.put, List.getElem_toArray, List.getElem_cons_zero, List.getElem_cons_succ, List.setIfInBounds_toArray, List.set_cons_zero, List.set_cons_succ]
                            refine wpAnyH_take (i := 13) (v := ?_) rfl (by kernel_rfl) (by kernel_rfl) (by kernel_rfl) (fun _ _ _ h => h) (Or.inl ⟨by rfl, ?_⟩) (by assumption) ?_
                            rotate_left
                            · intro w' hSw
                              (try dsimp only at hSw)
                              go_simp
                              try with_reducible rfl
                            simp only [Act.put, List.getElem_toArray, List.getElem_cons_zero, List.getElem_cons_succ, List.setIfInBounds_toArray, List.set_cons_zero, List.set_cons_succ]
                            refine wpAnyH_take (i := 14) (v := ?_) rfl (by kernel_rfl) (by kernel_rfl) (by kernel_rfl) (fun _ _ _ h => h) (Or.inl ⟨by rfl, ?_⟩) (by assumption) ?_
                            rotate_left
                            · intro w' hSw
                              (try dsimp only at hSw)
                              go_simp
                              try with_reducible rfl
                            simp only [Act.put, List.getElem_toArray, List.getElem_cons_zero, List.getElem_cons_succ, List.setIfInBounds_toArray, List.set_cons_zero, List.set_cons_succ]
                            refine wpAnyH_take (i := 15) (v := ?_) rfl (by kernel_rfl) (by kernel_rfl) (by kernel_rfl) (fun _ _ _ h => h) (Or.inl ⟨by rfl, ?_⟩) (by assumption) ?_
                            rotate_left
                            · intro w' hSw
                              (try dsimp only at hSw)
                              go_simp
                              try with_reducible rfl
                            simp only [Act.put, List.getElem_toArray, List.getElem_cons_zero, List.getElem_cons_succ, List.setIfInBounds_toArray, List.set_cons_zero, List.set_cons_succ]
                            refine wpAnyH_take (i := 16) (v := ?_) rfl (by kernel_rfl) (by kernel_rfl) (by kernel_rfl) (fun _ _ _ h => h) (Or.inl ⟨by rfl, ?_⟩) (by assumption) ?_
                            rotate_left
                            · intro w' hSw
                              (try dsimp only at hSw)
                              go_simp
                              try with_reducible rfl
                            simp only [Act.put, List.getElem_toArray, List.getElem_cons_zero, List.getElem_cons_succ, List.setIfInBounds_toArray, List.set_cons_zero, List.set_cons_succ]
                            refine wpAnyH_ready (rs := [17]) (by kernel_rfl) (by simp) ?_
                            refine AllReadyH.cons rfl (fun K hK => ?_) AllReadyH.nil
                            go_simp
                            go_at_call 13; refine OL2.mono ?_; rintro e w6 ⟨a6, c6, rfl, hb6⟩
                            go_wp2_with fail
                            refine hK.out _ _ ?_ (fun hHeld => ?_)
                            · exact DD2.out _ hb6
                            clear hK K
                            refine wpAnyH_take (i := 18) (v := ?_) rfl (by kernel_rfl) (by kernel_rfl) (by kernel_rfl) (fun _ _ _ h => h) (Or.inl ⟨by rfl, ?_⟩) (by assumption) ?_
                            rotate_left
                            · intro w' hSw
                              (try dsimp only at hSw)
                              go_simp
                              try with_reducible rfl
                            simp only [Act.put, List.getElem_toArray, List.getElem_cons_zero, List.getElem_cons_succ, List.setIfInBounds_toArray, List.set_cons_zero, List.set_cons_succ]
                            refine wpAnyH_take (i := 19) (v := ?_) rfl (by kernel_rfl) (by kernel_rfl) (by kernel_rfl) (fun _ _ _ h => h) (Or.inl ⟨by rfl, ?_⟩) (by assumption) ?_
                            rotate_left
                            · intro w' hSw
                              (try dsimp only at hSw)
                              go_simp
                              try with_reducible rfl
                            simp only [Act.put, List.getElem_toArray, List.getElem_cons_zero, List.getElem_cons_succ, List.setIfInBounds_toArray, List.set_cons_zero, List.set_cons_succ]
                            refine wpAnyH_take (i := 20) (v := ?_) rfl (by kernel_rfl) (by kernel_rfl) (by kernel_rfl) (fun _ _ _ h => h) (Or.inl ⟨by rfl, ?_⟩) (by assumption) ?_
                            rotate_left
                            · intro w' hSw
                              (try dsimp only at hSw)
                              go_simp
                              try with_reducible rfl
                            simp only [Act.put, List.getElem_toArray, List.getElem_cons_zero, List.getElem_cons_succ, List.setIfInBounds_toArray, List.set_cons_zero, List.set_cons_succ]
                            refine wpAnyH_take (i := 21) (v := ?_) rfl (by kernel_rfl) (by kernel_rfl) (by kernel_rfl) (fun _ _ _ h => h) (Or.inl ⟨by rfl, ?_⟩) (by assumption) ?_
                            rotate_left
                            · intro w' hSw
                              (try dsimp only at hSw)
                              go_simp
                              try with_reducible rfl
                            simp only [Act.put, List.getElem_toArray, List.getElem_cons_zero, List.getElem_cons_succ, List.setIfInBounds_toArray, List.set_cons_zero, List.set_cons_succ]
                            refine wpAnyH_take (i := 22) (v := ?_) rfl (by kernel_rfl) (by kernel_rfl) (by kernel_rfl) (fun _ _ _ h => h) (Or.inl ⟨by rfl, ?_⟩) (by assumption) ?_
                            rotate_left
                            · intro w' hSw
                              (try dsimp only at hSw)
                              go_simp
                              try with_reducible rfl
                            simp only [Act.put, List.getElem_toArray, List.getElem_cons_zero, List.getElem_cons_succ, List.setIfInBounds_toArray, List.set_cons_zero, List.set_cons_succ]
                            refine wpAnyH_take (i := 23) rfl (by kernel_rfl) (by kernel_rfl) (by kernel_rfl) (fun _ _ _ h => h) (Or.inr ⟨by rfl, rfl⟩) (by assumption) ?_
                            simp only [Act.put, List.getElem_toArray, List.getElem_cons_zero, List.getElem_cons_succ, List.setIfInBounds_toArray, List.set_cons_zero, List.set_cons_succ]
                            refine wpAnyH_take (i := 24) rfl (by kernel_rfl) (by kernel_rfl) (by kernel_rfl) (fun _ _ _ h => h) (Or.inr ⟨by rfl, rfl⟩) (by assumption) ?_
                            simp only [Act.put, List.getElem_toArray, List.getElem_cons_zero, List.getElem_cons_succ, List.setIfInBounds_toArray, List.set_cons_zero, List.set_cons_succ]
                            refine wpAnyH_take (i := 25) rfl (by kernel_rfl) (by kernel_rfl) (by kernel_rfl) (fun _ _ _ h => h) (Or.inr ⟨by rfl, rfl⟩) (by assumption) ?_
                            simp only [Act.put, List.getElem_toArray, List.getElem_cons_zero, List.getElem_cons_succ, List.setIfInBounds_toArray, List.set_cons_zero, List.set_cons_succ]
                            refine wpAnyH_take (i := 26) rfl (by kernel_rfl) (by kernel_rfl) (by kernel_rfl) (fun _ _ _ h => h) (Or.inr ⟨by rfl, rfl⟩) (by assumption) ?_
                            simp only [Act.put, List.getElem_toArray, List.getElem_cons_zero, List.getElem_cons_succ, List.setIfInBounds_toArray, List.set_cons_zero, List.set_cons_succ]
                            refine wpAnyH_take (i := 27) rfl (by kernel_rfl) (by kernel_rfl) (by kernel_rfl) (fun _ _ _ h => h) (Or.inr ⟨by rfl, rfl⟩) (by assumption) ?_
                            simp only [Act.put, List.getElem_toArray, List.getElem_cons_zero, List.getElem_cons_succ, List.setIfInBounds_toArray, List.set_cons_zero, List.set_cons_succ]
                            refine wpAnyH_take (i := 28) rfl (by kernel_rfl) (by kernel_rfl) (by kernel_rfl) (fun _ _ _ h => h) (Or.inr ⟨by rfl, rfl⟩) (by assumption) ?_
                            simp only [Act.put, List.getElem_toArray, List.getElem_cons_zero, List.getElem_cons_succ, List.setIfInBounds_toArray, List.set_cons_zero, List.set_cons_succ]
                            refine wpAnyH_take (i := 29) rfl (by kernel_rfl) (by kernel_rfl) (by kernel_rfl) (fun _ _ _ h => h) (Or.inr ⟨by rfl, rfl⟩) (by assumption) ?_
                            simp only [Act.put, List.getElem_toArray, List.getElem_cons_zero, List.getElem_cons_succ, List.setIfInBounds_toArray, List.set_cons_zero, List.set_cons_succ]
                            refine wpAnyH_take (i := 30) (v := ?_) rfl (by kernel_rfl) (by kernel_rfl) (by kernel_rfl) (fun _ _ _ h => h) (Or.inl ⟨by rfl, ?_⟩) (by assumption) ?_
                            rotate_left
                            · intro w' hSw
                              (try dsimp only at hSw)
                              go_simp
                              try with_reducible rfl
                            simp only [Act.put, List.getElem_toArray, List.getElem_cons_zero, List.getElem_cons_succ, List.setIfInBounds_toArray, List.set_cons_zero, List.set_cons_succ]
                            refine wpAnyH_done (by kernel_rfl) ?_ _
                            have hb8 : Below B w w6 := (below_drawn (q := 1) hb5).trans (hb6.mono (by have := hb5.size; have := HB.out; show B ≤ wr.heap.size; omega))
                            go_wp2
                            go_ret2
                            refine ⟨?_, hb8⟩
                            rw [HFA.out (by rw [HG2.out]; decide), HG2.out]; rfl
                          · by_cases h3 : p = o + S
                            · have HG2 : Hid (hAt l (k' + 1) = 0) := by show hAt l (k' + 1) = 0; rw [HAT.out]; exact hPut_ok HZ.out (by omega)
                              have E7 : Hid (¬ o < IntKind.i64.wrap (o' + (m1 : Int))) := by show ¬ o < IntKind.i64.wrap (o' + (m1 : Int)); rw [IntKind.wrap_i64]; omega
                              have E8 : Hid (p = IntKind.i64.wrap (o + S)) := by show p = IntKind.i64.wrap (o + S); rw [IntKind.wrap_i64]; omega
                              clear h2 h3
                              go_wp2
                              have e7 : decide (o < IntKind.i64.wrap (o' + (m1 : Int))) = false := decide_eq_false (by have := E7.out; omega)
                              have ek := EK.out
                              have e8 : (p != IntKind.i64.wrap (o + S)) = false := by rw [← E8.out]; simp
                              refine wp_region_held_drew (S := fun w' => w'.cell? ⟨G, 0, none⟩ = some (.int .i64 o) ∧ w'.cell? ⟨G, 1, none⟩ = some (.int .i64 p) ∧ w'.cell? ⟨b, off + k' * 3, none⟩ = some (.int .i64 o') ∧ w'.cell? ⟨b, off + k' * 3 + 2, none⟩ = some (.slice am' y cm')) (by kernel_rfl) ?_ (fun hHeld => ?_)
                              · exact DD2.out _ (Below.refl _ _)
                              refine wpAnyH_take (i := 0) (v := ?_) rfl (by kernel_rfl) (by kernel_rfl) (by kernel_rfl) (fun _ _ _ h => h) (Or.inl ⟨by rfl, ?_⟩) (by assumption) ?_
                              rotate_left
                              · intro w' hSw
                                (try dsimp only at hSw)
                                go_simp
                                try with_reducible rfl
                              simp only [Act.put, List.getElem_toArray, List.getElem_cons_zero, List.setIfInBounds_toArray, List.set_cons_zero, List.set_cons_succ]
                              refine wpAnyH_take (i := 1) (v := ?_) rfl (by kernel_rfl) (by kernel_rfl) (by kernel_rfl) (fun _ _ _ h => h) (Or.inl ⟨by rfl, ?_⟩) (by assumption) ?_
                              rotate_left
                              · intro w' hSw
                                (try dsimp only at hSw)
                                go_simp
                                try with_reducible rfl
                              simp only [Act.put, List.getElem_toArray, List.getElem_cons_zero, List.getElem_cons_succ, List.setIfInBounds_toArray, List.set_cons_zero, List.set_cons_succ]
                              refine wpAnyH_take (i := 2) (v := ?_) rfl (by kernel_rfl) (by kernel_rfl) (by kernel_rfl) (fun _ _ _ h => h) (Or.inl ⟨by rfl, ?_⟩) (by assumption) ?_
                              rotate_left
                              · intro w' hSw
                                (try dsimp only at hSw)
                                go_simp
                                try with_reducible rfl
                              simp only [Act.put, List.getElem_toArray, List.getElem_cons_zero, List.getElem_cons_succ, List.setIfInBounds_toArray, List.set_cons_zero, List.set_cons_succ]
                              refine wpAnyH_take (i := 3) (v := ?_) rfl (by kernel_rfl) (by kernel_rfl) (by kernel_rfl) (fun _ _ _ h => h) (Or.inl ⟨by rfl, ?_⟩) (by assumption) ?_
                              rotate_left
                              · intro w' hSw
                                (try dsimp only at hSw)
                                go_simp
                                try with_reducible rfl
                              simp only [Act.put, List.getElem_toArray, List.getElem_cons_zero, List.getElem_cons_succ, List.setIfInBounds_toArray, List.set_cons_zero, List.set_cons_succ]
                              refine wpAnyH_take (i := 4) (v := ?_) rfl (by kernel_rfl) (by kernel_rfl) (by kernel_rfl) (fun _ _ _ h => h) (Or.inl ⟨by rfl, ?_⟩) (by assumption) ?_
                              rotate_left
                              · intro w' hSw
                                (try dsimp only at hSw)
                                go_simp
                                try with_reducible rfl
                              simp only [Act.put, List.getElem_toArray, List.getElem_cons_zero, List.getElem_cons_succ, List.setIfInBounds_toArray, List.set_cons_zero, List.set_cons_succ]
                              refine wpAnyH_take (i := 5) (v := ?_) rfl (by kernel_rfl) (by kernel_rfl) (by kernel_rfl) (fun _ _ _ h => h) (Or.inl ⟨by rfl, ?_⟩) (by assumption) ?_
                              rotate_left
                              · intro w' hSw
                                (try dsimp only at hSw)
                                go_simp
                                try with_reducible rfl
                              simp only [Act.put, List.getElem_toArray, List.getElem_cons_zero, List.getElem_cons_succ, List.setIfInBounds_toArray, List.set_cons_zero, List.set_cons_succ]
                              refine wpAnyH_take (i := 6) (v := ?_) rfl (by kernel_rfl) (by kernel_rfl) (by kernel_rfl) (fun _ _ _ h => h) (Or.inl ⟨by rfl, ?_⟩) (by assumption) ?_
                              rotate_left
                              · intro w' hSw
                                (try dsimp only at hSw)
                                go_simp
                                try with_reducible rfl
                              simp only [Act.put, List.getElem_toArray, List.getElem_cons_zero, List.getElem_cons_succ, List.setIfInBounds_toArray, List.set_cons_zero, List.set_cons_succ]
                              refine wpAnyH_take (i := 7) (v := ?_) rfl (by kernel_rfl) (by kernel_rfl) (by kernel_rfl) (fun _ _ _ h => h) (Or.inl ⟨by rfl, ?_⟩) (by assumption) ?_
                              rotate_left
                              · intro w' hSw
                                (try dsimp only at hSw)
                                go_simp
                                try with_reducible rfl
                              simp only [Act.put, List.getElem_toArray, List.getElem_cons_zero, List.getElem_cons_succ, List.setIfInBounds_toArray, List.set_cons_zero, List.set_cons_succ]
                              refine wpAnyH_take (i := 8) (v := ?_) rfl (by kernel_rfl) (by kernel_rfl) (by kernel_rfl) (fun _ _ _ h => h) (Or.inl ⟨by rfl, ?_⟩) (by assumption) ?_
                              rotate_left
                              · intro w' hSw
                                (try dsimp only at hSw)
                                go_simp
                                try with_reducible rfl
                              simp only [Act.put, List.getElem_toArray, List.getElem_cons_zero, List.getElem_cons_succ, List.setIfInBounds_toArray, List.set_cons_zero, List.set_cons_succ]
                              refine wpAnyH_take (i := 9) (v := ?_) rfl (by kernel_rfl) (by kernel_rfl) (by kernel_rfl) (fun _ _ _ h => h) (Or.inl ⟨by rfl, ?_⟩) (by assumption) ?_
                              rotate_left
                              · intro w' hSw
                                (try dsimp only at hSw)
                                go_simp
                                try with_reducible rfl
                              simp only [Act.put, List.getElem_toArray, List.getElem_cons_zero, List.getElem_cons_succ, List.setIfInBounds_toArray, List.set_cons_zero, List.set_cons_succ]
                              refine wpAnyH_take (i := 10) (v := ?_) rfl (by kernel_rfl) (by kernel_rfl) (by kernel_rfl) (fun _ _ _ h => h) (Or.inl ⟨by rfl, ?_⟩) (by assumption) ?_
                              rotate_left
                              · intro w' hSw
                                (try dsimp only at hSw)
                                go_simp
                                try with_reducible rfl
                              simp only [Act.put, List.getElem_toArray, List.getElem_cons_zero, List.getElem_cons_succ, List.setIfInBounds_toArray, List.set_cons_zero, List.set_cons_succ]
                              refine wpAnyH_take (i := 11) (v := ?_) rfl (by kernel_rfl) (by kernel_rfl) (by kernel_rfl) (fun _ _ _ h => h) (Or.inl ⟨by rfl, ?_⟩) (by assumption) ?_
                              rotate_left
                              · intro w' hSw
                                (try dsimp only at hSw)
                                go_simp
                                try with_reducible rfl
                              simp only [Act.put, List.getElem_toArray, List.getElem_cons_zero, List.getElem_cons_succ, List.setIfInBounds_toArray, List.set_cons_zero, List.set_cons_succ]
                              refine wpAnyH_take (i := 12) (v := ?_) rfl (by kernel_rfl) (by kernel_rfl) (by kernel_rfl) (fun _ _ _ h => h) (Or.inl ⟨by rfl, ?_⟩) (by assumption) ?_
                              rotate_left
                              · intro w' hSw
                                (try dsimp only at hSw)
                                go_simp
                                try with_reducible rfl
                              simp only [Act.put, List.getElem_toArray, List.getElem_cons_zero, List.getElem_cons_succ, List.setIfInBounds_toArray, List.set_cons_zero, List.set_cons_succ]
                              refine wpAnyH_take (i := 13) (v := ?_) rfl (by kernel_rfl) (by kernel_rfl) (by kernel_rfl) (fun _ _ _ h => h) (Or.inl ⟨by rfl, ?_⟩) (by assumption) ?_
                              rotate_left
                              · intro w' hSw
                                (try dsimp only at hSw)
                                go_simp
                                try with_reducible rfl
                              simp only [Act.put, List.getElem_toArray, List.getElem_cons_zero, List.getElem_cons_succ, List.setIfInBounds_toArray, List.set_cons_zero, List.set_cons_succ]
                              refine wpAnyH_take (i := 14) (v := ?_) rfl (by kernel_rfl) (by kernel_rfl) (by kernel_rfl) (fun _ _ _ h => h) (Or.inl ⟨by rfl, ?_⟩) (by assumption) ?_
                              rotate_left
                              · intro w' hSw
                                (try dsimp only at hSw)
                                go_simp
                                try with_reducible rfl
                              simp only [Act.put, List.getElem_toArray, List.getElem_cons_zero, List.getElem_cons_succ, List.setIfInBounds_toArray, List.set_cons_zero, List.set_cons_succ]
                              refine wpAnyH_take (i := 15) (v := ?_) rfl (by kernel_rfl) (by kernel_rfl) (by kernel_rfl) (fun _ _ _ h => h) (Or.inl ⟨by rfl, ?_⟩) (by assumption) ?_
                              rotate_left
                              · intro w' hSw
                                (try dsimp only at hSw)
                                go_simp
                                try with_reducible rfl
                              simp only [Act.put, List.getElem_toArray, List.getElem_cons_zero, List.getElem_cons_succ, List.setIfInBounds_toArray, List.set_cons_zero, List.set_cons_succ]
                              refine wpAnyH_take (i := 16) (v := ?_) rfl (by kernel_rfl) (by kernel_rfl) (by kernel_rfl) (fun _ _ _ h => h) (Or.inl ⟨by rfl, ?_⟩) (by assumption) ?_
                              rotate_left
                              · intro w' hSw
                                (try dsimp only at hSw)
                                go_simp
                                try with_reducible rfl
                              simp only [Act.put, List.getElem_toArray, List.getElem_cons_zero, List.getElem_cons_succ, List.setIfInBounds_toArray, List.set_cons_zero, List.set_cons_succ]
                              refine wpAnyH_ready (rs := [17]) (by kernel_rfl) (by simp) ?_
                              refine AllReadyH.cons rfl (fun K hK => ?_) AllReadyH.nil
                              go_simp
                              go_at_call 13; refine OL2.mono ?_; rintro e w6 ⟨a6, c6, rfl, hb6⟩
                              go_wp2_with fail
                              refine hK.out _ _ ?_ (fun hHeld => ?_)
                              · exact DD2.out _ hb6
                              clear hK K
                              refine wpAnyH_take (i := 18) (v := ?_) rfl (by kernel_rfl) (by kernel_rfl) (by kernel_rfl) (fun _ _ _ h => h) (Or.inl ⟨by rfl, ?_⟩) (by assumption) ?_
                              rotate_left
                              · intro w' hSw
                                (try dsimp only at hSw)
                                go_simp
                                try with_reducible rfl
                              simp only [Act.put, List.getElem_toArray, List.getElem_cons_zero, List.getElem_cons_succ, List.setIfInBounds_toArray, List.set_cons_zero, List.set_cons_succ]
                              refine wpAnyH_take (i := 19) (v := ?_) rfl (by kernel_rfl) (by kernel_rfl) (by kernel_rfl) (fun _ _ _ h => h) (Or.inl ⟨by rfl, ?_⟩) (by assumption) ?_
                              rotate_left
                              · intro w' hSw
                                (try dsimp only at hSw)
                                go_simp
                                try with_reducible rfl
                              simp only [Act.put, List.getElem_toArray, List.getElem_cons_zero, List.getElem_cons_succ, List.setIfInBounds_toArray, List.set_cons_zero, List.set_cons_succ]
                              refine wpAnyH_take (i := 20) (v := ?_) rfl (by kernel_rfl) (by kernel_rfl) (by kernel_rfl) (fun _ _ _ h => h) (Or.inl ⟨by rfl, ?_⟩) (by assumption) ?_
                              rotate_left
                              · intro w' hSw
                                (try dsimp only at hSw)
                                go_simp
                                try with_reducible rfl
                              simp only [Act.put, List.getElem_toArray, List.getElem_cons_zero, List.getElem_cons_succ, List.setIfInBounds_toArray, List.set_cons_zero, List.set_cons_succ]
                              refine wpAnyH_take (i := 21) (v := ?_) rfl (by kernel_rfl) (by kernel_rfl) (by kernel_rfl) (fun _ _ _ h => h) (Or.inl ⟨by rfl, ?_⟩) (by assumption) ?_
                              rotate_left
                              · intro w' hSw
                                (try dsimp only at hSw)
                                go_simp
                                try with_reducible rfl
                              simp only [Act.put, List.getElem_toArray, List.getElem_cons_zero, List.getElem_cons_succ, List.setIfInBounds_toArray, List.set_cons_zero, List.set_cons_succ]
                              refine wpAnyH_take (i := 22) (v := ?_) rfl (by kernel_rfl) (by kernel_rfl) (by kernel_rfl) (fun _ _ _ h => h) (Or.inl ⟨by rfl, ?_⟩) (by assumption) ?_
                              rotate_left
                              · intro w' hSw
                                (try dsimp only at hSw)
                                go_simp
                                try with_reducible rfl
                              simp only [Act.put, List.getElem_toArray, List.getElem_cons_zero, List.getElem_cons_succ, List.setIfInBounds_toArray, List.set_cons_zero, List.set_cons_succ]
                              refine wpAnyH_take (i := 23) (v := ?_) rfl (by kernel_rfl) (by kernel_rfl) (by kernel_rfl) (fun _ _ _ h => h) (Or.inl ⟨by rfl, ?_⟩) (by assumption) ?_
                              rotate_left
                              · intro w' hSw
                                (try dsimp only at hSw)
                                go_simp
                                try with_reducible rfl
                              simp only [Act.put, List.getElem_toArray, List.getElem_cons_zero, List.getElem_cons_succ, List.setIfInBounds_toArray, List.set_cons_zero, List.set_cons_succ]
                              refine wpAnyH_take (i := 24) (v := ?_) rfl (by kernel_rfl) (by kernel_rfl) (by kernel_rfl) (fun _ _ _ h => h) (Or.inl ⟨by rfl, ?_⟩) (by assumption) ?_
                              rotate_left
                              · intro w' hSw
                                (try dsimp only at hSw)
                                go_simp
                                try with_reducible rfl
                              simp only [Act.put, List.getElem_toArray, List.getElem_cons_zero, List.getElem_cons_succ, List.setIfInBounds_toArray, List.set_cons_zero, List.set_cons_succ]
                              refine wpAnyH_take (i := 25) (v := ?_) rfl (by kernel_rfl) (by kernel_rfl) (by kernel_rfl) (fun _ _ _ h => h) (Or.inl ⟨by rfl, ?_⟩) (by assumption) ?_
                              rotate_left
                              · intro w' hSw
                                (try dsimp only at hSw)
                                go_simp
                                try with_reducible rfl
                              simp only [Act.put, List.getElem_toArray, List.getElem_cons_zero, List.getElem_cons_succ, List.setIfInBounds_toArray, List.set_cons_zero, List.set_cons_succ]
                              refine wpAnyH_take (i := 26) (v := ?_) rfl (by kernel_rfl) (by kernel_rfl) (by kernel_rfl) (fun _ _ _ h => h) (Or.inl ⟨by rfl, ?_⟩) (by assumption) ?_
                              rotate_left
                              · intro w' hSw
                                (try dsimp only at hSw)
                                go_simp
                                try with_reducible rfl
                              simp only [Act.put, List.getElem_toArray, List.getElem_cons_zero, List.getElem_cons_succ, List.setIfInBounds_toArray, List.set_cons_zero, List.set_cons_succ]
                              refine wpAnyH_take (i := 27) (v := ?_) rfl (by kernel_rfl) (by kernel_rfl) (by kernel_rfl) (fun _ _ _ h => h) (Or.inl ⟨by rfl, ?_⟩) (by assumption) ?_
                              rotate_left
                              · intro w' hSw
                                (try dsimp only at hSw)
                                go_simp
                                try with_reducible rfl
                              simp only [Act.put, List.getElem_toArray, List.getElem_cons_zero, List.getElem_cons_succ, List.setIfInBounds_toArray, List.set_cons_zero, List.set_cons_succ]
                              refine wpAnyH_take (i := 28) (v := ?_) rfl (by kernel_rfl) (by kernel_rfl) (by kernel_rfl) (fun _ _ _ h => h) (Or.inl ⟨by rfl, ?_⟩) (by assumption) ?_
                              rotate_left
                              · intro w' hSw
                                (try dsimp only at hSw)
                                go_simp
                                try with_reducible rfl
                              simp only [Act.put, List.getElem_toArray, List.getElem_cons_zero, List.getElem_cons_succ, List.setIfInBounds_toArray, List.set_cons_zero, List.set_cons_succ]
                              refine wpAnyH_take (i := 29) (v := ?_) rfl (by kernel_rfl) (by kernel_rfl) (by kernel_rfl) (fun _ _ _ h => h) (Or.inl ⟨by rfl, ?_⟩) (by assumption) ?_
                              rotate_left
                              · intro w' hSw
                                (try dsimp only at hSw)
                                go_simp
                                try with_reducible rfl
                              simp only [Act.put, List.getElem_toArray, List.getElem_cons_zero, List.getElem_cons_succ, List.setIfInBounds_toArray, List.set_cons_zero, List.set_cons_succ]
                              refine wpAnyH_take (i := 30) (v := ?_) rfl (by kernel_rfl) (by kernel_rfl) (by kernel_rfl) (fun _ _ _ h => h) (Or.inl ⟨by rfl, ?_⟩) (by assumption) ?_
                              rotate_left
                              · intro w' hSw
                                (try dsimp only at hSw)
                                go_simp
                                try with_reducible rfl
                              simp only [Act.put, List.getElem_toArray, List.getElem_cons_zero, List.getElem_cons_succ, List.setIfInBounds_toArray, List.set_cons_zero, List.set_cons_succ]
                              refine wpAnyH_done (by kernel_rfl) ?_ _
                              have hb8 : Below B w w6 := (below_drawn (q := 1) hb5).trans (hb6.mono (by have := hb5.size; have := HB.out; show B ≤ wr.heap.size; omega))
                              go_wp2
                              go_roundw
                              case rel => exact ⟨k' + 1 + 1, by omega, by go_num, hb8, fun j hj => by
                                by_cases e : j = k' + 1
                                · rw [e]; exact HG2.out
                                · exact HALL.out j (by omega)⟩
                              case measure => simp [intOf]; omega
                            · have HG2 : Hid (hAt l (k' + 1) = 2) := by show hAt l (k' + 1) = 2; rw [HAT.out]; exact hPut_shape HZ.out (.inr h3)
                              have E7 : Hid (¬ o < IntKind.i64.wrap (o' + (m1 : Int))) := by show ¬ o < IntKind.i64.wrap (o' + (m1 : Int)); rw [IntKind.wrap_i64]; omega
                              have E8 : Hid (p ≠ IntKind.i64.wrap (o + S)) := by show p ≠ IntKind.i64.wrap (o + S); rw [IntKind.wrap_i64]; omega
                              clear h2 h3
                              go_wp2
                              have e7 : decide (o < IntKind.i64.wrap (o' + (m1 : Int))) = false := decide_eq_false (by have := E7.out; omega)
                              have ek := EK.out
                              have e8 : (p != IntKind.i64.wrap (o + S)) = true := by have := E8.out; simpa using this
                              refine wp_region_held_drew (S := fun w' => w'.cell? ⟨G, 0, none⟩ = some (.int .i64 o) ∧ w'.cell? ⟨G, 1, none⟩ = some (.int .i64 p) ∧ w'.cell? ⟨b, off + k' * 3, none⟩ = some (.int .i64 o') ∧ w'.cell? ⟨b, off + k' * 3 + 2, none⟩ = some (.slice am' y cm')) (by kernel_rfl) ?_ (fun hHeld => ?_)
                              · exact DD2.out _ (Below.refl _ _)
                              refine wpAnyH_take (i := 0) (v := ?_) rfl (by kernel_rfl) (by kernel_rfl) (by kernel_rfl) (fun _ _ _ h => h) (Or.inl ⟨by rfl, ?_⟩) (by assumption) ?_
                              rotate_left
                              · intro w' hSw
                                (try dsimp only at hSw)
                                go_simp
                                try with_reducible rfl
                              simp only [Act.put, List.getElem_toArray, List.getElem_cons_zero, List.setIfInBounds_toArray, List.set_cons_zero, List.set_cons_succ]
                              refine wpAnyH_take (i := 1) (v := ?_) rfl (by kernel_rfl) (by kernel_rfl) (by kernel_rfl) (fun _ _ _ h => h) (Or.inl ⟨by rfl, ?_⟩) (by assumption) ?_
                              rotate_left
                              · intro w' hSw
                                (try dsimp only at hSw)
                                go_simp
                                try with_reducible rfl
                              simp only [Act.put, List.getElem_toArray, List.getElem_cons_zero, List.getElem_cons_succ, List.setIfInBounds_toArray, List.set_cons_zero, List.set_cons_succ]
                              refine wpAnyH_take (i := 2) (v := ?_) rfl (by kernel_rfl) (by kernel_rfl) (by kernel_rfl) (fun _ _ _ h => h) (Or.inl ⟨by rfl, ?_⟩) (by assumption) ?_
                              rotate_left
                              · intro w' hSw
                                (try dsimp only at hSw)
                                go_simp
                                try with_reducible rfl
                              simp only [Act.put, List.getElem_toArray, List.getElem_cons_zero, List.getElem_cons_succ, List.setIfInBounds_toArray, List.set_cons_zero, List.set_cons_succ]
                              refine wpAnyH_take (i := 3) (v := ?_) rfl (by kernel_rfl) (by kernel_rfl) (by kernel_rfl) (fun _ _ _ h => h) (Or.inl ⟨by rfl, ?_⟩) (by assumption) ?_
                              rotate_left
                              · intro w' hSw
                                (try dsimp only at hSw)
                                go_simp
                                try with_reducible rfl
                              simp only [Act.put, List.getElem_toArray, List.getElem_cons_zero, List.getElem_cons_succ, List.setIfInBounds_toArray, List.set_cons_zero, List.set_cons_succ]
                              refine wpAnyH_take (i := 4) (v := ?_) rfl (by kernel_rfl) (by kernel_rfl) (by kernel_rfl) (fun _ _ _ h => h) (Or.inl ⟨by rfl, ?_⟩) (by assumption) ?_
                              rotate_left
                              · intro w' hSw
                                (try dsimp only at hSw)
                                go_simp
                                try with_reducible rfl
                              simp only [Act.put, List.getElem_toArray, List.getElem_cons_zero, List.getElem_cons_succ, List.setIfInBounds_toArray, List.set_cons_zero, List.set_cons_succ]
                              refine wpAnyH_take (i := 5) (v := ?_) rfl (by kernel_rfl) (by kernel_rfl) (by kernel_rfl) (fun _ _ _ h => h) (Or.inl ⟨by rfl, ?_⟩) (by assumption) ?_
                              rotate_left
                              · intro w' hSw
                                (try dsimp only at hSw)
                                go_simp
                                try with_reducible rfl
                              simp only [Act.put, List.getElem_toArray, List.getElem_cons_zero, List.getElem_cons_succ, List.setIfInBounds_toArray, List.set_cons_zero, List.set_cons_succ]
                              refine wpAnyH_take (i := 6) (v := ?_) rfl (by kernel_rfl) (by kernel_rfl) (by kernel_rfl) (fun _ _ _ h => h) (Or.inl ⟨by rfl, ?_⟩) (by assumption) ?_
                              rotate_left
                              · intro w' hSw
                                (try dsimp only at hSw)
                                go_simp
                                try with_reducible rfl
                              simp only [Act.put, List.getElem_toArray, List.getElem_cons_zero, List.getElem_cons_succ, List.setIfInBounds_toArray, List.set_cons_zero, List.set_cons_succ]
                              refine wpAnyH_take (i := 7) (v := ?_) rfl (by kernel_rfl) (by kernel_rfl) (by kernel_rfl) (fun _ _ _ h => h) (Or.inl ⟨by rfl, ?_⟩) (by assumption) ?_
                              rotate_left
                              · intro w' hSw
                                (try dsimp only at hSw)
                                go_simp
                                try with_reducible rfl
                              simp only [Act.put, List.getElem_toArray, List.getElem_cons_zero, List.getElem_cons_succ, List.setIfInBounds_toArray, List.set_cons_zero, List.set_cons_succ]
                              refine wpAnyH_take (i := 8) (v := ?_) rfl (by kernel_rfl) (by kernel_rfl) (by kernel_rfl) (fun _ _ _ h => h) (Or.inl ⟨by rfl, ?_⟩) (by assumption) ?_
                              rotate_left
                              · intro w' hSw
                                (try dsimp only at hSw)
                                go_simp
                                try with_reducible rfl
                              simp only [Act.put, List.getElem_toArray, List.getElem_cons_zero, List.getElem_cons_succ, List.setIfInBounds_toArray, List.set_cons_zero, List.set_cons_succ]
                              refine wpAnyH_take (i := 9) (v := ?_) rfl (by kernel_rfl) (by kernel_rfl) (by kernel_rfl) (fun _ _ _ h => h) (Or.inl ⟨by rfl, ?_⟩) (by assumption) ?_
                              rotate_left
                              · intro w' hSw
                                (try dsimp only at hSw)
                                go_simp
                                try with_reducible rfl
                              simp only [Act.put, List.getElem_toArray, List.getElem_cons_zero, List.getElem_cons_succ, List.setIfInBounds_toArray, List.set_cons_zero, List.set_cons_succ]
                              refine wpAnyH_take (i := 10) (v := ?_) rfl (by kernel_rfl) (by kernel_rfl) (by kernel_rfl) (fun _ _ _ h => h) (Or.inl ⟨by rfl, ?_⟩) (by assumption) ?_
                              rotate_left
                              · intro w' hSw
                                (try dsimp only at hSw)
                                go_simp
                                try with_reducible rfl
                              simp only [Act.put, List.getElem_toArray, List.getElem_cons_zero, List.getElem_cons_succ, List.setIfInBounds_toArray, List.set_cons_zero, List.set_cons_succ]
                              refine wpAnyH_take (i := 11) (v := ?_) rfl (by kernel_rfl) (by kernel_rfl) (by kernel_rfl) (fun _ _ _ h => h) (Or.inl ⟨by rfl, ?_⟩) (by assumption) ?_
                              rotate_left
                              · intro w' hSw
                                (try dsimp only at hSw)
                                go_simp
                                try with_reducible rfl
                              simp only [Act.put, List.getElem_toArray, List.getElem_cons_zero, List.getElem_cons_succ, List.setIfInBounds_toArray, List.set_cons_zero, List.set_cons_succ]
                              refine wpAnyH_take (i := 12) (v := ?_) rfl (by kernel_rfl) (by kernel_rfl) (by kernel_rfl) (fun _ _ _ h => h) (Or.inl ⟨by rfl, ?_⟩) (by assumption) ?_
                              rotate_left
                              · intro w' hSw
                                (try dsimp only at hSw)
                                go_simp
                                try with_reducible rfl
                              simp only [Act.put, List.getElem_toArray, List.getElem_cons_zero, List.getElem_cons_succ, List.setIfInBounds_toArray, List.set_cons_zero, List.set_cons_succ]
                              refine wpAnyH_take (i := 13) (v := ?_) rfl (by kernel_rfl) (by kernel_rfl) (by kernel_rfl) (fun _ _ _ h => h) (Or.inl ⟨by rfl, ?_⟩) (by assumption) ?_
                              rotate_left
                              · intro w' hSw
                                (try dsimp only at hSw)
                                go_simp
                                try with_reducible rfl
                              simp only [Act.put, List.getElem_toArray, List.getElem_cons_zero, List.getElem_cons_succ, List.setIfInBounds_toArray, List.set_cons_zero, List.set_cons_succ]
                              refine wpAnyH_take (i := 14) (v := ?_) rfl (by kernel_rfl) (by kernel_rfl) (by kernel_rfl) (fun _ _ _ h => h) (Or.inl ⟨by rfl, ?_⟩) (by assumption) ?_
                              rotate_left
                              · intro w' hSw
                                (try dsimp only at hSw)
                                go_simp
                                try with_reducible rfl
                              simp only [Act.put, List.getElem_toArray, List.getElem_cons_zero, List.getElem_cons_succ, List.setIfInBounds_toArray, List.set_cons_zero, List.set_cons_succ]
                              refine wpAnyH_take (i := 15) (v := ?_) rfl (by kernel_rfl) (by kernel_rfl) (by kernel_rfl) (fun _ _ _ h => h) (Or.inl ⟨by rfl, ?_⟩) (by assumption) ?_
                              rotate_left
                              · intro w' hSw
                                (try dsimp only at hSw)
                                go_simp
                                try with_reducible rfl
                              simp only [Act.put, List.getElem_toArray, List.getElem_cons_zero, List.getElem_cons_succ, List.setIfInBounds_toArray, List.set_cons_zero, List.set_cons_succ]
                              refine wpAnyH_take (i := 16) (v := ?_) rfl (by kernel_rfl) (by kernel_rfl) (by kernel_rfl) (fun _ _ _ h => h) (Or.inl ⟨by rfl, ?_⟩) (by assumption) ?_
                              rotate_left
                              · intro w' hSw
                                (try dsimp only at hSw)
                                go_simp
                                try with_reducible rfl
                              simp only [Act.put, List.getElem_toArray, List.getElem_cons_zero, List.getElem_cons_succ, List.setIfInBounds_toArray, List.set_cons_zero, List.set_cons_succ]
                              refine wpAnyH_ready (rs := [17]) (by kernel_rfl) (by simp) ?_
                              refine AllReadyH.cons rfl (fun K hK => ?_) AllReadyH.nil
                              go_simp
                              go_at_call 13; refine OL2.mono ?_; rintro e w6 ⟨a6, c6, rfl, hb6⟩
                              go_wp2_with fail
                              refine hK.out _ _ ?_ (fun hHeld => ?_)
                              · exact DD2.out _ hb6
                              clear hK K
                              refine wpAnyH_take (i := 18) (v := ?_) rfl (by kernel_rfl) (by kernel_rfl) (by kernel_rfl) (fun _ _ _ h => h) (Or.inl ⟨by rfl, ?_⟩) (by assumption) ?_
                              rotate_left
                              · intro w' hSw
                                (try dsimp only at hSw)
                                go_simp
                                try with_reducible rfl
                              simp only [Act.put, List.getElem_toArray, List.getElem_cons_zero, List.getElem_cons_succ, List.setIfInBounds_toArray, List.set_cons_zero, List.set_cons_succ]
                              refine wpAnyH_take (i := 19) (v := ?_) rfl (by kernel_rfl) (by kernel_rfl) (by kernel_rfl) (fun _ _ _ h => h) (Or.inl ⟨by rfl, ?_⟩) (by assumption) ?_
                              rotate_left
                              · intro w' hSw
                                (try dsimp only at hSw)
                                go_simp
                                try with_reducible rfl
                              simp only [Act.put, List.getElem_toArray, List.getElem_cons_zero, List.getElem_cons_succ, List.setIfInBounds_toArray, List.set_cons_zero, List.set_cons_succ]
                              refine wpAnyH_take (i := 20) (v := ?_) rfl (by kernel_rfl) (by kernel_rfl) (by kernel_rfl) (fun _ _ _ h => h) (Or.inl ⟨by rfl, ?_⟩) (by assumption) ?_
                              rotate_left
                              · intro w' hSw
                                (try dsimp only at hSw)
                                go_simp
                                try with_reducible rfl
                              simp only [Act.put, List.getElem_toArray, List.getElem_cons_zero, List.getElem_cons_succ, List.setIfInBounds_toArray, List.set_cons_zero, List.set_cons_succ]
                              refine wpAnyH_take (i := 21) (v := ?_) rfl (by kernel_rfl) (by kernel_rfl) (by kernel_rfl) (fun _ _ _ h => h) (Or.inl ⟨by rfl, ?_⟩) (by assumption) ?_
                              rotate_left
                              · intro w' hSw
                                (try dsimp only at hSw)
                                go_simp
                                try with_reducible rfl
                              simp only [Act.put, List.getElem_toArray, List.getElem_cons_zero, List.getElem_cons_succ, List.setIfInBounds_toArray, List.set_cons_zero, List.set_cons_succ]
                              refine wpAnyH_take (i := 22) (v := ?_) rfl (by kernel_rfl) (by kernel_rfl) (by kernel_rfl) (fun _ _ _ h => h) (Or.inl ⟨by rfl, ?_⟩) (by assumption) ?_
                              rotate_left
                              · intro w' hSw
                                (try dsimp only at hSw)
                                go_simp
                                try with_reducible rfl
                              simp only [Act.put, List.getElem_toArray, List.getElem_cons_zero, List.getElem_cons_succ, List.setIfInBounds_toArray, List.set_cons_zero, List.set_cons_succ]
                              refine wpAnyH_take (i := 23) (v := ?_) rfl (by kernel_rfl) (by kernel_rfl) (by kernel_rfl) (fun _ _ _ h => h) (Or.inl ⟨by rfl, ?_⟩) (by assumption) ?_
                              rotate_left
                              · intro w' hSw
                                (try dsimp only at hSw)
                                go_simp
                                try with_reducible rfl
                              simp only [Act.put, List.getElem_toArray, List.getElem_cons_zero, List.getElem_cons_succ, List.setIfInBounds_toArray, List.set_cons_zero, List.set_cons_succ]
                              refine wpAnyH_take (i := 24) (v := ?_) rfl (by kernel_rfl) (by kernel_rfl) (by kernel_rfl) (fun _ _ _ h => h) (Or.inl ⟨by rfl, ?_⟩) (by assumption) ?_
                              rotate_left
                              · intro w' hSw
                                (try dsimp only at hSw)
                                go_simp
                                try with_reducible rfl
                              simp only [Act.put, List.getElem_toArray, List.getElem_cons_zero, List.getElem_cons_succ, List.setIfInBounds_toArray, List.set_cons_zero, List.set_cons_succ]
                              refine wpAnyH_take (i := 25) (v := ?_) rfl (by kernel_rfl) (by kernel_rfl) (by kernel_rfl) (fun _ _ _ h => h) (Or.inl ⟨by rfl, ?_⟩) (by assumption) ?_
                              rotate_left
                              · intro w' hSw
                                (try dsimp only at hSw)
                                go_simp
                                try with_reducible rfl
                              simp only [Act.put, List.getElem_toArray, List.getElem_cons_zero, List.getElem_cons_succ, List.setIfInBounds_toArray, List.set_cons_zero, List.set_cons_succ]
                              refine wpAnyH_take (i := 26) (v := ?_) rfl (by kernel_rfl) (by kernel_rfl) (by kernel_rfl) (fun _ _ _ h => h) (Or.inl ⟨by rfl, ?_⟩) (by assumption) ?_
                              rotate_left
                              · intro w' hSw
                                (try dsimp only at hSw)
                                go_simp
                                try with_reducible rfl
                              simp only [Act.put, List.getElem_toArray, List.getElem_cons_zero, List.getElem_cons_succ, List.setIfInBounds_toArray, List.set_cons_zero, List.set_cons_succ]
                              refine wpAnyH_take (i := 27) (v := ?_) rfl (by kernel_rfl) (by kernel_rfl) (by kernel_rfl) (fun _ _ _ h => h) (Or.inl ⟨by rfl, ?_⟩) (by assumption) ?_
                              rotate_left
                              · intro w' hSw
                                (try dsimp only at hSw)
                                go_simp
                                try with_reducible rfl
                              simp only [Act.put, List.getElem_toArray, List.getElem_cons_zero, List.getElem_cons_succ, List.setIfInBounds_toArray, List.set_cons_zero, List.set_cons_succ]
                              refine wpAnyH_take (i := 28) (v := ?_) rfl (by kernel_rfl) (by kernel_rfl) (by kernel_rfl) (fun _ _ _ h => h) (Or.inl ⟨by rfl, ?_⟩) (by assumption) ?_
                              rotate_left
                              · intro w' hSw
                                (try dsimp only at hSw)
                                go_simp
                                try with_reducible rfl
                              simp only [Act.put, List.getElem_toArray, List.getElem_cons_zero, List.getElem_cons_succ, List.setIfInBounds_toArray, List.set_cons_zero, List.set_cons_succ]
                              refine wpAnyH_take (i := 29) (v := ?_) rfl (by kernel_rfl) (by kernel_rfl) (by kernel_rfl) (fun _ _ _ h => h) (Or.inl ⟨by rfl, ?_⟩) (by assumption) ?_
                              rotate_left
                              · intro w' hSw
                                (try dsimp only at hSw)
                                go_simp
                                try with_reducible rfl
                              simp only [Act.put, List.getElem_toArray, List.getElem_cons_zero, List.getElem_cons_succ, List.setIfInBounds_toArray, List.set_cons_zero, List.set_cons_succ]
                              refine wpAnyH_take (i := 30) (v := ?_) rfl (by kernel_rfl) (by kernel_rfl) (by kernel_rfl) (fun _ _ _ h => h) (Or.inl ⟨by rfl, ?_⟩) (by assumption) ?_
                              rotate_left
                              · intro w' hSw
                                (try dsimp only at hSw)
                                go_simp
                                try with_reducible rfl
                              simp only [Act.put, List.getElem_toArray, List.getElem_cons_zero, List.getElem_cons_succ, List.setIfInBounds_toArray, List.set_cons_zero, List.set_cons_succ]
                              refine wpAnyH_done (by kernel_rfl) ?_ _
                              have hb8 : Below B w w6 := (below_drawn (q := 1) hb5).trans (hb6.mono (by have := hb5.size; have := HB.out; show B ≤ wr.heap.size; omega))
                              go_wp2
                              go_ret2
                              refine ⟨?_, hb8⟩
                              rw [HFA.out (by rw [HG2.out]; decide), HG2.out]; rfl
        · have HG : Hid (hAt l k = sf ms) := by show hAt l k = _; rw [HAT.out, hPut_bad (by rw [hOne_sf h1]; exact h1), hOne_sf h1]
          have H1 : Hid (sf ms ≠ 0) := h1
          have h1' : (sf ms == 0) = false := by simpa using h1
          clear h1
          obtain ⟨f, hf'⟩ : ∃ f, sf ms = f := ⟨_, rfl⟩
          rw [hf'] at hsf HG H1 h1'
          clear hf'
          go_wp2_with (go_at_call 24; refine hsf.mono ?_; rintro e w' ⟨rfl, hw⟩; rw [hw])
          go_ret2
          refine ⟨?_, hbl1⟩
          rw [HFA.out (by rw [HG.out]; exact H1.out), HG.out]; rfl
      · go_wp2
        go_ret2
        refine ⟨?_, hbl⟩
        rw [hf_ok HL.out fun j hj => HALL.out j (by have := HN.out; omega)]; rfl

end Go.Proofs.YtfmhapajdnmhoafDoor
