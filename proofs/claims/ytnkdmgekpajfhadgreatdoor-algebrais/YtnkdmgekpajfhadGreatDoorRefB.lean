/-
  Walk of the document's own answer for hunks that are done strictly, from the last one on.
-/
import Derived.Test.YtnkdmgekpajfhadGreatDoorXr
import Derived.Deep.RegionHeld3
import Derived.Deep.DrawnRows

namespace Go.Proofs.YtnkdmgekpajfhadGreatDoor
open Go.RowKit Dist

attribute [local go_sem] Go.wp_at_zero Go.wp_at_succ

/-- How many lines there are from the last hunk on. -/
theorem bO_len {xs : List ByteArray} {l : List Hk} (hg : Dist.Good l) (hs : Stand xs l) (hm : ∀ x ∈ l, x.2.2.length ≤ 120) (m : Nat) (hl : m ≤ l.length) : eN l (l.length - m) ≤ (bO xs l m).length ∧ (bO xs l m).length ≤ xs.length + 120 * m := by
  have hen : ∀ k, k ≤ l.length → eN l k ≤ xs.length := fun k hk => eN_in hg hk (fun j hj => hs j (by omega))
  have h1 := congrArg List.length (bO_part hg hs m hl).1
  rw [List.length_take, List.length_take] at h1
  have h2 := hen (l.length - m) (by omega)
  refine ⟨by omega, ?_⟩
  clear h1 h2
  induction m with
  | zero => exact Nat.le_refl _
  | succ m ih =>
    have ih := ih (by omega)
    have h1 := congrArg List.length (bO_part hg hs m (by omega)).1
    rw [List.length_take, List.length_take] at h1
    have h2 := hen (l.length - m) (by omega)
    have hk : l.length - 1 - m < l.length := by omega
    obtain ⟨_, _, _, g4⟩ := hg.at hk
    rw [show l.length - 1 - m + 1 = l.length - m by omega] at g4
    have h3 := hm _ (hk_mem hk)
    have h4 := lessOf_len 45 (l.getD (l.length - 1 - m) (0, 0, [])).2.2
    rw [bO, rep_len (by omega)]
    omega

set_option maxRecDepth 100000 in
set_option maxHeartbeats 8000000 in
theorem refStrict (a la : Option Addr) (xs : List ByteArray) (l : List Hk) (ca cl : Nat) (w : World) (ha : Strs w a xs) (hl : Hks w la l) (h1 : xs.length ≤ maxLen) (g1 : ∀ x ∈ xs, x.size ≤ maxLen) (h0 : l.length ≤ maxLen) (h00 : ∀ h ∈ l, h.2.2.length ≤ maxLen) (h000 : ∀ h ∈ l, ∀ m ∈ h.2.2, m.2.size ≤ maxLen) (hca : xs.length ≤ ca) :
    Calls Tryz.prog 62 #[.slice a xs.length ca, .slice la l.length cl] w fun e w' => ∃ a' c', e = .returned (.tuple #[.slice a' (stO xs l).length c', .int .i64 (stF xs l).1, .int .i64 (stF xs l).2]) ∧ Below w.heap.size w w' ∧ Strs w' a' (stO xs l) ∧ (stO xs l).length ≤ c' := by
  have hlf := linesFault a xs ca w ha h1 g1
  have hhf := refHunks la l cl w hl h0 h00 h000
  by_cases hf1 : lsf (bts xs) = 0
  · by_cases hf2 : (hf l).2 = 0
    · obtain ⟨hgood, hl60, hone⟩ := hf_good hf2
      have hx60 := lsf_len hf1
      have hz := hf_zero hf2
      rw [hf1] at hlf
      rw [hf_ok hz.1 hz.2] at hhf
      dsimp only at hhf
      obtain ⟨m, hm⟩ : ∃ m, xs.length = m := ⟨_, rfl⟩
      obtain ⟨n, hn⟩ : ∃ n, l.length = n := ⟨_, rfl⟩
      rw [hm] at hlf hx60
      rw [hn] at hhf hl60
      rw [hm, hn]
      have HM : Hid (xs.length = m) := hm
      have HN : Hid (l.length = n) := hn
      have HA : Hid (Strs w a xs) := ha
      have HL : Hid (Hks w la l) := hl
      have HCA : Hid (xs.length ≤ ca) := hca
      have HG : Hid (Dist.Good l) := hgood
      have HONE : Hid (∀ x ∈ l, sf x.2.2 = 0 ∧ 0 < chg x.2.2 ∧ 0 ≤ x.1 ∧ x.1 ≤ 60) := hone
      have F1 : Hid (lsf (bts xs) = 0) := hf1
      have F2 : Hid ((hf l).2 = 0) := hf2
      obtain ⟨B, hB⟩ : ∃ B, w.heap.size = B := ⟨_, rfl⟩
      have HB : Hid (w.heap.size = B) := hB
      rw [hB] at hhf ⊢
      clear ha hl hgood hone hf1 hf2 hz hm hn hB h1 g1 h0 h00 h000 hca
      go_enter Tryz.func62, Tryz.ntmps62
      go_wp2_with (go_at_call 92; refine hlf.mono ?_; rintro e w' ⟨rfl, hw⟩; rw [hw])
      go_wp2_with (go_at_call 21; refine hhf.mono ?_)
      rintro e w0 ⟨rfl, hb0⟩
      have HB0 : Hid (Below B w w0) := hb0
      clear hlf hhf hb0
      go_wp2
      go_loopw [9, 10] (fun i _ w1 => ∃ k : Nat, k ≤ n ∧ i = .int .i64 k ∧ Below B w w1 ∧ ∀ j : Nat, j < k → stH xs (l.getD j (0, 0, [])) = true) (fun i _ _ => n - (intOf i).toNat)
      case atStart => exact ⟨0, Nat.zero_le _, rfl, HB0.out, fun j hj => absurd hj (Nat.not_lt_zero _)⟩
      case round =>
        obtain ⟨k, hk, rfl, hbl, hall⟩ := hrel
        have HALL : Hid (∀ j : Nat, j < k → stH xs (l.getD j (0, 0, [])) = true) := hall
        clear hall
        have hb' : Below w.heap.size w wr := by rw [HB.out]; exact hbl
        have hzr : B ≤ wr.heap.size := by have := hbl.size; have := HB.out; omega
        by_cases hlt : k < n
        · have hkl : k < l.length := by rw [HN.out]; exact hlt
          have hl := HL.out
          obtain ⟨b, off, am, cm, rfl, hc1, hc2, hc3, hmk⟩ := hl.at hkl
          clear hl
          have hdr : Below wr.heap.size wr wr.drew := ⟨rfl, rfl, rfl, Nat.le_refl _, fun _ _ => rfl⟩
          replace hc1 := cell_later hb' hc1
          replace hc3 := cell_later hb' hc3
          obtain ⟨o1, o2, o3, o4⟩ := HONE.out _ (hk_mem hkl)
          have hmk' := (hmk.below hb').below hdr
          obtain ⟨H, hH⟩ : ∃ H, l.getD k (0, 0, []) = H := ⟨_, rfl⟩
          have HHK : Hid (l.getD k (0, 0, []) = H) := hH
          rw [hH] at hc1 hc3 hmk' o1 o3 o4
          obtain ⟨o, p, ms⟩ := H
          dsimp only at hc1 hc3 hmk' o1 o3 o4
          obtain ⟨O, rfl⟩ := Int.eq_ofNat_of_zero_le o3
          have hol := oldOf am ms cm wr.drew hmk' o1
          have hml := (sf_zero o1).1
          have hll := lessOf_len 43 ms
          obtain ⟨os, hos⟩ : ∃ os, lessOf 43 ms = os := ⟨_, rfl⟩
          have HOS : Hid (lessOf 43 ms = os) := hos
          obtain ⟨m1, hm1⟩ : ∃ m1, os.length = m1 := ⟨_, rfl⟩
          have HM1 : Hid (os.length = m1) := hm1
          obtain ⟨q, hq⟩ : ∃ q, ms.length = q := ⟨_, rfl⟩
          rw [hos, hm1, hq] at hol
          rw [hos, hm1] at hll
          rw [hq] at hc3 hml hll
          have HC : Hid (∀ w5, Below wr.heap.size wr w5 → w5.cell? ⟨b, off + k * 3, none⟩ = some (.int .i64 O) ∧ w5.cell? ⟨b, off + k * 3 + 2, none⟩ = some (.slice am q cm)) := fun w5 h => ⟨cell_later h hc1, cell_later h hc3⟩
          have HDR : Hid (Below wr.heap.size wr wr.drew) := hdr
          have HST := fun w5 c5 a5 (h : Below wr.heap.size wr w5) (h5 : Strs w5 a5 os) => refStands a a5 xs os ca c5 O w5 ((HA.out.below hb').below h) h5 (by rw [HM.out]; omega) (by rw [HM1.out]; omega) (by omega)
          rw [HM.out, HM1.out] at HST
          have HHST : Hid (∀ w5 c5 a5, Below wr.heap.size wr w5 → Strs w5 a5 os → Calls Tryz.prog 93 #[.slice a m ca, .int .i64 O, .slice a5 m1 c5] w5 fun e w' => e = .returned (.bool (stB xs O os)) ∧ Below w5.heap.size w5 w') := HST
          obtain ⟨r, hr⟩ : ∃ r, stB xs O os = r := ⟨_, rfl⟩
          rw [hr] at HHST
          have HR : Hid (stB xs O os = r) := hr
          clear hmk hmk' hdr hH hos hm1 hq hkl o1 o3 HST hr hb'
          go_wp2_with fail
          refine wp_region_held_drew (S := fun w' => w'.cell? ⟨b, off + k * 3, none⟩ = some (.int .i64 O) ∧ w'.cell? ⟨b, off + k * 3 + 2, none⟩ = some (.slice am q cm)) (by kernel_rfl) ?_ (fun hHeld => ?_)
          · exact HC.out _ HDR.out
          refine wpAnyH_take (i := 0) (v := ?_) rfl (by kernel_rfl) (by kernel_rfl) (by kernel_rfl) (fun _ _ _ h => h) (Or.inl ⟨by rfl, ?_⟩) (by assumption) ?_
          rotate_left
          · intro w' hSw
            (try dsimp only at hSw)
            go_simp
            try with_reducible rfl
          simp only [Act.put, List.getElem_toArray, List.getElem_cons_zero, List.setIfInBounds_toArray, List.set_cons_zero, List.set_cons_succ]
          refine wpAnyH_take (i := 1) (v := ?_) rfl (by kernel_rfl) (by kernel_rfl) (by kernel_rfl) (fun _ _ _ h => h) (Or.inl ⟨by rfl, ?_⟩) (by assumption) ?_
          rotate_left
          · intro w' hSw
            (try dsimp only at hSw)
            go_simp
            try with_reducible rfl
          simp only [Act.put, List.getElem_toArray, List.getElem_cons_zero, List.getElem_cons_succ, List.setIfInBounds_toArray, List.set_cons_zero, List.set_cons_succ]
          refine wpAnyH_take (i := 2) (v := ?_) rfl (by kernel_rfl) (by kernel_rfl) (by kernel_rfl) (fun _ _ _ h => h) (Or.inl ⟨by rfl, ?_⟩) (by assumption) ?_
          rotate_left
          · intro w' hSw
            (try dsimp only at hSw)
            go_simp
            try with_reducible rfl
          simp only [Act.put, List.getElem_toArray, List.getElem_cons_zero, List.getElem_cons_succ, List.setIfInBounds_toArray, List.set_cons_zero, List.set_cons_succ]
          refine wpAnyH_take (i := 3) (v := ?_) rfl (by kernel_rfl) (by kernel_rfl) (by kernel_rfl) (fun _ _ _ h => h) (Or.inl ⟨by rfl, ?_⟩) (by assumption) ?_
          rotate_left
          · intro w' hSw
            (try dsimp only at hSw)
            go_simp
            try with_reducible rfl
          simp only [Act.put, List.getElem_toArray, List.getElem_cons_zero, List.getElem_cons_succ, List.setIfInBounds_toArray, List.set_cons_zero, List.set_cons_succ]
          refine wpAnyH_take (i := 4) (v := ?_) rfl (by kernel_rfl) (by kernel_rfl) (by kernel_rfl) (fun _ _ _ h => h) (Or.inl ⟨by rfl, ?_⟩) (by assumption) ?_
          rotate_left
          · intro w' hSw
            (try dsimp only at hSw)
            go_simp
            try with_reducible rfl
          simp only [Act.put, List.getElem_toArray, List.getElem_cons_zero, List.getElem_cons_succ, List.setIfInBounds_toArray, List.set_cons_zero, List.set_cons_succ]
          refine wpAnyH_take (i := 5) (v := ?_) rfl (by kernel_rfl) (by kernel_rfl) (by kernel_rfl) (fun _ _ _ h => h) (Or.inl ⟨by rfl, ?_⟩) (by assumption) ?_
          rotate_left
          · intro w' hSw
            (try dsimp only at hSw)
            go_simp
            try with_reducible rfl
          simp only [Act.put, List.getElem_toArray, List.getElem_cons_zero, List.getElem_cons_succ, List.setIfInBounds_toArray, List.set_cons_zero, List.set_cons_succ]
          refine wpAnyH_take (i := 6) (v := ?_) rfl (by kernel_rfl) (by kernel_rfl) (by kernel_rfl) (fun _ _ _ h => h) (Or.inl ⟨by rfl, ?_⟩) (by assumption) ?_
          rotate_left
          · intro w' hSw
            (try dsimp only at hSw)
            go_simp
            try with_reducible rfl
          simp only [Act.put, List.getElem_toArray, List.getElem_cons_zero, List.getElem_cons_succ, List.setIfInBounds_toArray, List.set_cons_zero, List.set_cons_succ]
          refine wpAnyH_take (i := 7) (v := ?_) rfl (by kernel_rfl) (by kernel_rfl) (by kernel_rfl) (fun _ _ _ h => h) (Or.inl ⟨by rfl, ?_⟩) (by assumption) ?_
          rotate_left
          · intro w' hSw
            (try dsimp only at hSw)
            go_simp
            try with_reducible rfl
          simp only [Act.put, List.getElem_toArray, List.getElem_cons_zero, List.getElem_cons_succ, List.setIfInBounds_toArray, List.set_cons_zero, List.set_cons_succ]
          refine wpAnyH_take (i := 8) (v := ?_) rfl (by kernel_rfl) (by kernel_rfl) (by kernel_rfl) (fun _ _ _ h => h) (Or.inl ⟨by rfl, ?_⟩) (by assumption) ?_
          rotate_left
          · intro w' hSw
            (try dsimp only at hSw)
            go_simp
            try with_reducible rfl
          simp only [Act.put, List.getElem_toArray, List.getElem_cons_zero, List.getElem_cons_succ, List.setIfInBounds_toArray, List.set_cons_zero, List.set_cons_succ]
          refine wpAnyH_take (i := 9) (v := ?_) rfl (by kernel_rfl) (by kernel_rfl) (by kernel_rfl) (fun _ _ _ h => h) (Or.inl ⟨by rfl, ?_⟩) (by assumption) ?_
          rotate_left
          · intro w' hSw
            (try dsimp only at hSw)
            go_simp
            try with_reducible rfl
          simp only [Act.put, List.getElem_toArray, List.getElem_cons_zero, List.getElem_cons_succ, List.setIfInBounds_toArray, List.set_cons_zero, List.set_cons_succ]
          refine wpAnyH_take (i := 10) (v := ?_) rfl (by kernel_rfl) (by kernel_rfl) (by kernel_rfl) (fun _ _ _ h => h) (Or.inl ⟨by rfl, ?_⟩) (by assumption) ?_
          rotate_left
          · intro w' hSw
            (try dsimp only at hSw)
            go_simp
            try with_reducible rfl
          simp only [Act.put, List.getElem_toArray, List.getElem_cons_zero, List.getElem_cons_succ, List.setIfInBounds_toArray, List.set_cons_zero, List.set_cons_succ]
          refine wpAnyH_ready (rs := [11]) (by kernel_rfl) (by simp) ?_
          refine AllReadyH.cons rfl (fun K hK => ?_) AllReadyH.nil
          go_simp
          refine hol.mono ?_
          rintro e w5 ⟨a5, c5, rfl, hs5, hb5⟩
          have hb5' := HDR.out.trans hb5
          have hst := HHST.out w5 c5 a5 hb5' hs5
          go_wp2_with fail
          refine hK.out _ _ ?_ (fun hHeld => ?_)
          · exact HC.out _ hb5'
          clear hK K
          refine wpAnyH_ready (rs := [12]) (by kernel_rfl) (by simp) ?_
          refine AllReadyH.cons rfl (fun K hK => ?_) AllReadyH.nil
          go_simp
          refine hst.mono ?_
          rintro e w6 ⟨rfl, hb6⟩
          have hb6' := hb5'.trans (hb6.mono hb5'.size)
          go_wp2_with fail
          refine hK.out _ _ ?_ (fun hHeld => ?_)
          · exact HC.out _ hb6'
          clear hK K
          refine wpAnyH_take (i := 13) (v := ?_) rfl (by kernel_rfl) (by kernel_rfl) (by kernel_rfl) (fun _ _ _ h => h) (Or.inl ⟨by rfl, ?_⟩) (by assumption) ?_
          rotate_left
          · intro w' hSw
            (try dsimp only at hSw)
            go_simp
            try with_reducible rfl
          simp only [Act.put, List.getElem_toArray, List.getElem_cons_zero, List.getElem_cons_succ, List.setIfInBounds_toArray, List.set_cons_zero, List.set_cons_succ]
          refine wpAnyH_done (by kernel_rfl) ?_ _
          have hbw : Below B w w6 := hbl.trans (hb6'.mono hzr)
          clear hol hst hs5 hb5 hb6 hb5' hb6' hHeld HHST HC
          cases r
          · have E1 : Hid (stF xs l = (k, 6)) := stF_clash F1.out F2.out (clash_at HALL.out (by rw [HN.out]; exact hlt) (by rw [HHK.out]; show stB xs ((O : Int)).toNat (lessOf 43 ms) = false; rw [Int.toNat_natCast, HOS.out]; exact HR.out))
            have E2 : Hid (stO xs l = []) := stO_bad (by rw [E1.out]; show (6 : Int) ≠ 0; decide)
            go_wp2
            refine bodyPost_ret (v := .tuple #[.slice none 0 0, .int .i64 k, .int .i64 6]) (by simp [results, Tryz.results62, go_sem]) rfl ⟨none, 0, ?_, hbw, ?_, ?_⟩
            · rw [E1.out, E2.out]; rfl
            · rw [E2.out]; exact fun i hi => absurd hi (by simp)
            · rw [E2.out]; exact Nat.le_refl _
          · go_wp2
            go_roundw
            case rel => exact ⟨k + 1, by omega, by go_num, hbw, fun j hj => by
              by_cases e : j = k
              · rw [e, HHK.out]
                show stB xs ((O : Int)).toNat (lessOf 43 ms) = true
                rw [Int.toNat_natCast, HOS.out]; exact HR.out
              · exact HALL.out j (by omega)⟩
            case measure => simp [intOf]; omega
        · obtain rfl : k = n := by omega
          have HBK : Hid (Below B w wr) := hbl
          have HSTD : Hid (Stand xs l) := fun j hj => HALL.out j (by rw [← HN.out]; exact hj)
          clear hb' hlt hk HALL hzr hbl
          have HMS : Hid (∀ x ∈ l, x.2.2.length ≤ 120) := fun x hx => (sf_zero (HONE.out x hx).1).1
          go_wp2
          go_loopw [11, 12] (fun v i w1 => ∃ mm : Nat, mm ≤ k ∧ i = .int .i64 ((k : Int) - 1 - mm) ∧ Below B w w1 ∧ ∃ a' c', v = .slice a' (bO xs l mm).length c' ∧ Strs w1 a' (bO xs l mm) ∧ (bO xs l mm).length ≤ c') (fun _ i _ => (intOf i + 1).toNat)
          case atStart => exact ⟨0, Nat.zero_le _, by go_num, HBK.out, a, ca, by rw [show bO xs l 0 = xs from rfl, HM.out], HA.out.below (by rw [HB.out]; exact HBK.out), HCA.out⟩
          case round =>
            clear HBK
            obtain ⟨mm, hmm, rfl, hbl, a2, c2, rfl, hs2, hc2⟩ := hrel
            have hb' : Below w.heap.size w wr := by rw [HB.out]; exact hbl
            have hzr : B ≤ wr.heap.size := by have := hbl.size; have := HB.out; omega
            obtain ⟨hbl1, hbl2⟩ := bO_len HG.out HSTD.out HMS.out mm (by rw [HN.out]; exact hmm)
            rw [HN.out] at hbl1
            rw [HM.out] at hbl2
            by_cases hlt : mm < k
            · have HNX : Hid (bO xs l (mm + 1) = rep (bO xs l mm) (l.getD (k - 1 - mm) (0, 0, [])).1.toNat (lessOf 43 (l.getD (k - 1 - mm) (0, 0, [])).2.2).length (lessOf 45 (l.getD (k - 1 - mm) (0, 0, [])).2.2)) := by
                show bO xs l (mm + 1) = _
                rw [bO, HN.out]
              obtain ⟨t, ht⟩ : ∃ t : Nat, k - 1 - mm = t := ⟨_, rfl⟩
              have htk : t < k := by omega
              have hti : (k : Int) - 1 - mm = t := by omega
              have HTI : Hid ((k : Int) - 1 - mm = t) := hti
              rw [ht] at HNX
              rw [show k - mm = t + 1 by omega] at hbl1
              rw [hti]
              have hkl : t < l.length := by rw [HN.out]; exact htk
              obtain ⟨_, _, _, g4⟩ := HG.out.at hkl
              rw [g4] at hbl1
              have hl := HL.out
              obtain ⟨b, off, am, cm, rfl, hc1, _, hc3, hmk⟩ := hl.at hkl
              clear hl
              have hdr : Below wr.heap.size wr wr.drew := ⟨rfl, rfl, rfl, Nat.le_refl _, fun _ _ => rfl⟩
              replace hc1 := cell_later hb' hc1
              replace hc3 := cell_later hb' hc3
              obtain ⟨o1, o2, o3, o4⟩ := HONE.out _ (hk_mem hkl)
              replace hmk := hmk.below hb'
              obtain ⟨H, hH⟩ : ∃ H, l.getD t (0, 0, []) = H := ⟨_, rfl⟩
              rw [hH] at hc1 hc3 hmk o1 o3 o4 HNX hbl1
              obtain ⟨o, p, ms⟩ := H
              dsimp only at hc1 hc3 hmk o1 o3 o4 HNX hbl1
              obtain ⟨O, rfl⟩ := Int.eq_ofNat_of_zero_le o3
              rw [Int.toNat_natCast] at HNX hbl1
              have hml := (sf_zero o1).1
              have hll := lessOf_len 43 ms
              have hln := lessOf_len 45 ms
              have HOL := fun w5 (h : Below wr.heap.size wr w5) => oldOf am ms cm w5 (hmk.below h) o1
              have HNW := fun w5 (h : Below wr.heap.size wr w5) => newOf am ms cm w5 (hmk.below h) o1
              obtain ⟨os, hos⟩ : ∃ os, lessOf 43 ms = os := ⟨_, rfl⟩
              obtain ⟨ns, hns⟩ : ∃ ns, lessOf 45 ms = ns := ⟨_, rfl⟩
              obtain ⟨m1, hm1⟩ : ∃ m1, os.length = m1 := ⟨_, rfl⟩
              obtain ⟨m2, hm2⟩ : ∃ m2, ns.length = m2 := ⟨_, rfl⟩
              have HM2 : Hid (ns.length = m2) := hm2
              obtain ⟨q, hq⟩ : ∃ q, ms.length = q := ⟨_, rfl⟩
              rw [hos, hm1, hq] at HOL
              rw [hns, hm2, hq] at HNW
              rw [hos, hm1] at hll HNX hbl1
              rw [hns] at HNX
              rw [hns, hm2] at hln
              rw [hq] at hc3 hml hll hln
              obtain ⟨X, hX⟩ : ∃ X, bO xs l mm = X := ⟨_, rfl⟩
              rw [hX] at hbl1 hbl2 hs2 hc2 HNX ⊢
              have HRP := fun w5 c5 a5 (h : Below wr.heap.size wr w5) (h5 : Strs w5 a5 ns) => refRepl a2 a5 X ns c2 c5 O m1 w5 (hs2.below h) h5 hc2 hbl1 (by omega) (by rw [HM2.out]; omega)
              obtain ⟨x, hx⟩ : ∃ x, X.length = x := ⟨_, rfl⟩
              have HXL : Hid (X.length = x) := hx
              rw [hx, HM2.out] at HRP
              rw [hx] at hbl1 hbl2 ⊢
              have HC : Hid (∀ w5, Below wr.heap.size wr w5 → w5.cell? ⟨b, off + t * 3, none⟩ = some (.int .i64 O) ∧ w5.cell? ⟨b, off + t * 3 + 2, none⟩ = some (.slice am q cm)) := fun w5 h => ⟨cell_later h hc1, cell_later h hc3⟩
              have HDR : Hid (Below wr.heap.size wr wr.drew) := hdr
              have HHOL : Hid (∀ w5, Below wr.heap.size wr w5 → Calls Tryz.prog 22 #[.slice am q cm] w5 fun e w' => ∃ a' cap, e = .returned (.slice a' m1 cap) ∧ Strs w' a' os ∧ Below w5.heap.size w5 w') := HOL
              have HHNW : Hid (∀ w5, Below wr.heap.size wr w5 → Calls Tryz.prog 23 #[.slice am q cm] w5 fun e w' => ∃ a' cap, e = .returned (.slice a' m2 cap) ∧ Strs w' a' ns ∧ Below w5.heap.size w5 w') := HNW
              have HHRP : Hid (∀ w5 c5 a5, Below wr.heap.size wr w5 → Strs w5 a5 ns → Calls Tryz.prog 94 #[.slice a2 x c2, .int .i64 O, .int .i64 m1, .slice a5 m2 c5] w5 fun e w' => ∃ a' c', e = .returned (.slice a' (rep X O m1 ns).length c') ∧ Strs w' a' (rep X O m1 ns) ∧ Below w5.heap.size w5 w' ∧ (rep X O m1 ns).length ≤ c') := HRP
              clear hmk hdr hH hos hns hm1 hm2 hq hkl o1 o3 hb' hs2 hc2 hX hx HOL HNW HRP g4 hti ht
              go_wp2_with fail
              refine wp_region_held_drew (S := fun w' => w'.cell? ⟨b, off + t * 3, none⟩ = some (.int .i64 O) ∧ w'.cell? ⟨b, off + t * 3 + 2, none⟩ = some (.slice am q cm)) (by kernel_rfl) ?_ (fun hHeld => ?_)
              · exact HC.out _ HDR.out
              refine wpAnyH_take (i := 0) (v := ?_) rfl (by kernel_rfl) (by kernel_rfl) (by kernel_rfl) (fun _ _ _ h => h) (Or.inl ⟨by rfl, ?_⟩) (by assumption) ?_
              rotate_left
              · intro w' hSw
                (try dsimp only at hSw)
                go_simp
                try with_reducible rfl
              simp only [Act.put, List.getElem_toArray, List.getElem_cons_zero, List.setIfInBounds_toArray, List.set_cons_zero, List.set_cons_succ]
              refine wpAnyH_take (i := 1) (v := ?_) rfl (by kernel_rfl) (by kernel_rfl) (by kernel_rfl) (fun _ _ _ h => h) (Or.inl ⟨by rfl, ?_⟩) (by assumption) ?_
              rotate_left
              · intro w' hSw
                (try dsimp only at hSw)
                go_simp
                try with_reducible rfl
              simp only [Act.put, List.getElem_toArray, List.getElem_cons_zero, List.getElem_cons_succ, List.setIfInBounds_toArray, List.set_cons_zero, List.set_cons_succ]
              refine wpAnyH_take (i := 2) (v := ?_) rfl (by kernel_rfl) (by kernel_rfl) (by kernel_rfl) (fun _ _ _ h => h) (Or.inl ⟨by rfl, ?_⟩) (by assumption) ?_
              rotate_left
              · intro w' hSw
                (try dsimp only at hSw)
                go_simp
                try with_reducible rfl
              simp only [Act.put, List.getElem_toArray, List.getElem_cons_zero, List.getElem_cons_succ, List.setIfInBounds_toArray, List.set_cons_zero, List.set_cons_succ]
              refine wpAnyH_take (i := 3) (v := ?_) rfl (by kernel_rfl) (by kernel_rfl) (by kernel_rfl) (fun _ _ _ h => h) (Or.inl ⟨by rfl, ?_⟩) (by assumption) ?_
              rotate_left
              · intro w' hSw
                (try dsimp only at hSw)
                go_simp
                try with_reducible rfl
              simp only [Act.put, List.getElem_toArray, List.getElem_cons_zero, List.getElem_cons_succ, List.setIfInBounds_toArray, List.set_cons_zero, List.set_cons_succ]
              refine wpAnyH_take (i := 4) (v := ?_) rfl (by kernel_rfl) (by kernel_rfl) (by kernel_rfl) (fun _ _ _ h => h) (Or.inl ⟨by rfl, ?_⟩) (by assumption) ?_
              rotate_left
              · intro w' hSw
                (try dsimp only at hSw)
                go_simp
                try with_reducible rfl
              simp only [Act.put, List.getElem_toArray, List.getElem_cons_zero, List.getElem_cons_succ, List.setIfInBounds_toArray, List.set_cons_zero, List.set_cons_succ]
              refine wpAnyH_take (i := 5) (v := ?_) rfl (by kernel_rfl) (by kernel_rfl) (by kernel_rfl) (fun _ _ _ h => h) (Or.inl ⟨by rfl, ?_⟩) (by assumption) ?_
              rotate_left
              · intro w' hSw
                (try dsimp only at hSw)
                go_simp
                try with_reducible rfl
              simp only [Act.put, List.getElem_toArray, List.getElem_cons_zero, List.getElem_cons_succ, List.setIfInBounds_toArray, List.set_cons_zero, List.set_cons_succ]
              refine wpAnyH_take (i := 6) (v := ?_) rfl (by kernel_rfl) (by kernel_rfl) (by kernel_rfl) (fun _ _ _ h => h) (Or.inl ⟨by rfl, ?_⟩) (by assumption) ?_
              rotate_left
              · intro w' hSw
                (try dsimp only at hSw)
                go_simp
                try with_reducible rfl
              simp only [Act.put, List.getElem_toArray, List.getElem_cons_zero, List.getElem_cons_succ, List.setIfInBounds_toArray, List.set_cons_zero, List.set_cons_succ]
              refine wpAnyH_take (i := 7) (v := ?_) rfl (by kernel_rfl) (by kernel_rfl) (by kernel_rfl) (fun _ _ _ h => h) (Or.inl ⟨by rfl, ?_⟩) (by assumption) ?_
              rotate_left
              · intro w' hSw
                (try dsimp only at hSw)
                go_simp
                try with_reducible rfl
              simp only [Act.put, List.getElem_toArray, List.getElem_cons_zero, List.getElem_cons_succ, List.setIfInBounds_toArray, List.set_cons_zero, List.set_cons_succ]
              refine wpAnyH_take (i := 8) (v := ?_) rfl (by kernel_rfl) (by kernel_rfl) (by kernel_rfl) (fun _ _ _ h => h) (Or.inl ⟨by rfl, ?_⟩) (by assumption) ?_
              rotate_left
              · intro w' hSw
                (try dsimp only at hSw)
                go_simp
                try with_reducible rfl
              simp only [Act.put, List.getElem_toArray, List.getElem_cons_zero, List.getElem_cons_succ, List.setIfInBounds_toArray, List.set_cons_zero, List.set_cons_succ]
              refine wpAnyH_take (i := 9) (v := ?_) rfl (by kernel_rfl) (by kernel_rfl) (by kernel_rfl) (fun _ _ _ h => h) (Or.inl ⟨by rfl, ?_⟩) (by assumption) ?_
              rotate_left
              · intro w' hSw
                (try dsimp only at hSw)
                go_simp
                try with_reducible rfl
              simp only [Act.put, List.getElem_toArray, List.getElem_cons_zero, List.getElem_cons_succ, List.setIfInBounds_toArray, List.set_cons_zero, List.set_cons_succ]
              refine wpAnyH_take (i := 10) (v := ?_) rfl (by kernel_rfl) (by kernel_rfl) (by kernel_rfl) (fun _ _ _ h => h) (Or.inl ⟨by rfl, ?_⟩) (by assumption) ?_
              rotate_left
              · intro w' hSw
                (try dsimp only at hSw)
                go_simp
                try with_reducible rfl
              simp only [Act.put, List.getElem_toArray, List.getElem_cons_zero, List.getElem_cons_succ, List.setIfInBounds_toArray, List.set_cons_zero, List.set_cons_succ]
              refine wpAnyH_take (i := 13) (v := ?_) rfl (by kernel_rfl) (by kernel_rfl) (by kernel_rfl) (fun _ _ _ h => h) (Or.inl ⟨by rfl, ?_⟩) (by assumption) ?_
              rotate_left
              · intro w' hSw
                (try dsimp only at hSw)
                go_simp
                try with_reducible rfl
              simp only [Act.put, List.getElem_toArray, List.getElem_cons_zero, List.getElem_cons_succ, List.setIfInBounds_toArray, List.set_cons_zero, List.set_cons_succ]
              refine wpAnyH_take (i := 14) (v := ?_) rfl (by kernel_rfl) (by kernel_rfl) (by kernel_rfl) (fun _ _ _ h => h) (Or.inl ⟨by rfl, ?_⟩) (by assumption) ?_
              rotate_left
              · intro w' hSw
                (try dsimp only at hSw)
                go_simp
                try with_reducible rfl
              simp only [Act.put, List.getElem_toArray, List.getElem_cons_zero, List.getElem_cons_succ, List.setIfInBounds_toArray, List.set_cons_zero, List.set_cons_succ]
              refine wpAnyH_take (i := 15) (v := ?_) rfl (by kernel_rfl) (by kernel_rfl) (by kernel_rfl) (fun _ _ _ h => h) (Or.inl ⟨by rfl, ?_⟩) (by assumption) ?_
              rotate_left
              · intro w' hSw
                (try dsimp only at hSw)
                go_simp
                try with_reducible rfl
              simp only [Act.put, List.getElem_toArray, List.getElem_cons_zero, List.getElem_cons_succ, List.setIfInBounds_toArray, List.set_cons_zero, List.set_cons_succ]
              refine wpAnyH_take (i := 16) (v := ?_) rfl (by kernel_rfl) (by kernel_rfl) (by kernel_rfl) (fun _ _ _ h => h) (Or.inl ⟨by rfl, ?_⟩) (by assumption) ?_
              rotate_left
              · intro w' hSw
                (try dsimp only at hSw)
                go_simp
                try with_reducible rfl
              simp only [Act.put, List.getElem_toArray, List.getElem_cons_zero, List.getElem_cons_succ, List.setIfInBounds_toArray, List.set_cons_zero, List.set_cons_succ]
              refine wpAnyH_take (i := 17) (v := ?_) rfl (by kernel_rfl) (by kernel_rfl) (by kernel_rfl) (fun _ _ _ h => h) (Or.inl ⟨by rfl, ?_⟩) (by assumption) ?_
              rotate_left
              · intro w' hSw
                (try dsimp only at hSw)
                go_simp
                try with_reducible rfl
              simp only [Act.put, List.getElem_toArray, List.getElem_cons_zero, List.getElem_cons_succ, List.setIfInBounds_toArray, List.set_cons_zero, List.set_cons_succ]
              refine wpAnyH_ready (rs := [11]) (by kernel_rfl) (by simp) ?_
              refine AllReadyH.cons rfl (fun K hK => ?_) AllReadyH.nil
              go_simp
              refine (HHOL.out _ HDR.out).mono ?_
              rintro e w5 ⟨a5, c5, rfl, _, hb5⟩
              have hb5' := HDR.out.trans hb5
              go_wp2_with fail
              refine hK.out _ _ ?_ (fun hHeld => ?_)
              · exact HC.out _ hb5'
              clear hK K
              refine wpAnyH_take (i := 12) (v := ?_) rfl (by kernel_rfl) (by kernel_rfl) (by kernel_rfl) (fun _ _ _ h => h) (Or.inl ⟨by rfl, ?_⟩) (by assumption) ?_
              rotate_left
              · intro w' hSw
                (try dsimp only at hSw)
                go_simp
                try with_reducible rfl
              simp only [Act.put, List.getElem_toArray, List.getElem_cons_zero, List.getElem_cons_succ, List.setIfInBounds_toArray, List.set_cons_zero, List.set_cons_succ]
              refine wpAnyH_ready (rs := [18]) (by kernel_rfl) (by simp) ?_
              refine AllReadyH.cons rfl (fun K hK => ?_) AllReadyH.nil
              go_simp
              refine (HHNW.out _ hb5').mono ?_
              rintro e w6 ⟨a6, c6, rfl, hs6, hb6⟩
              have hb6' := hb5'.trans (hb6.mono hb5'.size)
              go_wp2_with fail
              refine hK.out _ _ ?_ (fun hHeld => ?_)
              · exact HC.out _ hb6'
              clear hK K
              all_goals
                have hrp := HHRP.out w6 c6 a6 hb6' hs6
                refine wpAnyH_ready (rs := [19]) (by kernel_rfl) (by simp) ?_
                refine AllReadyH.cons rfl (fun K hK => ?_) AllReadyH.nil
                go_simp
                refine hrp.mono ?_
                rintro e w7 ⟨a7, c7, rfl, hs7, hb7, hc7⟩
                have hb7' := hb6'.trans (hb7.mono hb6'.size)
                go_wp2_with fail
                refine hK.out _ _ ?_ (fun hHeld => ?_)
                · exact HC.out _ hb7'
                clear hK K
                refine wpAnyH_take (i := 20) (v := ?_) rfl (by kernel_rfl) (by kernel_rfl) (by kernel_rfl) (fun _ _ _ h => h) (Or.inl ⟨by rfl, ?_⟩) (by assumption) ?_
                rotate_left
                · intro w' hSw
                  (try dsimp only at hSw)
                  go_simp
                  try with_reducible rfl
                simp only [Act.put, List.getElem_toArray, List.getElem_cons_zero, List.getElem_cons_succ, List.setIfInBounds_toArray, List.set_cons_zero, List.set_cons_succ]
                refine wpAnyH_done (by kernel_rfl) ?_ _
                have hbw : Below B w w7 := hbl.trans (hb7'.mono hzr)
                have HS7 : Hid (Strs w7 a7 (rep X O m1 ns)) := hs7
                have HC7 : Hid ((rep X O m1 ns).length ≤ c7) := hc7
                obtain ⟨y, hy⟩ : ∃ y, (rep X O m1 ns).length = y := ⟨_, rfl⟩
                have HYL : Hid ((rep X O m1 ns).length = y) := hy
                rw [hy]
                clear hrp hs6 hb5 hb6 hb7 hb5' hb6' hb7' hHeld HHRP HHOL HHNW HC hs7 hc7 hy hbl1
                go_wp2
                go_roundw
                case rel => exact ⟨mm + 1, by omega, by rw [show ((k : Int) - 1 - ((mm + 1 : Nat) : Int)) = (t : Int) - 1 by have := HTI.out; omega], hbw, a7, c7, by rw [HNX.out, HYL.out], by rw [HNX.out]; exact HS7.out, by rw [HNX.out]; exact HC7.out⟩
                case measure => simp [intOf]
            · obtain rfl : mm = k := by omega
              have hall := bO_all HG.out HSTD.out
              rw [HN.out] at hall
              rw [hall] at hs2 hc2 hbl2 ⊢
              have E1 : Hid (60 < (sR xs l).length → stF xs l = (0, 3)) := fun h => stF_full F1.out F2.out (clash_none HSTD.out) h
              have E2 : Hid (¬ 60 < (sR xs l).length → stF xs l = (0, 0)) := fun h => stF_ok F1.out F2.out (clash_none HSTD.out) h
              have E3 : Hid ((stF xs l).2 = 0 → stO xs l = sR xs l) := stO_ok
              obtain ⟨X, hX⟩ : ∃ X, sR xs l = X := ⟨_, rfl⟩
              obtain ⟨x, hx⟩ : ∃ x, X.length = x := ⟨_, rfl⟩
              rw [hX, hx] at E1 E2
              rw [hX] at E3
              rw [hX, hx] at hbl2 ⊢
              rw [hX] at hs2
              have HXL : Hid (X.length = x) := hx
              have HC2 : Hid (X.length ≤ c2) := by rw [hX] at hc2; exact hc2
              clear hall hX hx hbl1 hc2
              rw [show (mm : Int) - 1 - mm = -1 by omega]
              by_cases h60 : 60 < (x : Int)
              · have e1 : Hid (stF xs l = (0, 3)) := E1.out (by omega)
                have e2 : Hid (stO xs l = []) := stO_bad (by rw [e1.out]; show (3 : Int) ≠ 0; decide)
                clear E1 E2 E3
                go_wp2
                refine bodyPost_ret (v := .tuple #[.slice none 0 0, .int .i64 0, .int .i64 3]) (by simp [results, Tryz.results62, go_sem]) rfl ⟨none, 0, ?_, hbl, ?_, ?_⟩
                · rw [e1.out, e2.out]; rfl
                · rw [e2.out]; exact fun i hi => absurd hi (by simp)
                · rw [e2.out]; exact Nat.le_refl _
              · have e1 : Hid (stF xs l = (0, 0)) := E2.out (by omega)
                have e2 : Hid (stO xs l = X) := E3.out (by rw [e1.out])
                clear E1 E2 E3
                go_wp2
                refine bodyPost_ret (v := .tuple #[.slice a2 x c2, .int .i64 0, .int .i64 0]) (by simp [results, Tryz.results62, go_sem]) rfl ⟨a2, c2, ?_, hbl, ?_, ?_⟩
                · rw [e1.out, e2.out, HXL.out]; rfl
                · rw [e2.out]; exact hs2
                · rw [e2.out]; exact HC2.out
    · have e1 := stF_hunks hf1 hf2
      have e2 : stO xs l = [] := stO_bad (by rw [e1]; exact hf2)
      rw [e1, e2]
      rw [hf1] at hlf
      obtain ⟨m, hm⟩ : ∃ m, xs.length = m := ⟨_, rfl⟩
      obtain ⟨n, hn⟩ : ∃ n, l.length = n := ⟨_, rfl⟩
      obtain ⟨f, hf'⟩ : ∃ f, (hf l).2 = f := ⟨_, rfl⟩
      obtain ⟨kk, hk⟩ : ∃ k, (hf l).1 = k := ⟨_, rfl⟩
      rw [hm] at hlf
      rw [hn, hf', hk] at hhf
      rw [hm, hn, hf', hk]
      rw [hf'] at hf2
      have hf2' : (f != 0) = true := by simpa using hf2
      clear ha hl h1 g1 h0 h00 h000 hca hf1 e1 e2 hm hn hf' hk hf2
      go_enter Tryz.func62, Tryz.ntmps62
      go_wp2_with (go_at_call 92; refine hlf.mono ?_; rintro e w' ⟨rfl, hw⟩; rw [hw])
      go_wp2_with (go_at_call 21; refine hhf.mono ?_)
      rintro e w0 ⟨rfl, hb0⟩
      clear hlf hhf
      go_wp2
      exact bodyPost_ret (v := .tuple #[.slice none 0 0, .int .i64 kk, .int .i64 f]) (by simp [results, Tryz.results62, go_sem]) rfl ⟨none, 0, rfl, hb0, fun i hi => absurd hi (by simp), Nat.le_refl _⟩
  · have e1 := stF_lines (l := l) hf1
    have e2 : stO xs l = [] := stO_bad (by rw [e1]; exact hf1)
    rw [e1, e2]
    obtain ⟨m, hm⟩ : ∃ m, xs.length = m := ⟨_, rfl⟩
    obtain ⟨n, hn⟩ : ∃ n, l.length = n := ⟨_, rfl⟩
    obtain ⟨f, hf'⟩ : ∃ f, lsf (bts xs) = f := ⟨_, rfl⟩
    rw [hm, hf'] at hlf
    rw [hm, hn, hf']
    rw [hf'] at hf1
    have hf1' : (f != 0) = true := by simpa using hf1
    clear ha hl h1 g1 h0 h00 h000 hca hf1 e1 e2 hm hn hf' hhf
    go_enter Tryz.func62, Tryz.ntmps62
    go_wp2_with (go_at_call 92; refine hlf.mono ?_; rintro e w' ⟨rfl, hw⟩; rw [hw])
    exact bodyPost_ret (v := .tuple #[.slice none 0 0, .int .i64 0, .int .i64 f]) (by simp [results, Tryz.results62, go_sem]) rfl ⟨none, 0, rfl, Below.refl _ _, fun i hi => absurd hi (by simp), Nat.le_refl _⟩

end Go.Proofs.YtnkdmgekpajfhadGreatDoor
