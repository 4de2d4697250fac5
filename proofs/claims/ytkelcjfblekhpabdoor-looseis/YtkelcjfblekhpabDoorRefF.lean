/-
  Walk of the document's own answer for hunks that are done as near as may be.
-/
import Derived.Test.YtkelcjfblekhpabDoorRefD
import Derived.Deep.RegionHeld3
import Derived.Deep.RegionLaw
import Derived.Deep.CutBlock
import Derived.Deep.CutRange
import Derived.Deep.DeepCutAuto

namespace Go.Proofs.YtkelcjfblekhpabDoor
open Go.RowKit Dist

set_option maxRecDepth 100000 in
set_option maxHeartbeats 8000000 in
theorem refLoose (a la : Option Addr) (xs : List ByteArray) (l : List Hk) (ca cl fuzz far : Nat) (w : World) (ha : Strs w a xs) (hl : Hks w la l) (hca : xs.length ≤ ca) (hf1 : lcF xs l fuzz far = 0) :
    Calls Tryd.prog 11 #[.slice a xs.length ca, .slice la l.length cl, .int .i64 fuzz, .int .i64 far] w fun e w' => ∃ a' c' b' cb g' cg, e = .returned (.tuple #[.slice a' (lrun fuzz far xs l l.length).A.length c', .slice b' (lrun fuzz far xs l l.length).L.length cb, .slice g' (lrun fuzz far xs l l.length).W.length cg]) ∧ Below w.heap.size w w' ∧ Strs w' a' (lrun fuzz far xs l l.length).A ∧ Hks w' b' (lrun fuzz far xs l l.length).L ∧ Ints w' g' (lrun fuzz far xs l l.length).W := by
  obtain ⟨z1, z2, _, hfz, _, hfr⟩ := lcF_zero hf1
  obtain ⟨hgood, hl60, hone⟩ := hf_good z2
  have hx60 := lsf_len z1
  have HOK : Hid (∀ k, k ≤ l.length → OkS (fun x => lf x.data.toList = 0) far xs k (lrun fuzz far xs l k)) := fun k hk =>
    run_ok hx60 (fun x hx => (lsf_zero z1).2 _ (List.mem_map.2 ⟨x, hx, rfl⟩)) (fun h hh => ⟨fun m hm => (sf_zero (hone h hh).1).2 m hm, (hone h hh).2.1⟩) fuzz far k hk
  have HSTEP : Hid (∀ k, lrun fuzz far xs l (k + 1) = stL fuzz far (lrun fuzz far xs l k) (l.getD k (0, 0, []))) := fun k => rfl
  obtain ⟨i0, hi0, hz0, hz1, hz2⟩ := info_parts Tryd.infoHunk
  obtain ⟨j0, hj0, hy0, hy1, hy2⟩ := info_parts Tryd.infoInt
  have HA0 : Hid (ASt w w.heap.size a ca xs) := ⟨ha, hca, fun h0 => .inl fun b off sp e => by
    obtain ⟨b', off', e2, hc⟩ := ha 0 h0
    rw [e] at e2
    simp only [Option.some.injEq, Addr.mk.injEq] at e2
    rw [e2.1]
    exact World.block_lt_of_cell? w _ hc⟩
  obtain ⟨m, hm⟩ : ∃ m, xs.length = m := ⟨_, rfl⟩
  obtain ⟨n, hn⟩ : ∃ n, l.length = n := ⟨_, rfl⟩
  rw [hm] at hx60 hca
  rw [hn] at hl60 HOK
  rw [hm, hn]
  have HM : Hid (xs.length = m) := hm
  have HN : Hid (l.length = n) := hn
  have HL : Hid (Hks w la l) := hl
  have HONE : Hid (∀ x ∈ l, sf x.2.2 = 0 ∧ 0 < chg x.2.2 ∧ 0 ≤ x.1 ∧ x.1 ≤ 60) := hone
  have hfz' : fuzz ≤ 3 := by omega
  have hfr' : far ≤ 60 := by omega
  obtain ⟨B, hB⟩ : ∃ B, w.heap.size = B := ⟨_, rfl⟩
  have HB : Hid (w.heap.size = B) := hB
  rw [hB] at HA0 ⊢
  clear ha hl hgood hone hf1 z1 z2 hm hn hfz hfr hB hca
  go_enter Tryd.func11, Tryd.ntmps11
  go_wp2
  go_loopw [0, 11, 12, 13, 14, 15, 16, 17, 18, 19, 20, 21, 22, 23, 24, 25, 26] (fun x v u e y i _ _ _ _ _ _ _ _ _ _ _ w1 => ∃ k : Nat, k ≤ n ∧ i = .int .i64 k ∧ Below B w w1 ∧ (∃ a' c', x = .slice a' (lrun fuzz far xs l k).A.length c' ∧ ASt w1 B a' c' (lrun fuzz far xs l k).A) ∧ e = .int .i64 (lrun fuzz far xs l k).E ∧ y = .int .i64 (lrun fuzz far xs l k).S ∧ ROwn w w1 B v (lrun fuzz far xs l k).L ∧ w1.ownsRow B 3 1 u (lrun fuzz far xs l k).W.length ((lrun fuzz far xs l k).W.map (Value.int .i64))) (fun _ _ _ _ _ i _ _ _ _ _ _ _ _ _ _ _ _ => n - (intOf i).toNat)
  case atStart => exact ⟨0, Nat.zero_le _, rfl, Below.refl _ _, ⟨a, ca, by rw [show (lrun fuzz far xs l 0).A = xs from rfl, HM.out], HA0.out⟩, rfl, rfl, ROwn.zero _ _ _, World.ownsRow_nil _ _ _ _⟩
  case round =>
    obtain ⟨k, hk, rfl, hbl, ⟨a2, c2, rfl, hA2⟩, rfl, rfl, hown, how⟩ := hrel
    have hzB : B ≤ wr.heap.size := by have := hbl.size; have := HB.out; omega
    have hb' : Below w.heap.size w wr := by rw [HB.out]; exact hbl
    by_cases hlt : k < n
    · have hkl : k < l.length := by rw [HN.out]; exact hlt
      have hl := HL.out
      obtain ⟨b, off, am, cm, rfl, hc1, hc2, hc3, hmk, hcap⟩ := hl k hkl
      clear hl
      have hmk0 := hmk
      obtain ⟨o1, o2, o3, o4⟩ := HONE.out _ (hk_mem hkl)
      have hok := HOK.out k hk
      have HST := HSTEP.out k
      obtain ⟨s, hs⟩ : ∃ s, lrun fuzz far xs l k = s := ⟨_, rfl⟩
      rw [hs] at hok HST hown how hA2 ⊢
      have HSK : Hid (lrun fuzz far xs l k = s) := hs
      obtain ⟨H, hH⟩ : ∃ H, l.getD k (0, 0, []) = H := ⟨_, rfl⟩
      have HHK : Hid (l.getD k (0, 0, []) = H) := hH
      rw [hH] at hc1 hc2 hc3 hmk hmk0 hcap o1 o2 o3 o4 HST
      clear hH hs
      obtain ⟨o, p, ms⟩ := H
      dsimp only at hc1 hc2 hc3 hmk hmk0 hcap o1 o2 o3 o4
      have hml := (sf_zero o1).1
      obtain ⟨c, hcl, hkc⟩ := chg_ex o2
      obtain ⟨bm, om, rfl, _⟩ := hmk.at (show 0 < ms.length by omega)
      obtain ⟨q, hq⟩ : ∃ q, ms.length = q := ⟨_, rfl⟩
      have HQ : Hid (ms.length = q) := hq
      rw [hq] at hc3 hcap hml hcl
      obtain ⟨A, E, S, L, W⟩ := s
      dsimp only at hA2 hown how ⊢
      have HC : Hid (∀ w5, Below B w w5 → w5.cell? ⟨b, off + k * 3, none⟩ = some (.int .i64 o) ∧ w5.cell? ⟨b, off + k * 3 + 1, none⟩ = some (.int .i64 p) ∧ w5.cell? ⟨b, off + k * 3 + 2, none⟩ = some (.slice (some ⟨bm, om, none⟩) q cm)) := fun w5 h => by
        have h5 : Below w.heap.size w w5 := by rw [HB.out]; exact h
        exact ⟨cell_later h5 hc1, cell_later h5 hc2, cell_later h5 hc3⟩
      obtain ⟨g1, g2, g3⟩ := HC.out wr hbl
      have HMK : Hid (Mks w (some ⟨bm, om, none⟩) ms) := hmk0
      have HSF : Hid (sf ms = 0) := o1
      have HCH : Hid (0 < chg ms) := o2
      have HKC : Hid (kp ms c = false) := hkc
      have HST2 : Hid (lrun fuzz far xs l (k + 1) = stL fuzz far ⟨A, E, S, L, W⟩ (o, p, ms)) := HST
      have hA60 : A.length ≤ 60 := hok.len
      have hE0 : 0 ≤ E := hok.e0
      have hE1 : E ≤ A.length := hok.e1
      have hsz : (A.length : Int) = xs.length + S := hok.sz
      rw [HM.out] at hsz
      have hwl : W.length = k := hok.wl
      have hll : L.length ≤ k := hok.ll
      obtain ⟨x, hx⟩ : ∃ x, A.length = x := ⟨_, rfl⟩
      have HX : Hid (A.length = x) := hx
      rw [hx] at hA60 hE1 hsz ⊢
      have HA2 : Hid (ASt wr B a2 c2 A) := hA2
      have HOWN : Hid (ROwn w wr B u11 L) := hown
      have HOW : Hid (wr.ownsRow B 3 1 u12 W.length (W.map (Value.int .i64))) := how
      clear hmk hmk0 o1 o2 hkc HST hok hq hx hA2 hown how hc1 hc2 hc3 hb' hkl HOK HSTEP
      obtain ⟨B1, hB1⟩ : ∃ B1, wr.heap.size = B1 := ⟨_, rfl⟩
      have HB1 : Hid (wr.heap.size = B1) := hB1
      have HBW : Hid (Below B w wr) := hbl
      rw [hB1] at hzB
      have hS1 : -100 ≤ S := by omega
      have hS2 : S ≤ 100 := by omega
      clear hB1 hbl g1 g2
      go_wp2
      clear g3
      go_loopw [0, 13, 14, 17, 18, 19, 20, 21, 22, 23, 24, 25, 26] (fun x e y dn f _ _ _ _ _ _ _ _ w1 => ∃ j : Nat, j ≤ fuzz + 1 ∧ f = .int .i64 j ∧ Below B1 wr w1 ∧ ∃ r : Option (Nat × Int), (r = none → ∀ i, i < j → Mis A E S (o, p, ms) far i) ∧ (r ≠ none → doH A E S (o, p, ms) fuzz far = r) ∧ dn = .int .i64 (rD r) ∧ (∃ a' c', x = .slice a' (rA A S (o, p, ms) r).length c' ∧ ASt w1 B a' c' (rA A S (o, p, ms) r)) ∧ e = .int .i64 (rE E S (o, p, ms) r) ∧ y = .int .i64 (rS S (o, p, ms) r)) (fun _ _ _ _ f _ _ _ _ _ _ _ _ _ => fuzz + 1 - (intOf f).toNat)
      case atStart => exact ⟨0, Nat.zero_le _, rfl, Below.refl _ _, none, fun _ i hi => absurd hi (Nat.not_lt_zero _), fun h => absurd rfl h, rfl, ⟨a2, c2, by rw [show rA A S (o, p, ms) none = A from rfl, HX.out], HA2.out⟩, rfl, rfl⟩
      case round =>
        obtain ⟨j, hj, rfl, hbj, r, hrn, hrs, rfl, ⟨a3, c3, rfl, hA3⟩, rfl, rfl⟩ := hrel
        cases r with
        | none =>
          have HMIS : Hid (∀ i, i < j → Mis A E S (o, p, ms) far i) := hrn rfl
          clear hrn hrs
          dsimp only [rD, rA, rE, rS] at hA3 ⊢
          by_cases hlj : j < fuzz + 1
          · have hlj' : (j : Int) ≤ fuzz := by omega
            have hbw : Below B w wr := HBW.out.trans (hbj.mono hzB)
            have hMj : Mks wr (some ⟨bm, om, none⟩) ms := HMK.out.below (by rw [HB.out]; exact hbw)
            have HMJ : Hid (Mks wr (some ⟨bm, om, none⟩) ms) := hMj
            have HCEL : Hid (∀ i, i < q → ∃ cc, wr.cell? ⟨bm, om + i * 2, none⟩ = some (.int .u8 cc) ∧ kp ms i = (cc == 32)) := fun i hi => by
              obtain ⟨b', off', e, hc, _⟩ := hMj.at (i := i) (by rw [HQ.out]; exact hi)
              simp only [Option.some.injEq, Addr.mk.injEq] at e
              obtain ⟨rfl, rfl, _⟩ := e
              exact ⟨_, hc, rfl⟩
            have hHc := hd_lt HKC.out j
            have hTc := tl_gt (by rw [HQ.out]; exact hcl) HKC.out j
            have hHj := (hd_spec ms j).1
            have hTq := (tl_spec ms j).1
            rw [HQ.out] at hTq
            have HA3 : Hid (ASt wr B a3 c3 A) := hA3
            have HBJ : Hid (Below B1 _ wr) := hbj
            have HBWR : Hid (Below B w wr) := hbw
            clear hMj hA3 hbj hbw
            go_upto_block 4 with fail
            go_cut [19] from 38 to 165 (fun u wx => u = .int .i64 (hd ms j) ∧ wx = wr)
            case first =>
              obtain ⟨wj, hwj⟩ : ∃ wj, wr = wj := ⟨_, rfl⟩
              have HWJ : Hid (wr = wj) := hwj
              go_wp2_with fail
              go_loopw [19] (fun v w1 => w1 = wj ∧ ∃ h : Nat, h ≤ j ∧ v = .int .i64 h ∧ hdF ms (j - h) h = hd ms j ∧ ∀ i, i < h → kp ms i = true) (fun v _ => j - (intOf v).toNat)
              case atStart => exact ⟨hwj, 0, Nat.zero_le _, rfl, rfl, fun i hi => absurd hi (Nat.not_lt_zero _)⟩
              case round =>
                obtain ⟨rfl, h, hhj, rfl, hrest, hall⟩ := hrel
                have hhc : h ≤ c := by
                  by_cases e : h ≤ c
                  · exact e
                  · have := hall c (by omega); rw [HKC.out] at this; cases this
                have HR : Hid (hdF ms (j - h) h = hd ms j) := hrest
                have HALL : Hid (∀ i, i < h → kp ms i = true) := hall
                clear hrest hall
                obtain ⟨cc, hcc, hkk⟩ := HCEL.out h (by omega)
                rw [HWJ.out] at hcc
                have hhq : (h : Int) < q := by omega
                by_cases hl' : h < j
                · by_cases hk : (cc == 32) = true
                  · have HK : Hid (kp ms h = true) := hkk.trans hk
                    clear hkk
                    go_wp2
                    go_roundw
                    case rel =>
                      refine ⟨by trivial, h + 1, by omega, by go_num, ?_, fun i hi => ?_⟩
                      · rw [← HR.out, show j - h = (j - (h + 1)) + 1 by omega, hdF, if_pos HK.out]
                      · by_cases e : i = h
                        · rw [e]; exact HK.out
                        · exact HALL.out i (by omega)
                    case measure => simp [intOf]; omega
                  · have hk : (cc == 32) = false := by simpa using hk
                    have HD : Hid (h = hd ms j) := by
                      show h = hd ms j
                      rw [← HR.out, show j - h = (j - (h + 1)) + 1 by omega, hdF, if_neg (by rw [hkk, hk]; simp)]
                    clear hkk
                    go_wp2
                    go_meet
                    exact ⟨by rw [← HD.out], HWJ.out.symm⟩
                · have HD : Hid (h = hd ms j) := by
                    show h = hd ms j
                    rw [← HR.out, show j - h = 0 by omega, hdF]
                  clear hcc hkk
                  go_wp2
                  go_meet
                  exact ⟨by rw [← HD.out], HWJ.out.symm⟩
            case rest =>
              obtain ⟨rfl, rfl⟩ := hcut
              obtain ⟨hh, hhe⟩ : ∃ hh, hd ms j = hh := ⟨_, rfl⟩
              have HHE : Hid (hd ms j = hh) := hhe
              rw [hhe] at hHc hHj ⊢
              clear hhe
              go_upto_block 6 with fail
              go_cut [20] from 38 to 165 (fun u wx => u = .int .i64 (tl ms j) ∧ wx = wc)
              case first =>
                obtain ⟨wj, hwj⟩ : ∃ wj, wc = wj := ⟨_, rfl⟩
                have HWJ : Hid (wc = wj) := hwj
                go_wp2_with fail
                go_loopw [20] (fun v w1 => w1 = wj ∧ ∃ t : Nat, t ≤ q ∧ q - t ≤ j ∧ v = .int .i64 t ∧ tlF ms (j - (q - t)) t = tl ms j ∧ ∀ i, t ≤ i → i < q → kp ms i = true) (fun v _ => (intOf v).toNat)
                case atStart => exact ⟨hwj, q, Nat.le_refl _, by omega, rfl, by rw [Nat.sub_self, Nat.sub_zero, ← HQ.out]; rfl, fun i h1 h2 => by omega⟩
                case round =>
                  obtain ⟨rfl, t, htq, hqj, rfl, hrest, hall⟩ := hrel
                  have hct : c < t := by
                    by_cases e : c < t
                    · exact e
                    · have := hall c (by omega) hcl; rw [HKC.out] at this; cases this
                  have HR : Hid (tlF ms (j - (q - t)) t = tl ms j) := hrest
                  have HALL : Hid (∀ i, t ≤ i → i < q → kp ms i = true) := hall
                  clear hrest hall
                  obtain ⟨cc, hcc, hkk⟩ := HCEL.out (t - 1) (by omega)
                  rw [HWJ.out] at hcc
                  have hht : (hh : Int) < t := by omega
                  have hpd : ((t - 1 : Nat) : Int) = (t : Int) - 1 := by omega
                  obtain ⟨t1, ht1⟩ : ∃ t1, t - 1 = t1 := ⟨_, rfl⟩
                  obtain rfl : t = t1 + 1 := by omega
                  rw [ht1] at hcc hkk
                  clear ht1 hpd
                  by_cases hl' : (q : Int) - ((t1 + 1 : Nat) : Int) < j
                  · by_cases hk : (cc == 32) = true
                    · have HK : Hid (kp ms t1 = true) := hkk.trans hk
                      clear hkk
                      go_wp2
                      go_roundw
                      case rel =>
                        refine ⟨by trivial, t1, by omega, by omega, by go_num, ?_, fun i h1 h2 => ?_⟩
                        · rw [← HR.out, show j - (q - (t1 + 1)) = (j - (q - t1)) + 1 by omega, tlF, if_neg (by omega), Nat.add_sub_cancel, if_pos HK.out]
                        · by_cases e : i = t1
                          · rw [e]; exact HK.out
                          · exact HALL.out i (by omega) h2
                      case measure => simp [intOf]
                    · have hk : (cc == 32) = false := by simpa using hk
                      have HD : Hid (t1 + 1 = tl ms j) := by
                        show t1 + 1 = tl ms j
                        rw [← HR.out, show j - (q - (t1 + 1)) = (j - (q - t1)) + 1 by omega, tlF, if_neg (by omega), Nat.add_sub_cancel, if_neg (by rw [hkk, hk]; simp)]
                      clear hkk
                      go_wp2
                      go_meet
                      exact ⟨congrArg (Value.int .i64) (by have := HD.out; omega), HWJ.out.symm⟩
                  · have HD : Hid (t1 + 1 = tl ms j) := by
                      show t1 + 1 = tl ms j
                      rw [← HR.out, show j - (q - (t1 + 1)) = 0 by omega, tlF]
                    clear hcc hkk
                    go_wp2
                    go_meet
                    exact ⟨congrArg (Value.int .i64) (by have := HD.out; omega), HWJ.out.symm⟩
              case rest =>
                obtain ⟨rfl, rfl⟩ := hcut
                obtain ⟨tt, hte⟩ : ∃ tt, tl ms j = tt := ⟨_, rfl⟩
                have HPT : Hid ((ms.take tt).drop hh = ptM ms j) := by
                  show (ms.take tt).drop hh = ptM ms j
                  unfold ptM; rw [HHE.out, hte]
                rw [hte] at hTc hTq ⊢
                clear hte
                have hht : hh ≤ tt := by omega
                have hold := oldOf (some ⟨bm, om + hh * 2, none⟩) ((ms.take tt).drop hh) (cm - hh) wc (HMJ.out.part hh tt) (sf_part HSF.out hh tt)
                have HNEW := fun w5 (h : Mks w5 (some ⟨bm, om, none⟩) ms) => newOf (some ⟨bm, om + hh * 2, none⟩) ((ms.take tt).drop hh) (cm - hh) w5 (h.part hh tt) (sf_part HSF.out hh tt)
                rw [List.length_drop, List.length_take, HQ.out, Nat.min_eq_left hTq, HPT.out] at hold HNEW
                have hps := (sf_zero (sf_part HSF.out hh tt)).1
                rw [HPT.out] at hps
                have hlo := lessOf_len 43 (ptM ms j)
                have hln := lessOf_len 45 (ptM ms j)
                have hmore := (ptM_more (fun z hz => ((sf_zero HSF.out).2 z hz).1) HCH.out j).1
                obtain ⟨os, hos⟩ : ∃ os, lessOf 43 (ptM ms j) = os := ⟨_, rfl⟩
                obtain ⟨ns, hns⟩ : ∃ ns, lessOf 45 (ptM ms j) = ns := ⟨_, rfl⟩
                have HOS : Hid (lessOf 43 (ptM ms j) = os) := hos
                have HNS : Hid (lessOf 45 (ptM ms j) = ns) := hns
                rw [hos] at hold hlo hmore
                rw [hns] at HNEW hln hmore
                obtain ⟨m1, hm1⟩ : ∃ m, os.length = m := ⟨_, rfl⟩
                obtain ⟨m2, hm2⟩ : ∃ m, ns.length = m := ⟨_, rfl⟩
                have HM1 : Hid (os.length = m1) := hm1
                have HM2 : Hid (ns.length = m2) := hm2
                rw [hm1] at hold hlo hmore
                rw [hm2] at HNEW hln hmore
                have hm1b : m1 ≤ 120 := by omega
                have hm2b : m2 ≤ 120 := by omega
                have HBIG : Hid (∀ y : Bool, decide ((60 : Int) < (x : Int) + m2 - m1) = y → big A (o, p, ms) = y) := fun y hy => by
                  rw [← hy]
                  show decide ((60 : Int) < A.length + nb ms - ob ms) = _
                  rw [HX.out]
                  congr 1
                  rw [eq_iff_iff]; omega
                have HHNEW : Hid (∀ w5, Mks w5 (some ⟨bm, om, none⟩) ms → Calls Tryd.prog 18 #[.slice (some ⟨bm, om + hh * 2, none⟩) (tt - hh) (cm - hh)] w5 fun e w' => ∃ a' cap, e = .returned (.slice a' m2 cap) ∧ Strs w' a' ns ∧ Below w5.heap.size w5 w') := HNEW
                clear hos hns hm1 hm2 hlo hln hps hmore HNEW
                go_wp2_with (go_at_call 16; refine hold.mono ?_)
                rintro e w5 ⟨a5, c5, rfl, hs5, hb5⟩
                have hnew := HHNEW.out w5 (HMJ.out.below hb5)
                have HS5' : Hid (Strs w5 a5 os) := hs5
                have HB5 : Hid (Below wc.heap.size wc w5) := hb5
                clear hold hs5 hb5 HHNEW
                go_wp2_with (go_at_call 18; refine hnew.mono ?_)
                rintro e w6 ⟨a6, c6, rfl, hs6, hb6⟩
                have HS6 : Hid (Strs w6 a6 ns) := hs6
                have HS5 : Hid (Strs w6 a5 os) := HS5'.out.below hb6
                have hb56 := HB5.out.trans (hb6.mono HB5.out.size)
                have HA6 : Hid (ASt w6 B a3 c3 A) := HA3.out.below hb56
                have hzc : B1 ≤ wc.heap.size := by have := HBJ.out.size; have := HB1.out; omega
                have HB6 : Hid (Below B1 _ w6) := HBJ.out.trans (hb56.mono hzc)
                have HBW6 : Hid (Below B w w6) := HBWR.out.trans (hb56.mono (by omega))
                clear hnew hs6 hb6 hb56 HS5' HB5 HA3 HBJ HBWR HMJ HCEL
                rw [HX.out]
                by_cases hbig : (60 : Int) < (x : Int) + m2 - m1
                · have HBB : Hid (big A (o, p, ms) = true) := HBIG.out true (decide_eq_true hbig)
                  clear HBIG
                  go_wp2
                  go_roundw
                  case rel =>
                    exact ⟨j + 1, by omega, by go_num, HB6.out, none, fun _ i hi => by
                      by_cases e : i = j
                      · rw [e]; exact .inl HBB.out
                      · exact HMIS.out i (by omega), fun h => absurd rfl h, rfl, ⟨a3, c3, by show Value.slice a3 x c3 = Value.slice a3 A.length c3; rw [HX.out], HA6.out⟩, rfl, rfl⟩
                  case measure => simp [intOf]; omega
                · have HBB : Hid (big A (o, p, ms) = false) := HBIG.out false (decide_eq_false hbig)
                  clear HBIG
                  go_wp2
                  obtain ⟨B2, hB2⟩ : ∃ B2, w6.heap.size = B2 := ⟨_, rfl⟩
                  have HB2 : Hid (w6.heap.size = B2) := hB2
                  have hzB2 : B ≤ B2 := by have := HBW6.out.size; have := HB.out; omega
                  have hzB12 : B1 ≤ B2 := by have := HB6.out.size; have := HB1.out; omega
                  clear hB2
                  go_loopw [0, 13, 14, 17, 23, 24, 25, 26] (fun x e y dn d _ _ _ w1 => ∃ t : Nat, t ≤ 2 * far + 1 ∧ d = .int .i64 t ∧ Below B2 w6 w1 ∧ ∃ r : Option Int, (r = none → ∀ i, i < t → pF A E S (o, p, ms) j (ofs i) = false) ∧ (r ≠ none → nrF (pF A E S (o, p, ms) j) (far + 1) 0 = r) ∧ dn = .int .i64 (rD (r.map (Prod.mk j))) ∧ (∃ a' c', x = .slice a' (rA A S (o, p, ms) (r.map (Prod.mk j))).length c' ∧ ASt w1 B a' c' (rA A S (o, p, ms) (r.map (Prod.mk j)))) ∧ e = .int .i64 (rE E S (o, p, ms) (r.map (Prod.mk j))) ∧ y = .int .i64 (rS S (o, p, ms) (r.map (Prod.mk j)))) (fun _ _ _ _ d _ _ _ _ => 2 * far + 1 - (intOf d).toNat)
                  case atStart => exact ⟨0, Nat.zero_le _, rfl, Below.refl _ _, none, fun _ i hi => absurd hi (Nat.not_lt_zero _), fun h => absurd rfl h, rfl, ⟨a3, c3, by rw [show rA A S (o, p, ms) (Option.map (Prod.mk j) none) = A from rfl, HX.out], HA6.out⟩, rfl, rfl⟩
                  case round =>
                    obtain ⟨t, ht, rfl, hbt, r, hrn, hrs, rfl, ⟨a4, c4, rfl, hA4⟩, rfl, rfl⟩ := hrel
                    cases r with
                    | none =>
                      have HPALL : Hid (∀ i, i < t → pF A E S (o, p, ms) j (ofs i) = false) := hrn rfl
                      clear hrn hrs
                      dsimp only [Option.map, rD, rA, rE, rS] at hA4 ⊢
                      rw [HX.out]
                      have HA4 : Hid (ASt wr B a4 c4 A) := hA4
                      have HB2X : Hid (Below B2 w6 wr) := hbt
                      have HB2W : Hid (Below w6.heap.size w6 wr) := by show Below w6.heap.size w6 wr; rw [HB2.out]; exact hbt
                      have hzB3 : B2 ≤ wr.heap.size := by have := hbt.size; have := HB2.out; omega
                      obtain ⟨g1, _, _⟩ := HC.out wr (HBW6.out.trans (hbt.mono hzB2))
                      clear hA4 hbt
                      by_cases hlt3 : t < 2 * far + 1
                      · have hlt3' : (t : Int) ≤ 2 * far := by omega
                        rcases Nat.mod_two_eq_zero_or_one t with hpar | hpar
                        · obtain ⟨U, hU⟩ : ∃ U, t = 2 * U := ⟨t / 2, by omega⟩
                          have hdv : ((t : Int) + 1) / 2 = U := by omega
                          have hmd : (t : Int) % 2 = 0 := by omega
                          have hU6 : U ≤ 60 := by omega
                          have HU : Hid (t = 2 * U) := hU
                          clear hU hpar

                          have hok1 : -(60 : Int) ≤ (U : Int) := by omega
                          have hok2 : (U : Int) ≤ (60 : Int) := by omega
                          have HOF : Hid (ofs t = (U : Int)) := by show ofs t = (U : Int); rw [HU.out]; exact ofs_even U
                          have HPLC : Hid (plc S (o, p, ms) j (ofs t) = o + S + hh + (U : Int)) := by
                            show plc S (o, p, ms) j (ofs t) = o + S + hh + (U : Int)
                            unfold plc; rw [HHE.out, HOF.out]
                          have HPF : Hid (pF A E S (o, p, ms) j (ofs t) = pB A E os (o + S + hh + (U : Int))) := by
                            show pF A E S (o, p, ms) j (ofs t) = _
                            unfold pF; rw [HPLC.out]; show pB A E (lessOf 43 (ptM ms j)) _ = _; rw [HOS.out]
                          by_cases hEa : E ≤ o + S + hh + (U : Int)
                          · obtain ⟨P, hP⟩ := Int.eq_ofNat_of_zero_le (show 0 ≤ o + S + hh + (U : Int) by omega)
                            have hst := refStands a4 a5 A os c4 c5 P wr HA4.out.1 (HS5.out.below HB2W.out) (by rw [HX.out]; omega) (by rw [HM1.out]; omega) (by omega)
                            rw [HX.out, HM1.out] at hst
                            have HPB : Hid (pF A E S (o, p, ms) j (ofs t) = stB A P os) := by
                              show pF A E S (o, p, ms) j (ofs t) = stB A P os
                              rw [HPF.out, pB_stB hE0 hEa, hP]; rfl
                            have HRP : Hid (∀ w8, Below wr.heap.size wr w8 → stB A P os = true → Calls Tryd.prog 17 #[.slice a4 x c4, .int .i64 P, .int .i64 m1, .slice a6 m2 c6] w8 fun e w' => ∃ a' c', e = .returned (.slice a' (rep A P m1 ns).length c') ∧ Strs w' a' (rep A P m1 ns) ∧ Below w8.heap.size w8 w' ∧ (rep A P m1 ns).length ≤ c' ∧ TypS w' a') := fun w8 hb8 hsb => by
                              have h1 := (stB_iff.1 hsb).1
                              have h := refReplT a4 a6 A ns c4 c6 P m1 w8 (HA4.out.1.below hb8) ((HS6.out.below HB2W.out).below hb8) HA4.out.2.1 (by rw [← HM1.out]; exact h1) (by rw [HX.out]; omega) (by rw [HM2.out]; omega)
                              rw [HX.out, HM2.out] at h
                              exact h
                            have HPE : Hid (o + S + hh + (U : Int) = P) := hP
                            rw [← hP] at hst HRP
                            clear hP
                            by_cases hok : stB A P os = true
                            · rw [hok] at hst
                              have HHIT : Hid (nrF (pF A E S (o, p, ms) j) (far + 1) 0 = some (ofs t)) := nr_thit hlt3 HPALL.out (HPB.out.trans hok)
                              have HOKK : Hid (stB A P os = true) := hok
                              clear hok HPB HPF
                              go_wp2_with (go_at_call 15; refine hst.mono ?_)
                              rintro e w8 ⟨rfl, hb8⟩
                              have hrp := HRP.out w8 hb8 HOKK.out
                              have HB8 : Hid (Below wr.heap.size wr w8) := hb8
                              clear hst hb8
                              go_wp2_with (go_at_call 17; refine hrp.mono ?_)
                              rintro e w9 ⟨a9, c9, rfl, hs9, hb9, hc9, ht9⟩
                              have HB9 : Hid (Below B2 _ w9) := HB2X.out.trans ((HB8.out.trans (hb9.mono HB8.out.size)).mono hzB3)
                              have HR9 : Hid (rA A S (o, p, ms) (some (j, ofs t)) = rep A P m1 ns) := by
                                show rep A (plc S (o, p, ms) j (ofs t)).toNat (lessOf 43 (ptM ms j)).length (lessOf 45 (ptM ms j)) = rep A P m1 ns
                                rw [HPLC.out, HPE.out, HOS.out, HNS.out, HM1.out]; rfl
                              have HA9 : Hid (ASt w9 B a9 c9 (rA A S (o, p, ms) (some (j, ofs t)))) := by
                                show ASt w9 B a9 c9 (rA A S (o, p, ms) (some (j, ofs t)))
                                rw [HR9.out]
                                exact ⟨hs9, hc9, fun _ => .inr ht9⟩
                              clear hrp hs9 hb9 hc9 ht9 HRP
                              go_wp2
                              go_roundw
                              case rel =>
                                refine ⟨t + 1, by omega, by go_num, HB9.out, some (ofs t), fun h => (by cases h), fun _ => HHIT.out, ?_, ⟨a9, c9, by show Value.slice a9 (rep A P m1 ns).length c9 = Value.slice a9 (rA A S (o, p, ms) (some (j, ofs t))).length c9; rw [HR9.out], HA9.out⟩, ?_, ?_⟩
                                · show _ = Value.int .i64 (ofs t)
                                  rw [HOF.out]
                                · show _ = Value.int .i64 (plc S (o, p, ms) j (ofs t) + (lessOf 45 (ptM ms j)).length)
                                  rw [HPLC.out, HNS.out, HM2.out]
                                · show _ = Value.int .i64 (S + ((lessOf 45 (ptM ms j)).length - (lessOf 43 (ptM ms j)).length))
                                  rw [HNS.out, HM2.out, HOS.out, HM1.out]; congr 1; omega
                              case measure => simp [intOf]; omega
                            · have hok : stB A P os = false := by simpa using hok
                              rw [hok] at hst HPB
                              clear hok HPF HRP
                              go_wp2_with (go_at_call 15; refine hst.mono ?_)
                              rintro e w8 ⟨rfl, hb8⟩
                              clear hst
                              go_wp2
                              go_roundw
                              case rel =>
                                refine ⟨t + 1, by omega, by go_num, HB2X.out.trans (hb8.mono hzB3), none, fun _ i hi => ?_, fun h => absurd rfl h, rfl, ⟨a4, c4, by show Value.slice a4 x c4 = Value.slice a4 A.length c4; rw [HX.out], HA4.out.below hb8⟩, rfl, rfl⟩
                                by_cases e : i = t
                                · rw [e]; exact HPB.out
                                · exact HPALL.out i (by omega)
                              case measure => simp [intOf]; omega
                          · have hEa' : ¬ (E ≤ o + S + hh + (U : Int)) := hEa
                            have HPB : Hid (pF A E S (o, p, ms) j (ofs t) = false) := HPF.out.trans (pB_out hEa)
                            clear hEa HPF
                            go_wp2
                            go_roundw
                            case rel =>
                              refine ⟨t + 1, by omega, by go_num, HB2X.out, none, fun _ i hi => ?_, fun h => absurd rfl h, rfl, ⟨a4, c4, by show Value.slice a4 x c4 = Value.slice a4 A.length c4; rw [HX.out], HA4.out⟩, rfl, rfl⟩
                              by_cases e : i = t
                              · rw [e]; exact HPB.out
                              · exact HPALL.out i (by omega)
                            case measure => simp [intOf]; omega

                        · obtain ⟨U, hU⟩ : ∃ U, t + 1 = 2 * U := ⟨(t + 1) / 2, by omega⟩
                          have hdv : ((t : Int) + 1) / 2 = U := by omega
                          have hmd : (t : Int) % 2 = 1 := by omega
                          have hU6 : U ≤ 60 := by omega
                          have HU : Hid (t + 1 = 2 * U) := hU
                          clear hU hpar

                          have hok1 : -(60 : Int) ≤ -(U : Int) := by omega
                          have hok2 : -(U : Int) ≤ (60 : Int) := by omega
                          have HOF : Hid (ofs t = -(U : Int)) := by show ofs t = -(U : Int); have hU := HU.out; rw [show t = 2 * (U - 1) + 1 by omega, ofs_odd, show U - 1 + 1 = U by omega]
                          have HPLC : Hid (plc S (o, p, ms) j (ofs t) = o + S + hh + -(U : Int)) := by
                            show plc S (o, p, ms) j (ofs t) = o + S + hh + -(U : Int)
                            unfold plc; rw [HHE.out, HOF.out]
                          have HPF : Hid (pF A E S (o, p, ms) j (ofs t) = pB A E os (o + S + hh + -(U : Int))) := by
                            show pF A E S (o, p, ms) j (ofs t) = _
                            unfold pF; rw [HPLC.out]; show pB A E (lessOf 43 (ptM ms j)) _ = _; rw [HOS.out]
                          by_cases hEa : E ≤ o + S + hh + -(U : Int)
                          · obtain ⟨P, hP⟩ := Int.eq_ofNat_of_zero_le (show 0 ≤ o + S + hh + -(U : Int) by omega)
                            have hst := refStands a4 a5 A os c4 c5 P wr HA4.out.1 (HS5.out.below HB2W.out) (by rw [HX.out]; omega) (by rw [HM1.out]; omega) (by omega)
                            rw [HX.out, HM1.out] at hst
                            have HPB : Hid (pF A E S (o, p, ms) j (ofs t) = stB A P os) := by
                              show pF A E S (o, p, ms) j (ofs t) = stB A P os
                              rw [HPF.out, pB_stB hE0 hEa, hP]; rfl
                            have HRP : Hid (∀ w8, Below wr.heap.size wr w8 → stB A P os = true → Calls Tryd.prog 17 #[.slice a4 x c4, .int .i64 P, .int .i64 m1, .slice a6 m2 c6] w8 fun e w' => ∃ a' c', e = .returned (.slice a' (rep A P m1 ns).length c') ∧ Strs w' a' (rep A P m1 ns) ∧ Below w8.heap.size w8 w' ∧ (rep A P m1 ns).length ≤ c' ∧ TypS w' a') := fun w8 hb8 hsb => by
                              have h1 := (stB_iff.1 hsb).1
                              have h := refReplT a4 a6 A ns c4 c6 P m1 w8 (HA4.out.1.below hb8) ((HS6.out.below HB2W.out).below hb8) HA4.out.2.1 (by rw [← HM1.out]; exact h1) (by rw [HX.out]; omega) (by rw [HM2.out]; omega)
                              rw [HX.out, HM2.out] at h
                              exact h
                            have HPE : Hid (o + S + hh + -(U : Int) = P) := hP
                            rw [← hP] at hst HRP
                            clear hP
                            by_cases hok : stB A P os = true
                            · rw [hok] at hst
                              have HHIT : Hid (nrF (pF A E S (o, p, ms) j) (far + 1) 0 = some (ofs t)) := nr_thit hlt3 HPALL.out (HPB.out.trans hok)
                              have HOKK : Hid (stB A P os = true) := hok
                              clear hok HPB HPF
                              go_wp2_with (go_at_call 15; refine hst.mono ?_)
                              rintro e w8 ⟨rfl, hb8⟩
                              have hrp := HRP.out w8 hb8 HOKK.out
                              have HB8 : Hid (Below wr.heap.size wr w8) := hb8
                              clear hst hb8
                              go_wp2_with (go_at_call 17; refine hrp.mono ?_)
                              rintro e w9 ⟨a9, c9, rfl, hs9, hb9, hc9, ht9⟩
                              have HB9 : Hid (Below B2 _ w9) := HB2X.out.trans ((HB8.out.trans (hb9.mono HB8.out.size)).mono hzB3)
                              have HR9 : Hid (rA A S (o, p, ms) (some (j, ofs t)) = rep A P m1 ns) := by
                                show rep A (plc S (o, p, ms) j (ofs t)).toNat (lessOf 43 (ptM ms j)).length (lessOf 45 (ptM ms j)) = rep A P m1 ns
                                rw [HPLC.out, HPE.out, HOS.out, HNS.out, HM1.out]; rfl
                              have HA9 : Hid (ASt w9 B a9 c9 (rA A S (o, p, ms) (some (j, ofs t)))) := by
                                show ASt w9 B a9 c9 (rA A S (o, p, ms) (some (j, ofs t)))
                                rw [HR9.out]
                                exact ⟨hs9, hc9, fun _ => .inr ht9⟩
                              clear hrp hs9 hb9 hc9 ht9 HRP
                              go_wp2
                              go_roundw
                              case rel =>
                                refine ⟨t + 1, by omega, by go_num, HB9.out, some (ofs t), fun h => (by cases h), fun _ => HHIT.out, ?_, ⟨a9, c9, by show Value.slice a9 (rep A P m1 ns).length c9 = Value.slice a9 (rA A S (o, p, ms) (some (j, ofs t))).length c9; rw [HR9.out], HA9.out⟩, ?_, ?_⟩
                                · show _ = Value.int .i64 (ofs t)
                                  rw [HOF.out]
                                · show _ = Value.int .i64 (plc S (o, p, ms) j (ofs t) + (lessOf 45 (ptM ms j)).length)
                                  rw [HPLC.out, HNS.out, HM2.out]
                                · show _ = Value.int .i64 (S + ((lessOf 45 (ptM ms j)).length - (lessOf 43 (ptM ms j)).length))
                                  rw [HNS.out, HM2.out, HOS.out, HM1.out]; congr 1; omega
                              case measure => simp [intOf]; omega
                            · have hok : stB A P os = false := by simpa using hok
                              rw [hok] at hst HPB
                              clear hok HPF HRP
                              go_wp2_with (go_at_call 15; refine hst.mono ?_)
                              rintro e w8 ⟨rfl, hb8⟩
                              clear hst
                              go_wp2
                              go_roundw
                              case rel =>
                                refine ⟨t + 1, by omega, by go_num, HB2X.out.trans (hb8.mono hzB3), none, fun _ i hi => ?_, fun h => absurd rfl h, rfl, ⟨a4, c4, by show Value.slice a4 x c4 = Value.slice a4 A.length c4; rw [HX.out], HA4.out.below hb8⟩, rfl, rfl⟩
                                by_cases e : i = t
                                · rw [e]; exact HPB.out
                                · exact HPALL.out i (by omega)
                              case measure => simp [intOf]; omega
                          · have hEa' : ¬ (E ≤ o + S + hh + -(U : Int)) := hEa
                            have HPB : Hid (pF A E S (o, p, ms) j (ofs t) = false) := HPF.out.trans (pB_out hEa)
                            clear hEa HPF
                            go_wp2
                            go_roundw
                            case rel =>
                              refine ⟨t + 1, by omega, by go_num, HB2X.out, none, fun _ i hi => ?_, fun h => absurd rfl h, rfl, ⟨a4, c4, by show Value.slice a4 x c4 = Value.slice a4 A.length c4; rw [HX.out], HA4.out⟩, rfl, rfl⟩
                              by_cases e : i = t
                              · rw [e]; exact HPB.out
                              · exact HPALL.out i (by omega)
                            case measure => simp [intOf]; omega

                      · have hlt3' : ¬ ((t : Int) ≤ 2 * far) := by omega
                        have HNONE : Hid (nrF (pF A E S (o, p, ms) j) (far + 1) 0 = none) := nr_tmiss fun i hi => HPALL.out i (by omega)
                        clear g1
                        go_wp2
                        go_roundw
                        case rel =>
                          exact ⟨j + 1, by omega, by go_num, HB6.out.trans (HB2X.out.mono hzB12), none, fun _ i hi => by
                            by_cases e : i = j
                            · rw [e]; exact .inr HNONE.out
                            · exact HMIS.out i (by omega), fun h => absurd rfl h, rfl, ⟨a4, c4, by show Value.slice a4 x c4 = Value.slice a4 A.length c4; rw [HX.out], HA4.out⟩, rfl, rfl⟩
                        case measure => simp [intOf]; omega
                    | some d =>
                      have HHIT : Hid (nrF (pF A E S (o, p, ms) j) (far + 1) 0 = some d) := hrs (by simp)
                      have HDO : Hid (doH A E S (o, p, ms) fuzz far = some (j, d)) := doH_got HBB.out hlj HMIS.out HHIT.out
                      obtain ⟨_, d1, d2⟩ := nr_some HHIT.out
                      have hdn : (d == -1000) = false := by simp; omega
                      clear hrn hrs
                      dsimp only [Option.map] at hA4 ⊢
                      rw [show rD (some (j, d)) = d from rfl]
                      obtain ⟨X, hX⟩ : ∃ X, rA A S (o, p, ms) (some (j, d)) = X := ⟨_, rfl⟩
                      obtain ⟨X1, hX1⟩ : ∃ X1, X.length = X1 := ⟨_, rfl⟩
                      obtain ⟨E9, hE9⟩ : ∃ e, rE E S (o, p, ms) (some (j, d)) = e := ⟨_, rfl⟩
                      obtain ⟨S9, hS9⟩ : ∃ e, rS S (o, p, ms) (some (j, d)) = e := ⟨_, rfl⟩
                      rw [hX] at hA4
                      rw [hX, hX1, hE9, hS9]
                      have HX9 : Hid (rA A S (o, p, ms) (some (j, d)) = X) := hX
                      have HX1 : Hid (X.length = X1) := hX1
                      have HE9 : Hid (rE E S (o, p, ms) (some (j, d)) = E9) := hE9
                      have HS9 : Hid (rS S (o, p, ms) (some (j, d)) = S9) := hS9
                      have HA4 : Hid (ASt wr B a4 c4 X) := hA4
                      have HB2X : Hid (Below B2 w6 wr) := hbt
                      clear hX hX1 hE9 hS9 hA4 hbt d1 d2
                      by_cases hlt3 : (t : Int) ≤ 2 * far
                      · go_wp2
                        go_roundw
                        case rel => exact ⟨j + 1, by omega, by go_num, HB6.out.trans (HB2X.out.mono hzB12), some (j, d), fun h => (by cases h), fun _ => HDO.out, rfl, ⟨a4, c4, by show _ = Value.slice a4 (rA A S (o, p, ms) (some (j, d))).length c4; rw [HX9.out, HX1.out], by show ASt wr B a4 c4 (rA A S (o, p, ms) (some (j, d))); rw [HX9.out]; exact HA4.out⟩, by show _ = Value.int .i64 (rE E S (o, p, ms) (some (j, d))); rw [HE9.out], by show _ = Value.int .i64 (rS S (o, p, ms) (some (j, d))); rw [HS9.out]⟩
                        case measure => simp [intOf]; omega
                      · go_wp2
                        go_roundw
                        case rel => exact ⟨j + 1, by omega, by go_num, HB6.out.trans (HB2X.out.mono hzB12), some (j, d), fun h => (by cases h), fun _ => HDO.out, rfl, ⟨a4, c4, by show _ = Value.slice a4 (rA A S (o, p, ms) (some (j, d))).length c4; rw [HX9.out, HX1.out], by show ASt wr B a4 c4 (rA A S (o, p, ms) (some (j, d))); rw [HX9.out]; exact HA4.out⟩, by show _ = Value.int .i64 (rE E S (o, p, ms) (some (j, d))); rw [HE9.out], by show _ = Value.int .i64 (rS S (o, p, ms) (some (j, d))); rw [HS9.out]⟩
                        case measure => simp [intOf]; omega
          · have hlj' : ¬ ((j : Int) ≤ fuzz) := by omega
            have hbj' := hbj
            rw [← HB1.out] at hbj'
            have hbw : Below B w wr := HBW.out.trans (hbj.mono hzB)
            obtain ⟨g1, g2, g3⟩ := HC.out wr hbw
            have HDO : Hid (doH A E S (o, p, ms) fuzz far = none) := doH_mis fun i hi => HMIS.out i (by omega)
            have hst := HST2.out.trans (stL_r HDO.out)
            have STEP : Hid (lrun fuzz far xs l (k + 1) = ⟨A, E, S, L ++ [(o, p, ms)], W ++ [-1000]⟩) := hst
            have hba := below_alloc wr (.cells #[.int .i64 o, .int .i64 p, .slice (some ⟨bm, om, none⟩) q cm] 48)
            obtain ⟨xsv, hown, hat⟩ := HOWN.out.below hbj'
            have HAT := hat
            have hown6 := own_later hown hba
            have HWA : Hid ((wr.alloc (.cells #[.int .i64 o, .int .i64 p, .slice (some ⟨bm, om, none⟩) q cm] 48)).ownsRow B 3 1 u12 W.length (W.map (Value.int .i64))) := own_later (own_later HOW.out hbj') hba
            have HA6 : Hid (ASt (wr.alloc (.cells #[.int .i64 o, .int .i64 p, .slice (some ⟨bm, om, none⟩) q cm] 48)) B a3 c3 A) := hA3.below hba
            have hzr : B ≤ wr.heap.size := by have := hbw.size; have := HB.out; omega
            have HB6 : Hid (Below B w (wr.alloc (.cells #[.int .i64 o, .int .i64 p, .slice (some ⟨bm, om, none⟩) q cm] 48))) := hbw.trans (hba.mono hzr)
            rw [HX.out]
            clear hbj hbj' hba hst hown hat hA3 hbw HOWN HOW HMIS HDO
            go_wp2_with (at_builtin; refine wpList_append_own_at _ rfl _ _ 23 rfl B 48 i0 (.agg #[.int .i64 0, .int .i64 0, .slice none 0 0]) 3 40 Tryd.underlying23 hi0 hz0 hz1 hz2 rfl (by decide) _ _ _ rfl hown6 ⟨wr.heap.size, 0, none⟩ 1 1 [.int .i64 o, .int .i64 p, .slice (some ⟨bm, om, none⟩) q cm] rfl rfl (cell_three_new _ _ _ _ _) (fun x hx => by simp at hx; rcases hx with rfl | rfl | rfl <;> rfl) (by unfold maxLen; omega) (by omega) (by simp; omega) ?_)
            intro v8 w8 hown8 hgrow8 hnil8 hat8
            have HA8 : Hid (ASt w8 B a3 c3 A) := HA6.out.kept hgrow8 (own_apart hown6 (by decide)) (fun g hg => (hown6.lt g hg).1)
            have HW8 : Hid (w8.ownsRow B 3 1 u12 W.length (W.map (Value.int .i64))) := own_kept HWA.out hgrow8 (own_apart hown6 (by decide))
            have HB8 : Hid (Below B w w8) := HB6.out.grown hgrow8 (by simp; omega) (fun g hg => (hown6.lt g hg).1)
            have HL8 : Hid (ROwn w w8 B v8 (L ++ [(o, p, ms)])) := ROwn.snoc (o := o) (p := p) (ms := ms) hown6.1 HAT (by rw [HQ.out]; exact hown8) HMK.out (by rw [HQ.out]; exact hcap)
            clear hown8 hgrow8 hnil8 hat8 hown6 HAT HWA HA6 HB6 g1 g2 g3
            have hWa := HW8.out.alloc (.cells #[.int .i64 (-1000)] 3)
            have hba9 := below_alloc w8 (.cells #[.int .i64 (-1000)] 3)
            have HAA : Hid (ASt (w8.alloc (.cells #[.int .i64 (-1000)] 3)) B _ _ _) := HA8.out.below hba9
            have HLA : Hid (ROwn w (w8.alloc (.cells #[.int .i64 (-1000)] 3)) B _ _) := HL8.out.below hba9
            have hz9 : B ≤ w8.heap.size := by have := HB8.out.size; have := HB.out; omega
            have HBA : Hid (Below B w (w8.alloc (.cells #[.int .i64 (-1000)] 3))) := HB8.out.trans (hba9.mono hz9)
            clear hba9 HA8 HL8 HW8 HB8
            go_wp2_with (at_builtin; refine wpList_append_own_at _ rfl _ _ 37 rfl B 3 j0 (.int .i64 0) 1 8 Tryd.underlying37 hj0 hy0 hy1 hy2 rfl (by decide) _ _ _ rfl hWa ⟨w8.heap.size, 0, none⟩ 1 1 [.int .i64 (-1000)] rfl rfl (cell_one_new _ _ _) (fun x hx => by simp at hx; subst hx; rfl) (by unfold maxLen; omega) (by omega) (by simp; omega) ?_; intro v9 w9 hown9 hgrow9 hnil9 hat9)
            go_roundw
            case rel =>
              refine ⟨k + 1, by omega, by go_num, ?_, ⟨a3, c3, ?_, ?_⟩, ?_, ?_, ?_, ?_⟩
              · exact HBA.out.grown hgrow9 (by simp; omega) (fun g hg => (hWa.lt g hg).1)
              · rw [STEP.out]; rw [HX.out]
              · rw [STEP.out]; exact HAA.out.kept hgrow9 (own_apart hWa (by decide)) (fun g hg => (hWa.lt g hg).1)
              · rw [STEP.out]
              · rw [STEP.out]
              · rw [STEP.out]; exact HLA.out.kept hgrow9 (own_apart hWa (by decide))
              · rw [STEP.out]
                show w9.ownsRow B 3 1 v9 (W ++ [(-1000)]).length ((W ++ [(-1000)]).map (Value.int .i64))
                rw [List.length_append, List.map_append]; exact hown9
            case measure => simp [intOf]; omega
        | some z =>
          obtain ⟨f, d⟩ := z
          have HDO : Hid (doH A E S (o, p, ms) fuzz far = some (f, d)) := hrs (by simp)
          obtain ⟨_, _, _, d1, d2⟩ := doH_some HDO.out
          have hdn : (d == -1000) = false := by simp; omega
          have hst := HST2.out.trans (stL_r HDO.out)
          rw [show rD (some (f, d)) = d from rfl] at hst ⊢
          rw [show rL L (o, p, ms) (some (f, d)) = L from rfl] at hst
          dsimp only at hst
          obtain ⟨X, hX⟩ : ∃ X, rA A S (o, p, ms) (some (f, d)) = X := ⟨_, rfl⟩
          obtain ⟨X1, hX1⟩ : ∃ X1, X.length = X1 := ⟨_, rfl⟩
          obtain ⟨E9, hE9⟩ : ∃ e, rE E S (o, p, ms) (some (f, d)) = e := ⟨_, rfl⟩
          obtain ⟨S9, hS9⟩ : ∃ e, rS S (o, p, ms) (some (f, d)) = e := ⟨_, rfl⟩
          rw [hX] at hA3
          rw [hX, hE9, hS9] at hst
          rw [hX, hX1, hE9, hS9]
          have STEP : Hid (lrun fuzz far xs l (k + 1) = ⟨X, E9, S9, L, W ++ [d]⟩) := hst
          have HX1 : Hid (X.length = X1) := hX1
          clear hX hX1 hE9 hS9 hst hrn hrs d1 d2
          by_cases hlj : (j : Int) ≤ fuzz
          · have hbj' := hbj
            rw [← HB1.out] at hbj'
            have HB8 : Hid (Below B w wr) := HBW.out.trans (hbj.mono hzB)
            have HL8 : Hid (ROwn w wr B u11 L) := HOWN.out.below hbj'
            have HW8 : Hid (wr.ownsRow B 3 1 u12 W.length (W.map (Value.int .i64))) := own_later HOW.out hbj'
            have HA8 : Hid (ASt wr B a3 c3 X) := hA3
            clear hbj hbj' hA3 HOWN HOW
            have hWa := HW8.out.alloc (.cells #[.int .i64 d] 3)
            have hba9 := below_alloc wr (.cells #[.int .i64 d] 3)
            have HAA : Hid (ASt (wr.alloc (.cells #[.int .i64 d] 3)) B _ _ _) := HA8.out.below hba9
            have HLA : Hid (ROwn w (wr.alloc (.cells #[.int .i64 d] 3)) B _ _) := HL8.out.below hba9
            have hz9 : B ≤ wr.heap.size := by have := HB8.out.size; have := HB.out; omega
            have HBA : Hid (Below B w (wr.alloc (.cells #[.int .i64 d] 3))) := HB8.out.trans (hba9.mono hz9)
            clear hba9 HA8 HL8 HW8 HB8
            go_wp2_with (at_builtin; refine wpList_append_own_at _ rfl _ _ 37 rfl B 3 j0 (.int .i64 0) 1 8 Tryd.underlying37 hj0 hy0 hy1 hy2 rfl (by decide) _ _ _ rfl hWa ⟨wr.heap.size, 0, none⟩ 1 1 [.int .i64 d] rfl rfl (cell_one_new _ _ _) (fun x hx => by simp at hx; subst hx; rfl) (by unfold maxLen; omega) (by omega) (by simp; omega) ?_; intro v9 w9 hown9 hgrow9 hnil9 hat9)
            go_roundw
            case rel =>
              refine ⟨k + 1, by omega, by go_num, ?_, ⟨a3, c3, ?_, ?_⟩, ?_, ?_, ?_, ?_⟩
              · exact HBA.out.grown hgrow9 (by simp; omega) (fun g hg => (hWa.lt g hg).1)
              · rw [STEP.out]; rw [HX1.out]
              · rw [STEP.out]; exact HAA.out.kept hgrow9 (own_apart hWa (by decide)) (fun g hg => (hWa.lt g hg).1)
              · rw [STEP.out]
              · rw [STEP.out]
              · rw [STEP.out]; exact HLA.out.kept hgrow9 (own_apart hWa (by decide))
              · rw [STEP.out]
                show w9.ownsRow B 3 1 v9 (W ++ [d]).length ((W ++ [d]).map (Value.int .i64))
                rw [List.length_append, List.map_append]; exact hown9
            case measure => simp [intOf]; omega
          · have hbj' := hbj
            rw [← HB1.out] at hbj'
            have HB8 : Hid (Below B w wr) := HBW.out.trans (hbj.mono hzB)
            have HL8 : Hid (ROwn w wr B u11 L) := HOWN.out.below hbj'
            have HW8 : Hid (wr.ownsRow B 3 1 u12 W.length (W.map (Value.int .i64))) := own_later HOW.out hbj'
            have HA8 : Hid (ASt wr B a3 c3 X) := hA3
            clear hbj hbj' hA3 HOWN HOW
            have hWa := HW8.out.alloc (.cells #[.int .i64 d] 3)
            have hba9 := below_alloc wr (.cells #[.int .i64 d] 3)
            have HAA : Hid (ASt (wr.alloc (.cells #[.int .i64 d] 3)) B _ _ _) := HA8.out.below hba9
            have HLA : Hid (ROwn w (wr.alloc (.cells #[.int .i64 d] 3)) B _ _) := HL8.out.below hba9
            have hz9 : B ≤ wr.heap.size := by have := HB8.out.size; have := HB.out; omega
            have HBA : Hid (Below B w (wr.alloc (.cells #[.int .i64 d] 3))) := HB8.out.trans (hba9.mono hz9)
            clear hba9 HA8 HL8 HW8 HB8
            go_wp2_with (at_builtin; refine wpList_append_own_at _ rfl _ _ 37 rfl B 3 j0 (.int .i64 0) 1 8 Tryd.underlying37 hj0 hy0 hy1 hy2 rfl (by decide) _ _ _ rfl hWa ⟨wr.heap.size, 0, none⟩ 1 1 [.int .i64 d] rfl rfl (cell_one_new _ _ _) (fun x hx => by simp at hx; subst hx; rfl) (by unfold maxLen; omega) (by omega) (by simp; omega) ?_; intro v9 w9 hown9 hgrow9 hnil9 hat9)
            go_roundw
            case rel =>
              refine ⟨k + 1, by omega, by go_num, ?_, ⟨a3, c3, ?_, ?_⟩, ?_, ?_, ?_, ?_⟩
              · exact HBA.out.grown hgrow9 (by simp; omega) (fun g hg => (hWa.lt g hg).1)
              · rw [STEP.out]; rw [HX1.out]
              · rw [STEP.out]; exact HAA.out.kept hgrow9 (own_apart hWa (by decide)) (fun g hg => (hWa.lt g hg).1)
              · rw [STEP.out]
              · rw [STEP.out]
              · rw [STEP.out]; exact HLA.out.kept hgrow9 (own_apart hWa (by decide))
              · rw [STEP.out]
                show w9.ownsRow B 3 1 v9 (W ++ [d]).length ((W ++ [d]).map (Value.int .i64))
                rw [List.length_append, List.map_append]; exact hown9
            case measure => simp [intOf]; omega
    · obtain rfl : k = n := by omega
      have hlt' : ¬ ((k : Int) < k) := by omega
      obtain ⟨b9, cb9, rfl, hk9⟩ := hown.hks hb'
      obtain ⟨g9, cg9, rfl, hi9⟩ := ints_of_own how
      obtain ⟨s, hs⟩ : ∃ s, lrun fuzz far xs l k = s := ⟨_, rfl⟩
      rw [hs] at hA2 hk9 hi9 ⊢
      have HSK : Hid (lrun fuzz far xs l k = s) := hs
      obtain ⟨x1, hx1⟩ : ∃ x, s.A.length = x := ⟨_, rfl⟩
      obtain ⟨x2, hx2⟩ : ∃ x, s.L.length = x := ⟨_, rfl⟩
      obtain ⟨x3, hx3⟩ : ∃ x, s.W.length = x := ⟨_, rfl⟩
      have HX1 : Hid (s.A.length = x1) := hx1
      have HX2 : Hid (s.L.length = x2) := hx2
      have HX3 : Hid (s.W.length = x3) := hx3
      rw [hx1, hx2, hx3]
      clear hs hx1 hx2 hx3 HOK HSTEP hown how
      go_wp2
      refine bodyPost_ret (v := .tuple #[.slice a2 x1 c2, .slice b9 x2 cb9, .slice g9 x3 cg9]) (by simp [results, Tryd.results11, go_sem]) rfl ⟨a2, c2, b9, cb9, g9, ⟨cg9, ?_⟩, hbl, ?_, ?_, ?_⟩
      · rw [HSK.out, HX1.out, HX2.out, HX3.out]
      · rw [HSK.out]; exact hA2.1
      · rw [HSK.out]; exact hk9
      · rw [HSK.out]; exact hi9

end Go.Proofs.YtkelcjfblekhpabDoor
