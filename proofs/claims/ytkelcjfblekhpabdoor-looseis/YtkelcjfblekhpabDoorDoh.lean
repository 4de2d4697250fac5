/-
  Walk of apply.file's do: a hunk done as near as may be, and how far from where it is wanted.
-/
import Derived.Test.YtkelcjfblekhpabDoorRepl

namespace Go.Proofs.YtkelcjfblekhpabDoor
open Go.RowKit Dist

theorem trF_skip {A : List ByteArray} {E S : Int} {h : Hk} {far M : Nat} (k : Nat) (hk : k ≤ M) (hn : ∀ f, f < k → nrF (pF A E S h f) (far + 1) 0 = none) : trF A E S h far M 0 = trF A E S h far (M - k) k := by
  induction k with
  | zero => rfl
  | succ k ih => rw [ih (by omega) fun f hf => hn f (by omega), show M - k = (M - (k + 1)) + 1 by omega, trF_next (hn k (by omega))]

theorem doH_big {A : List ByteArray} {E S : Int} {h : Hk} {fuzz far : Nat} (hb : big A h = true) : doH A E S h fuzz far = none := by unfold doH; rw [if_pos hb]
theorem doH_hit {A : List ByteArray} {E S : Int} {h : Hk} {fuzz far k : Nat} {d : Int} (hb : big A h = false) (hk : k < fuzz + 1) (hn : ∀ f, f < k → nrF (pF A E S h f) (far + 1) 0 = none) (hd' : nrF (pF A E S h k) (far + 1) 0 = some d) : doH A E S h fuzz far = some (k, d) := by
  unfold doH
  rw [if_neg (by rw [hb]; simp), trF_skip k (by omega) hn, show fuzz + 1 - k = (fuzz - k) + 1 by omega, trF_hit hd']
theorem doH_miss {A : List ByteArray} {E S : Int} {h : Hk} {fuzz far : Nat} (hb : big A h = false) (hn : ∀ f, f < fuzz + 1 → nrF (pF A E S h f) (far + 1) 0 = none) : doH A E S h fuzz far = none := by
  unfold doH
  rw [if_neg (by rw [hb]; simp), trF_skip (fuzz + 1) (Nat.le_refl _) hn, Nat.sub_self, trF]

set_option maxRecDepth 100000 in
set_option maxHeartbeats 4000000 in
theorem doS (F : Nat) (A : List ByteArray) (E S o p : Int) (bm om : Nat) (ms : List (Int × ByteArray)) (cm fuzz far : Nat) (w : World) (hF : Fil w F A E S) (hm : Mks w (some ⟨bm, om, none⟩) ms) (hcap : ms.length ≤ cm) (hsf : sf ms = 0) (hch : 0 < chg ms) (ho1 : 0 ≤ o) (ho2 : o ≤ 60) (hfz : fuzz ≤ 3) (hfar : far ≤ 60) (hA : A.length ≤ 60) (hE : 0 ≤ E) (hE2 : E ≤ A.length) (hS1 : -100 ≤ S) (hS2 : S ≤ 100) :
    Calls Tryd.prog 30 #[.pointer (some ⟨F, 0, none⟩), .agg #[.int .i64 o, .int .i64 p, .slice (some ⟨bm, om, none⟩) ms.length cm], .int .i64 fuzz, .int .i64 far] w fun e w' => w.grownBy w' (some F) ∧
      ((doH A E S (o, p, ms) fuzz far = none ∧ e = .returned (.tuple #[.int .i64 0, .bool false]) ∧ Fil w' F A E S) ∨
       (∃ (f : Nat) (d : Int), doH A E S (o, p, ms) fuzz far = some (f, d) ∧ e = .returned (.tuple #[.int .i64 d, .bool true]) ∧ Fil w' F (rep A (plc S (o, p, ms) f d).toNat (lessOf 43 (ptM ms f)).length (lessOf 45 (ptM ms f))) (plc S (o, p, ms) f d + (lessOf 45 (ptM ms f)).length) (S + ((lessOf 45 (ptM ms f)).length - (lessOf 43 (ptM ms f)).length)))) := by
  have hml := (sf_zero hsf).1
  have hol := ob_le ms
  have hnl := nb_le ms
  have hb0 := below_alloc w (.cells #[.int .i64 o, .int .i64 p, .slice (some ⟨bm, om, none⟩) ms.length cm] 48)
  have hsz := sizeOf o p (some ⟨bm, om, none⟩) ms cm _ (hm.below hb0) (by unfold maxLen; omega)
  have HFL : Hid (F < w.heap.size) := hF.lt
  have HF : Hid (Fil w F A E S) := hF
  have HM : Hid (Mks w (some ⟨bm, om, none⟩) ms) := hm
  have HTR := fun k w (h : Mks w (some ⟨bm, om, none⟩) ms) (hk : k ≤ 1000) => trimOf bm om ms cm k w h hsf hcap hch hk
  have HSUB : Hid (∀ k, sf (ptM ms k) = 0) := fun k => sf_part hsf _ _
  have HHD : Hid (∀ k, hd ms k ≤ k) := fun k => (hd_spec ms k).1
  have HBIG : Hid (∀ x : Bool, decide ((60 : Int) < A.length + nb ms - ob ms) = x → big A (o, p, ms) = x) := fun x hx => hx
  obtain ⟨q, hq⟩ : ∃ q, ms.length = q := ⟨_, rfl⟩
  rw [hq] at hb0 hsz HTR hml hol hnl ⊢
  obtain ⟨k1, hk1⟩ : ∃ k, ob ms = k := ⟨_, rfl⟩
  obtain ⟨k2, hk2⟩ : ∃ k, nb ms = k := ⟨_, rfl⟩
  rw [hk1] at hsz HBIG hol
  rw [hk2] at hsz HBIG hnl
  obtain ⟨r, hr⟩ : ∃ r, doH A E S (o, p, ms) fuzz far = r := ⟨_, rfl⟩
  have HR : Hid (doH A E S (o, p, ms) fuzz far = r) := hr
  rw [hr]
  obtain ⟨a, c, hF1, hF2, hF3, _⟩ := hF
  have kF1 := blk_below hb0 HFL.out hF1
  have kH1 := heap_alloc_new w (.cells #[.int .i64 o, .int .i64 p, .slice (some ⟨bm, om, none⟩) q cm] 48)
  obtain ⟨B, hB⟩ : ∃ B, w.heap.size = B := ⟨_, rfl⟩
  have HB : Hid (w.heap.size = B) := hB
  rw [hB] at kH1
  obtain ⟨m, hm'⟩ : ∃ m, A.length = m := ⟨_, rfl⟩
  rw [hm'] at kF1 HBIG hA hE2
  have HMA : Hid (A.length = m) := hm'
  have KF1 : Hid ((w.alloc (.cells #[.int .i64 o, .int .i64 p, .slice (some ⟨bm, om, none⟩) q cm] 48)).heap[F]? = some (.cells #[.slice a m c, .int .i64 E, .int .i64 S] 68)) := kF1
  have KH1 : Hid ((w.alloc (.cells #[.int .i64 o, .int .i64 p, .slice (some ⟨bm, om, none⟩) q cm] 48)).heap[B]? = some (.cells #[.int .i64 o, .int .i64 p, .slice (some ⟨bm, om, none⟩) q cm] 48)) := kH1
  have hz1 : (w.alloc (.cells #[.int .i64 o, .int .i64 p, .slice (some ⟨bm, om, none⟩) q cm] 48)).heap.size = B + 1 := by simp [hB]
  have HZ1 : Hid ((w.alloc (.cells #[.int .i64 o, .int .i64 p, .slice (some ⟨bm, om, none⟩) q cm] 48)).heap.size = B + 1) := hz1
  have HB0 : Hid (Below w.heap.size w (w.alloc (.cells #[.int .i64 o, .int .i64 p, .slice (some ⟨bm, om, none⟩) q cm] 48))) := hb0
  clear hF1 hF2 hF3 hm hsf hch hcap hq hk1 hk2 hr hb0 kF1 kH1 hm' hz1 hB
  go_enter Tryd.func30, Tryd.ntmps30
  go_wp2_with (go_at_call 35; refine hsz.mono ?_)
  rintro e w0 ⟨rfl, hb0⟩
  have kF0 := blk_below hb0 (by rw [HZ1.out]; have := HFL.out; have := HB.out; omega) KF1.out
  have kH0 := blk_below hb0 (by rw [HZ1.out]; omega) KH1.out
  have hbw0 := HB0.out.trans (hb0.mono HB0.out.size)
  have hz0 : B + 1 ≤ w0.heap.size := by have := hb0.size; rw [HZ1.out] at this; exact this
  rw [HB.out] at hbw0 ⊢
  have f0 : w0.cell? ⟨F, 0, none⟩ = some (.slice a m c) := by rw [Lib.cell_of_heap kF0]; rfl
  have HBW0 : Hid (Below B w w0) := hbw0
  have KF0 : Hid (w0.heap[F]? = some (.cells #[.slice a m c, .int .i64 E, .int .i64 S] 68)) := kF0
  have KH0 : Hid (w0.heap[B]? = some (.cells #[.int .i64 o, .int .i64 p, .slice (some ⟨bm, om, none⟩) q cm] 48)) := kH0
  have hFB : F < B := by have := HFL.out; have := HB.out; omega
  clear hsz hb0 KF1 KH1 HZ1 HB0 hbw0 kF0 kH0
  by_cases hbig : (60 : Int) < (m : Int) + k2 - k1
  · have HBB : Hid (big A (o, p, ms) = true) := HBIG.out true (decide_eq_true hbig)
    clear HBIG HTR
    go_wp2
    go_ret2
    refine ⟨grown_below (by rw [HB.out]; exact HBW0.out), .inl ⟨?_, rfl, HF.out.below (by rw [HB.out]; exact HBW0.out)⟩⟩
    rw [← HR.out]; exact doH_big HBB.out
  · have HBB : Hid (big A (o, p, ms) = false) := HBIG.out false (decide_eq_false hbig)
    clear HBIG
    go_wp2
    have hF0 : Fil w0 F A E S := HF.out.below (by rw [HB.out]; exact HBW0.out)
    have hM0 : Mks w0 (some ⟨bm, om, none⟩) ms := HM.out.below (by rw [HB.out]; exact HBW0.out)
    have HF0 : Hid (Fil w0 F A E S) := hF0
    have HM0 : Hid (Mks w0 (some ⟨bm, om, none⟩) ms) := hM0
    obtain ⟨B0, hB0⟩ : ∃ B0, w0.heap.size = B0 := ⟨_, rfl⟩
    have HB0 : Hid (w0.heap.size = B0) := hB0
    rw [hB0] at hz0
    clear hF0 hM0 hB0 HF HM f0
    go_loopw [12, 13, 14, 15, 16, 34] (fun _ _ _ _ _ i w1 => ∃ k : Nat, k ≤ fuzz + 1 ∧ i = .int .i64 k ∧ Below B0 w0 w1 ∧ ∀ f : Nat, f < k → nrF (pF A E S (o, p, ms) f) (far + 1) 0 = none) (fun _ _ _ _ _ i _ => fuzz + 1 - (intOf i).toNat)
    case atStart => exact ⟨0, Nat.zero_le _, rfl, Below.refl _ _, fun n hn => absurd hn (Nat.not_lt_zero _)⟩
    case round =>
      obtain ⟨k, hk, rfl, hbl, hall⟩ := hrel
      have HALL : Hid (∀ f : Nat, f < k → nrF (pF A E S (o, p, ms) f) (far + 1) 0 = none) := hall
      clear hall
      have hb' : Below w0.heap.size w0 wr := by rw [HB0.out]; exact hbl
      have hzr : B0 ≤ wr.heap.size := by have := hbl.size; have := HB0.out; omega
      by_cases hlt : k < fuzz + 1
      · have hlt' : (k : Int) < (fuzz : Int) + 1 := by omega
        have kHr := blk_below hb' (by rw [HB0.out]; omega) KH0.out
        have h2 : wr.cell? ⟨B, 2, none⟩ = some (.slice (some ⟨bm, om, none⟩) q cm) := by rw [Lib.cell_of_heap kHr]; rfl
        have htr := HTR k wr (HM0.out.below hb') (by omega)
        have hhd := HHD.out k
        have hps := (sf_zero (HSUB.out k)).1
        have hlo := lessOf_len 43 (ptM ms k)
        have hln := lessOf_len 45 (ptM ms k)
        have HNR : Hid (nrF (pF A E S (o, p, ms) k) (far + 1) 0 = nrF (fun d => pB A E (lessOf 43 (ptM ms k)) (o + S + hd ms k + d)) (far + 1) 0) := rfl
        obtain ⟨os, hos⟩ : ∃ os, lessOf 43 (ptM ms k) = os := ⟨_, rfl⟩
        obtain ⟨ns, hns⟩ : ∃ ns, lessOf 45 (ptM ms k) = ns := ⟨_, rfl⟩
        have HOS : Hid (lessOf 43 (ptM ms k) = os) := hos
        have HNS : Hid (lessOf 45 (ptM ms k) = ns) := hns
        rw [hos] at htr hlo HNR
        rw [hns] at htr hln
        obtain ⟨m1, hm1⟩ : ∃ m, os.length = m := ⟨_, rfl⟩
        obtain ⟨m2, hm2⟩ : ∃ m, ns.length = m := ⟨_, rfl⟩
        obtain ⟨hh, hhe⟩ : ∃ hh, hd ms k = hh := ⟨_, rfl⟩
        have HM1 : Hid (os.length = m1) := hm1
        have HM2 : Hid (ns.length = m2) := hm2
        have HHE : Hid (hd ms k = hh) := hhe
        rw [hm1] at htr hlo
        rw [hm2] at htr hln
        rw [hhe] at htr hhd HNR
        have hm1b : m1 ≤ 120 := by omega
        have hm2b : m2 ≤ 120 := by omega
        clear hos hns hm1 hm2 hhe hlo hln hps kHr HTR
        go_wp2_with (go_at_call 21; refine htr.mono ?_)
        rintro e w2 ⟨a1, c1, a2, c2, rfl, hs1, hs2, hb2⟩
        have hb02 : Below B0 w0 w2 := hbl.trans (hb2.mono hzr)
        have hb02' : Below w0.heap.size w0 w2 := by rw [HB0.out]; exact hb02
        have kH2 := blk_below hb02' (by rw [HB0.out]; omega) KH0.out
        have kF2 := blk_below hb02' (by rw [HB0.out]; omega) KF0.out
        have hbv := below_alloc w2 (.cells #[.int .i64 hh, .slice a1 m1 c1, .slice a2 m2 c2] 55)
        have kV3 := heap_alloc_new w2 (.cells #[.int .i64 hh, .slice a1 m1 c1, .slice a2 m2 c2] 55)
        have hz2 : B0 ≤ w2.heap.size := by have := hb02.size; have := HB0.out; omega
        have kH3 := blk_below hbv (by omega) kH2
        have kF3 := blk_below hbv (by omega) kF2
        have hb03 := hb02.trans (hbv.mono hz2)
        have hs13 := hs1.below hbv
        have hs23 := hs2.below hbv
        obtain ⟨V, hV⟩ : ∃ V, w2.heap.size = V := ⟨_, rfl⟩
        have HV : Hid (w2.heap.size = V) := hV
        rw [hV] at kV3 hz2
        have hzW3 : (w2.alloc (.cells #[.int .i64 hh, .slice a1 m1 c1, .slice a2 m2 c2] 55)).heap.size = V + 1 := by simp [hV]
        clear htr hb2 hb02 hb02' kH2 kF2 hs1 hs2 hbv hV hbl hb' h2
        go_wp2
        rw [HV.out]
        generalize w2.alloc (.cells #[.int .i64 hh, .slice a1 m1 c1, .slice a2 m2 c2] 55) = W3 at kV3 kH3 kF3 hb03 hs13 hs23 hzW3 ⊢
        have x0 : W3.cell? ⟨B, 0, none⟩ = some (.int .i64 o) := by rw [Lib.cell_of_heap kH3]; rfl
        have x2 : W3.cell? ⟨F, 2, none⟩ = some (.int .i64 S) := by rw [Lib.cell_of_heap kF3]; rfl
        have v0 : W3.cell? ⟨V, 0, none⟩ = some (.int .i64 hh) := by rw [Lib.cell_of_heap kV3]; rfl
        have v1 : W3.cell? ⟨V, 1, none⟩ = some (.slice a1 m1 c1) := by rw [Lib.cell_of_heap kV3]; rfl
        have v2 : W3.cell? ⟨V, 2, none⟩ = some (.slice a2 m2 c2) := by rw [Lib.cell_of_heap kV3]; rfl
        have HB3 : Hid (Below B0 w0 W3) := hb03
        have KV3 : Hid (W3.heap[V]? = some (.cells #[.int .i64 hh, .slice a1 m1 c1, .slice a2 m2 c2] 55)) := kV3
        have HS1 : Hid (Strs W3 a1 os) := hs13
        have HS2 : Hid (Strs W3 a2 ns) := hs23
        have HZ3 : Hid (W3.heap.size = V + 1) := hzW3
        have hwr1 : IntKind.i64.wrap (o + S) = o + S := by rw [IntKind.wrap_i64]; omega
        have hwr2 : IntKind.i64.wrap (o + S + hh) = o + S + hh := by rw [IntKind.wrap_i64]; omega
        clear kV3 kH3 kF3 hb03 hs13 hs23 hzW3
        go_quiet (fail)
        have hdr : Below W3.heap.size W3 (W3.drewN nq) := below_drawn (Below.refl _ _)
        have hs14 := HS1.out.below hdr
        have HS24 : Hid (Strs (W3.drewN nq) a2 ns) := HS2.out.below hdr
        have KV4 : Hid ((W3.drewN nq).heap[V]? = some (.cells #[.int .i64 hh, .slice a1 m1 c1, .slice a2 m2 c2] 55)) := KV3.out
        have HB4 : Hid (Below B0 w0 (W3.drewN nq)) := below_drawn HB3.out
        have hF4 : Fil (W3.drewN nq) F A E S := HF0.out.below (by rw [HB0.out]; exact HB4.out)
        have HZ4 : Hid ((W3.drewN nq).heap.size = V + 1) := HZ3.out
        have v14 : (W3.drewN nq).cell? ⟨V, 1, none⟩ = some (.slice a1 m1 c1) := v1
        clear hdr HS1 HS2 KV3 HB3 HZ3 x0 x2 v0 v1 v2 hwr1 hwr2
        generalize W3.drewN nq = W4 at hs14 HS24 KV4 HB4 hF4 HZ4 v14 ⊢
        obtain ⟨r1, hr1⟩ : ∃ r1, nrF (fun d => pB A E os (o + S + hh + d)) (far + 1) 0 = r1 := ⟨_, rfl⟩
        have hnr := nearS F A E S a1 os c1 (o + S + hh) far W4 hF4 hs14 hE (by omega) (by rw [HMA.out]; exact hA) (by rw [HM1.out]; exact hm1b) hfar (by omega) (by omega) r1 hr1
        rw [HM1.out] at hnr
        have HR1 : Hid (nrF (pF A E S (o, p, ms) k) (far + 1) 0 = r1) := HNR.out.trans hr1
        have HPB : Hid (∀ d, r1 = some d → pB A E os (o + S + hh + d) = true ∧ -(far : Int) ≤ d ∧ d ≤ far) := fun d hd => by
          rw [hd] at hr1
          obtain ⟨g1, g2, g3⟩ := nr_some hr1
          exact ⟨g1, by omega, by omega⟩
        clear hr1 HNR hF4 hs14
        cases r1 with
        | none =>
          rw [show nrD none = 0 from rfl, show nrB none = false from rfl] at hnr
          go_wp2_with (go_at_call 43; refine hnr.mono ?_; rintro e w5 ⟨rfl, hb5⟩)
          go_roundw
          case rel =>
            refine ⟨k + 1, by omega, by go_num, HB4.out.trans (hb5.mono (by have := HZ4.out; omega)), fun f hf => ?_⟩
            by_cases e : f = k
            · rw [e]; exact HR1.out
            · exact HALL.out f (by omega)
          case measure => simp [intOf]; omega
        | some d =>
          rw [show nrD (some d) = d from rfl, show nrB (some d) = true from rfl] at hnr
          obtain ⟨g1, g2, g3⟩ := HPB.out d rfl
          obtain ⟨p1, p2, p3⟩ := pB_iff.1 g1
          rw [HM1.out, HMA.out] at p2
          obtain ⟨pl, hpl⟩ := Int.eq_ofNat_of_zero_le (show 0 ≤ o + S + hh + d by omega)
          have HPL : Hid (o + S + hh + d = pl) := hpl
          have hplm : pl + m1 ≤ m := by omega
          clear hpl p1 p2 p3 g1
          go_wp2_with (go_at_call 43; refine hnr.mono ?_)
          rintro e w5 ⟨rfl, hb5⟩
          have kV5 := blk_below hb5 (by rw [HZ4.out]; omega) KV4.out
          have hbw5 := HB4.out.trans (hb5.mono (by have := HZ4.out; omega))
          have hF5 : Fil w5 F A E S := HF0.out.below (by rw [HB0.out]; exact hbw5)
          have y0 : w5.cell? ⟨V, 0, none⟩ = some (.int .i64 hh) := by rw [Lib.cell_of_heap kV5]; rfl
          have y1 : w5.cell? ⟨V, 1, none⟩ = some (.slice a1 m1 c1) := by rw [Lib.cell_of_heap kV5]; rfl
          have y2 : w5.cell? ⟨V, 2, none⟩ = some (.slice a2 m2 c2) := by rw [Lib.cell_of_heap kV5]; rfl
          have hrp := replS F A E S hh a1 a2 m1 ns c1 c2 pl w5 hF5 (HS24.out.below hb5) (by rw [HMA.out]; exact hplm) (by rw [HMA.out]; exact hA) (by rw [HM2.out]; exact hm2b) (by omega) (by omega)
          rw [HM2.out, ← HPL.out] at hrp
          have HGW : Hid (w.grownBy w5 (some F)) := grown_below (by rw [HB.out]; exact HBW0.out.trans (hbw5.mono (by omega)))
          clear hnr kV5 hbw5 hF5 hb5 v14 HPB
          go_wp2_with (go_at_call 44; refine hrp.mono ?_; rintro e w6 ⟨⟨v6, rfl⟩, hF6, hg6⟩)
          go_ret2
          refine ⟨HGW.out.trans hg6, .inr ⟨k, d, ?_, rfl, ?_⟩⟩
          · rw [← HR.out]; exact doH_hit HBB.out hlt HALL.out HR1.out
          · have e1 : plc S (o, p, ms) k d = o + S + hh + d := by unfold plc; rw [HHE.out]
            rw [e1, HOS.out, HNS.out, HM1.out, HM2.out]
            have e2 : (o + S + hh + d).toNat = pl := by rw [HPL.out]; rfl
            rw [e2]
            exact hF6
      · have hlt' : ¬ (k : Int) < (fuzz : Int) + 1 := by omega
        clear HTR
        go_wp2
        go_ret2
        have hbw : Below w.heap.size w wr := by rw [HB.out]; exact HBW0.out.trans (hbl.mono (by omega))
        refine ⟨grown_below hbw, .inl ⟨?_, rfl, HF0.out.below hb'⟩⟩
        rw [← HR.out]; exact doH_miss HBB.out fun f hf => HALL.out f (by omega)

end Go.Proofs.YtkelcjfblekhpabDoor
