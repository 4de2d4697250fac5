/-
  The walk of the law PatchIs: any patch checked, turned, and done to any tree, as the document says.
-/
import Derived.Test.YtmidbhikhbbpbacGreatDoorXn
import Derived.Test.YtmidbhikhbbpbacGreatDoorRap
import Derived.Test.YtmidbhikhbbpbacGreatDoorRefT
import Derived.Test.YtmidbhikhbbpbacGreatDoorXg
import Derived.Deep.RegionWith
namespace Go.Proofs.YtmidbhikhbbpbacGreatDoor
open Go.RowKit Dist

set_option maxRecDepth 100000 in
set_option maxHeartbeats 8000000 in
theorem patchIs_any (a : Option Addr) (t : List Fl) (ca : Nat) (b : Option Addr) (p : List Ch) (cb : Nat) (w : World) (ha : Fls w a t) (hca : t.length ≤ ca) (hm : t.length ≤ maxLen) (hml : ∀ x ∈ t, x.2.length ≤ maxLen) (hts : ∀ x ∈ t, ∀ s ∈ x.2, s.size ≤ maxLen)
    (hb : Chs w b p) (gm : p.length ≤ maxLen) (gml : ∀ c ∈ p, c.2.2.length ≤ maxLen) (gms : ∀ c ∈ p, ∀ h ∈ c.2.2, h.2.2.length ≤ maxLen) (gts : ∀ c ∈ p, ∀ h ∈ c.2.2, ∀ m ∈ h.2.2, m.2.size ≤ maxLen) (htl : TypeLaid w) :
    Calls Tryz.prog 5 #[.slice a t.length ca, .slice b p.length cb] w fun e w' => e = .returned (.bool true) ∧ Below w.heap.size w w' := by
  have hpf := patchFault b p cb w hb gm gml gms gts
  have HPC : Hid (∀ w', Below w.heap.size w w' → Calls Tryz.prog 15 #[.slice b p.length cb] w' fun e w'' => e = .returned (.tuple #[.int .i64 (kf p).1, errV (kf p).2]) ∧ Below w'.heap.size w' w'') := fun w' h => patchCheck b p cb w' (hb.below h) gm gml gms
  have HPT : Hid (∀ w', Below w.heap.size w w' → Calls Tryz.prog 16 #[.slice b p.length cb] w' fun e w'' => ∃ a' c', e = .returned (.tuple #[.slice a' (tOfP p).length c', errV (kf p).2]) ∧ Below w'.heap.size w' w'' ∧ Chs w'' a' (tOfP p) ∧ (tOfP p).length ≤ c') := fun w' h => patchTurn b p cb w' (hb.below h) gm gml gms
  have HER : Hid (∀ w' f, Below w.heap.size w w' → Calls Tryz.prog 9 #[errV f, .int .i64 f] w' fun e w'' => e = .returned (.bool true) ∧ Below w'.heap.size w' w'') := fun w' f h => error_same f w' (htl.below h)
  have HRA : Hid (∀ w', Below w.heap.size w w' → Calls Tryz.prog 18 #[.slice a t.length ca, .slice b p.length cb] w' fun e w'' => ∃ g c, e = .returned (.tuple #[.slice g (apF t p).1.length c, .int .i64 (apF t p).2.1, .int .i64 (apF t p).2.2]) ∧ Fls w'' g (apF t p).1 ∧ Below w'.heap.size w' w'') := fun w' h => applyRef a t ca b p cb w' (ha.below h) hca hm hml hts (hb.below h) gm gml gms gts
  have HPA : Hid (∀ w', Below w.heap.size w w' → Calls Tryz.prog 19 #[.slice a t.length ca, .slice b p.length cb] w' fun e w'' => ∃ a' c', e = .returned (.tuple #[.slice a' (apF t p).1.length c', .int .i64 (apF t p).2.1, errV (apF t p).2.2]) ∧ Below w'.heap.size w' w'' ∧ Fls w'' a' (apF t p).1 ∧ (apF t p).1.length ≤ c') := fun w' h => patchApply a t ca b p cb w' (ha.below h) hca hm hml (hb.below h) gm gml gms
  obtain ⟨s1, s2⟩ := apF_small t p
  have HTS : Hid (∀ w' a' c' a'' c'', Fls w' a' (apF t p).1 → Fls w' a'' (apF t p).1 → Calls Tryz.prog 20 #[.slice a' (apF t p).1.length c', .slice a'' (apF t p).1.length c''] w' fun e w'' => e = .returned (.bool true) ∧ Below w'.heap.size w' w'') := fun w' a' c' a'' c'' h1 h2 => trees_eq a' a'' (apF t p).1 c' c'' w' h1 h2 s1 s2
  have HKX : Hid ((kf p).2 = 0 → (tOfP p).length = p.length ∧ ∀ i, i < p.length → cOne (p.getD i cz) = 0 ∧ (tOfP p).getD i cz = trc (p.getD i cz)) := fun h => by
    have e : tOfP p = trP p := by unfold tOfP; rw [if_pos h]
    rw [e]
    refine ⟨by unfold trP; rw [List.length_map], fun i hi => ⟨(kf_zero h).2.2 _ (mem_getDc hi), by simp [trP, hi]⟩⟩
  have HKN : Hid ((kf p).2 ≠ 0 → tOfP p = []) := fun h => by unfold tOfP; rw [if_neg h]
  have HB : Hid (Chs w b p) := hb
  obtain ⟨np, hnp⟩ : ∃ n, p.length = n := ⟨_, rfl⟩
  obtain ⟨nt, hnt⟩ : ∃ n, t.length = n := ⟨_, rfl⟩
  obtain ⟨k0, hk0⟩ : ∃ k, (kf p).1 = k := ⟨_, rfl⟩
  obtain ⟨f, hff⟩ : ∃ f, (kf p).2 = f := ⟨_, rfl⟩
  obtain ⟨X, hX⟩ : ∃ X, tOfP p = X := ⟨_, rfl⟩
  obtain ⟨R, hR⟩ : ∃ R, apF t p = R := ⟨_, rfl⟩
  rw [hk0, hff, hnp] at hpf
  rw [hk0, hff, hnp] at HPC
  rw [hX, hff, hnp] at HPT
  rw [hR, hnp, hnt] at HRA HPA
  rw [hR] at HTS
  rw [hff, hX, hnp] at HKX
  rw [hff, hX] at HKN
  rw [hnp, hnt]
  have HNP : Hid (p.length = np) := hnp
  unfold maxLen at gm
  rw [hnp] at gm
  clear ha hb hm hml hts gml gms gts htl hca s1 s2 hnp hnt hk0 hff hX hR
  go_enter Tryz.func5, Tryz.ntmps5
  go_wp2_with (go_at_call 14; refine hpf.mono ?_)
  rintro e w1 ⟨rfl, hb1⟩
  have hpc := HPC.out w1 hb1
  have HB1 : Hid (Below w.heap.size w w1) := hb1
  clear hpf HPC hb1
  go_wp2_with (go_at_call 15; refine hpc.mono ?_)
  rintro e w2 ⟨rfl, hb2⟩
  have hb2 := HB1.out.trans (hb2.mono HB1.out.size)
  have her := HER.out w2 f hb2
  have HB2 : Hid (Below w.heap.size w w2) := hb2
  obtain ⟨ev, hev⟩ : ∃ ev, errV f = ev := ⟨_, rfl⟩
  have HEV : Hid (errV f = ev) := hev
  rw [hev] at her HPT
  rw [hev]
  clear hpc hb2 HB1 hev
  go_wp2_with (go_at_call 9; refine her.mono ?_)
  rintro e w3 ⟨rfl, hb3⟩
  have hb3 := HB2.out.trans (hb3.mono HB2.out.size)
  have hpt := HPT.out w3 hb3
  have HB3 : Hid (Below w.heap.size w w3) := hb3
  obtain ⟨nx, hnx⟩ : ∃ n, X.length = n := ⟨_, rfl⟩
  have HNX : Hid (X.length = nx) := hnx
  rw [hnx] at hpt
  clear her hb3 HB2 HPT hnx
  go_wp2_with (go_at_call 16; refine hpt.mono ?_)
  rintro e w4 ⟨ax, cx, rfl, hb4, hx4, hcx⟩
  have hb4 := HB3.out.trans (hb4.mono HB3.out.size)
  have her := HER.out w4 f hb4
  have HB4 : Hid (Below w.heap.size w w4) := hb4
  have HX4 : Hid (Chs w4 ax X) := hx4
  rw [HEV.out] at her
  clear hpt hb4 HB3 hx4 hcx
  go_wp2_with (go_at_call 9; refine her.mono ?_)
  rintro e w5 ⟨rfl, hb5⟩
  have HX5 : Hid (Chs w5 ax X) := HX4.out.below hb5
  have hb5 := HB4.out.trans (hb5.mono HB4.out.size)
  have HB5 : Hid (Below w.heap.size w w5) := hb5
  clear her hb5 HB4 HX4
  obtain ⟨B, hB⟩ : ∃ B, w5.heap.size = B := ⟨_, rfl⟩
  have HSZ : Hid (w5.heap.size = B) := hB
  clear hB
  have HXX : Hid (∀ i, i < nx → i < np ∧ nx = np ∧ cOne (p.getD i cz) = 0 ∧ X.getD i cz = trc (p.getD i cz)) := fun i hi => by
    by_cases h0 : f = 0
    · obtain ⟨h1, h2⟩ := HKX.out h0
      rw [HNX.out] at h1
      exact ⟨by omega, h1, h2 i (by omega)⟩
    · have := HKN.out h0
      have h2 := HNX.out
      rw [this] at h2
      simp at h2
      omega
  have gx : nx ≤ 9223372036854775807 := by
    by_cases h0 : nx = 0
    · omega
    · have := (HXX.out 0 (by omega)).2.1
      omega
  have HBP : Hid (Chs w5 b p) := HB.out.below HB5.out
  by_cases hf0 : f = 0
  · have hnx : nx = np := by have := (HKX.out hf0).1; rw [HNX.out] at this; exact this
    subst hf0
    subst hnx
    clear HKX HKN HEV
    by_cases hn0 : nx = 0
    · subst hn0
      clear HXX
      go_wp2
      go_loopw [11] (fun i w6 => i = .int .i64 0 ∧ Below B w5 w6) (fun _ _ => 0)
      case atStart => exact ⟨rfl, Below.refl _ _⟩
      case round =>
        obtain ⟨rfl, hbl⟩ := hrel
        have hbx : Below w.heap.size w wr := HB5.out.trans (hbl.mono (by have := HSZ.out; have := HB5.out.size; omega))
        have hra := HRA.out wr hbx
        have HB6 : Hid (Below w.heap.size w wr) := hbx
        obtain ⟨nr, hnr⟩ : ∃ n, R.1.length = n := ⟨_, rfl⟩
        obtain ⟨rk, hrk⟩ : ∃ n, R.2.1 = n := ⟨_, rfl⟩
        obtain ⟨rf, hrf⟩ : ∃ n, R.2.2 = n := ⟨_, rfl⟩
        rw [hnr, hrk, hrf] at hra HPA
        rw [hnr] at HTS
        clear hbx HRA hbl hnr hrk hrf
        go_wp2_with (go_at_call 18; refine hra.mono ?_; rintro e w7 ⟨g7, c7, rfl, hf7, hb7⟩)
        have hb7 := HB6.out.trans (hb7.mono HB6.out.size)
        have hpa := HPA.out w7 hb7
        have HF7 : Hid (Fls w7 g7 R.1) := hf7
        have HB7 : Hid (Below w.heap.size w w7) := hb7
        obtain ⟨rv, hrv⟩ : ∃ v, errV rf = v := ⟨_, rfl⟩
        have HRV : Hid (errV rf = rv) := hrv
        rw [hrv] at hpa
        clear hra HPA hf7 hb7 hrv
        go_wp2_with (go_at_call 19; refine hpa.mono ?_; rintro e w8 ⟨g8, c8, rfl, hb8, hf8, hc8⟩)
        have HF78 : Hid (Fls w8 g7 R.1) := HF7.out.below hb8
        have hb8 := HB7.out.trans (hb8.mono HB7.out.size)
        have her := HER.out w8 rf hb8
        have HF8 : Hid (Fls w8 g8 R.1) := hf8
        have HB8 : Hid (Below w.heap.size w w8) := hb8
        rw [HRV.out] at her
        clear hpa hf8 hb8 hc8
        go_wp2_with (go_at_call 9; refine her.mono ?_; rintro e w9 ⟨rfl, hb9⟩)
        have hts := HTS.out w9 g8 c8 g7 c7 (HF8.out.below hb9) (HF78.out.below hb9)
        have hb9 := HB8.out.trans (hb9.mono HB8.out.size)
        have HB9 : Hid (Below w.heap.size w w9) := hb9
        clear her hb9
        go_wp2_with (go_at_call 20; refine hts.mono ?_; rintro e w10 ⟨rfl, hb10⟩)
        have hb10 := HB9.out.trans (hb10.mono HB9.out.size)
        clear hts
        go_wp2
        go_ret
        exact ⟨rfl, hb10⟩
    · have hnb : ((nx : Int) != 0) = true := by simp; omega
      have hnc : ¬ ((nx : Int) = 0) := by omega
      go_wp2
      go_loopw [11] (fun i w6 => ∃ k : Nat, k ≤ nx ∧ i = .int .i64 k ∧ Below B w5 w6) (fun i _ => nx - (intOf i).toNat)
      case atStart => exact ⟨0, Nat.zero_le _, rfl, Below.refl _ _⟩
      case round =>
        obtain ⟨k, hk, rfl, hbl⟩ := hrel
        by_cases hlt : k < nx
        · obtain ⟨_, _, hone, hxg⟩ := HXX.out k hlt
          obtain ⟨o1, o2, o3, _⟩ := cOne_zero hone
          rw [tw_trc o1] at hxg
          have hkp : k < p.length := by rw [HNP.out]; exact hlt
          have hkx : k < X.length := by rw [HNX.out]; exact hlt
          have hb := HBP.out
          have hx := HX5.out
          obtain ⟨b1, of1, rfl⟩ := hb.addr hkp
          obtain ⟨b2, of2, rfl⟩ := hx.addr hkx
          obtain ⟨ah1, ch1, p0, p1, p2, ph, _⟩ := hb.at hkp
          obtain ⟨ah2, ch2, x0, x1, x2, xh, _⟩ := hx.at hkx
          rw [hxg] at x0 x1 x2 xh
          have hb' : Below w5.heap.size w5 wr := by rw [HSZ.out]; exact hbl
          obtain ⟨wh, hwh⟩ : ∃ x, (p.getD k cz).1 = x := ⟨_, rfl⟩
          obtain ⟨q, hq⟩ : ∃ x, (p.getD k cz).2.1 = x := ⟨_, rfl⟩
          obtain ⟨hs, hhs⟩ : ∃ x, (p.getD k cz).2.2 = x := ⟨_, rfl⟩
          rw [hwh] at p0 x0 o1
          rw [hq] at p1 x1
          rw [hhs] at p2 x2 ph xh o3
          have KP : Hid (∀ w6, Below wr.heap.size wr w6 → w6.cell? ⟨b1, of1 + k * 3, none⟩ = some (.int .i64 wh) ∧ w6.cell? ⟨b1, of1 + k * 3 + 1, none⟩ = some (.string q) ∧ w6.cell? ⟨b1, of1 + k * 3 + 2, none⟩ = some (.slice ah1 hs.length ch1) ∧ Hks w6 ah1 hs ∧ w6.cell? ⟨b2, of2 + k * 3, none⟩ = some (.int .i64 (tw wh)) ∧ w6.cell? ⟨b2, of2 + k * 3 + 1, none⟩ = some (.string q) ∧ w6.cell? ⟨b2, of2 + k * 3 + 2, none⟩ = some (.slice ah2 (trn hs).length ch2) ∧ Hks w6 ah2 (trn hs) ∧ Below B w5 w6) := fun w6 h => by
            have h2 := hb'.trans (h.mono hb'.size)
            exact ⟨cell_later h2 p0, cell_later h2 p1, cell_later h2 p2, ph.below h2, cell_later h2 x0, cell_later h2 x1, cell_later h2 x2, xh.below h2, by rw [← HSZ.out]; exact h2⟩
          obtain ⟨m1, m2⟩ := trn_small o3
          have hdr : Below wr.heap.size wr wr.drew := ⟨rfl, rfl, rfl, Nat.le_refl _, fun _ _ => rfl⟩
          have htn : (trn hs).length = hs.length := by simp [trn]
          have HTU : Hid (∀ w6, Hks w6 ah1 hs → Calls Tryz.prog 17 #[.slice ah1 hs.length ch1] w6 fun e w' => ∃ a' c', e = .returned (.slice a' (trn hs).length c') ∧ Below w6.heap.size w6 w' ∧ Hks w' a' (trn hs)) := fun w6 h => (refTurn ah1 hs ch1 w6 h o3).mono fun e w' ⟨v, he, hb, ho⟩ => by
            obtain ⟨a', c', rfl, hk, _⟩ := ho.room
            exact ⟨a', c', he, hb, hk⟩
          have HHU : Hid (∀ w6 a' c', Hks w6 ah2 (trn hs) → Hks w6 a' (trn hs) → Calls Tryz.prog 12 #[.slice ah2 (trn hs).length ch2, .slice a' (trn hs).length c'] w6 fun e w' => e = .returned (.bool true) ∧ Below w6.heap.size w6 w') := fun w6 a' c' h1 h2 => hunks_eq ah2 a' (trn hs) ch2 c' w6 h1 h2 (by unfold maxLen; omega) (fun x hx => by have := m2 x hx; unfold maxLen; omega)
          rw [htn] at KP HTU HHU
          obtain ⟨nh, hnh⟩ : ∃ x, hs.length = x := ⟨_, rfl⟩
          rw [hnh] at KP HTU HHU
          obtain ⟨y0, _, y2, _, z0, _, z2, _, _⟩ := KP.out _ (Below.refl _ _)
          clear ph xh hb hx p0 p1 p2 x0 x1 x2 hwh hq hhs htn hnh m1 m2 o2 o3 hone hxg hb' hkp hkx HRA HPA HTS HER hbl
          obtain ⟨wt, hwt⟩ : ∃ x, tw wh = x := ⟨_, rfl⟩
          rw [hwt] at KP z0
          by_cases h1 : wh = 1
          case' pos =>
            obtain rfl : wt = 1 := by rw [← hwt, h1]; rfl
            subst h1
            clear hwt
            go_wp2
          case' neg =>
            obtain rfl : wt = 5 - wh := by
              rw [← hwt]
              unfold tw
              by_cases h2 : wh = 2
              · rw [if_pos h2]; omega
              · rw [if_neg h2, if_pos (by omega)]; omega
            have hb1 : (wh != 1) = true := by simp [h1]
            have hsub : IntKind.i64.wrap (5 - wh) = 5 - wh := by rw [IntKind.wrap_i64]; omega
            clear hwt h1
            go_wp2
          all_goals
            have hbp : Below wr.heap.size wr wr.drew := hdr
            clear y0
            go_region_with (first
              | (go_at_call 17; refine (HTU.out _ ?_).mono ?_; exact (KP.out _ hbp).2.2.2.1; rintro e w6 ⟨a6, c6, rfl, hb6, hk6⟩; replace hbp := hbp.trans (hb6.mono hbp.size); obtain ⟨_, _, y2, _, _, _, z2, _, _⟩ := KP.out _ hbp)
              | (go_at_call 12; refine (HHU.out _ _ _ ?_ ?_).mono ?_; exact (KP.out _ hbp).2.2.2.2.2.2.2.1; exact hk6; rintro e w7 ⟨rfl, hb7⟩; replace hbp := hbp.trans (hb7.mono hbp.size)))
            all_goals
              obtain ⟨q0, q1, _, _, r0, r1, _, _, hbq⟩ := KP.out _ hbp
              clear y2 z2 z0 hk6 hb6 hb7 hbp KP HTU HHU hdr
              go_wp2
              go_quiet (fail)
              go_wp2
              go_roundw
              case rel => exact ⟨k + 1, by omega, by go_num, below_drawn hbq⟩
              case measure => simp [intOf]; omega
        · have hbx : Below w.heap.size w wr := HB5.out.trans (hbl.mono (by have := HSZ.out; have := HB5.out.size; omega))
          have hra := HRA.out wr hbx
          have HB6 : Hid (Below w.heap.size w wr) := hbx
          obtain ⟨nr, hnr⟩ : ∃ n, R.1.length = n := ⟨_, rfl⟩
          obtain ⟨rk, hrk⟩ : ∃ n, R.2.1 = n := ⟨_, rfl⟩
          obtain ⟨rf, hrf⟩ : ∃ n, R.2.2 = n := ⟨_, rfl⟩
          rw [hnr, hrk, hrf] at hra HPA
          rw [hnr] at HTS
          clear hbx HRA hbl hnr hrk hrf
          go_wp2_with (go_at_call 18; refine hra.mono ?_; rintro e w7 ⟨g7, c7, rfl, hf7, hb7⟩)
          have hb7 := HB6.out.trans (hb7.mono HB6.out.size)
          have hpa := HPA.out w7 hb7
          have HF7 : Hid (Fls w7 g7 R.1) := hf7
          have HB7 : Hid (Below w.heap.size w w7) := hb7
          obtain ⟨rv, hrv⟩ : ∃ v, errV rf = v := ⟨_, rfl⟩
          have HRV : Hid (errV rf = rv) := hrv
          rw [hrv] at hpa
          clear hra HPA hf7 hb7 hrv
          go_wp2_with (go_at_call 19; refine hpa.mono ?_; rintro e w8 ⟨g8, c8, rfl, hb8, hf8, hc8⟩)
          have HF78 : Hid (Fls w8 g7 R.1) := HF7.out.below hb8
          have hb8 := HB7.out.trans (hb8.mono HB7.out.size)
          have her := HER.out w8 rf hb8
          have HF8 : Hid (Fls w8 g8 R.1) := hf8
          have HB8 : Hid (Below w.heap.size w w8) := hb8
          rw [HRV.out] at her
          clear hpa hf8 hb8 hc8
          go_wp2_with (go_at_call 9; refine her.mono ?_; rintro e w9 ⟨rfl, hb9⟩)
          have hts := HTS.out w9 g8 c8 g7 c7 (HF8.out.below hb9) (HF78.out.below hb9)
          have hb9 := HB8.out.trans (hb9.mono HB8.out.size)
          have HB9 : Hid (Below w.heap.size w w9) := hb9
          clear her hb9
          go_wp2_with (go_at_call 20; refine hts.mono ?_; rintro e w10 ⟨rfl, hb10⟩)
          have hb10 := HB9.out.trans (hb10.mono HB9.out.size)
          clear hts
          go_wp2
          go_ret
          exact ⟨rfl, hb10⟩
  · have hnx : nx = 0 := by
      have := HKN.out hf0
      have h2 := HNX.out
      rw [this] at h2
      simp at h2
      omega
    subst hnx
    have hfb : (f != 0) = true := by simp [hf0]
    have hfc : (f == 0) = false := by simp [hf0]
    clear HKX HKN HEV HXX
    go_wp2
    go_loopw [11] (fun i w6 => i = .int .i64 0 ∧ Below B w5 w6) (fun _ _ => 0)
    case atStart => exact ⟨rfl, Below.refl _ _⟩
    case round =>
      obtain ⟨rfl, hbl⟩ := hrel
      have hbx : Below w.heap.size w wr := HB5.out.trans (hbl.mono (by have := HSZ.out; have := HB5.out.size; omega))
      have hra := HRA.out wr hbx
      have HB6 : Hid (Below w.heap.size w wr) := hbx
      obtain ⟨nr, hnr⟩ : ∃ n, R.1.length = n := ⟨_, rfl⟩
      obtain ⟨rk, hrk⟩ : ∃ n, R.2.1 = n := ⟨_, rfl⟩
      obtain ⟨rf, hrf⟩ : ∃ n, R.2.2 = n := ⟨_, rfl⟩
      rw [hnr, hrk, hrf] at hra HPA
      rw [hnr] at HTS
      clear hbx HRA hbl hnr hrk hrf
      go_wp2_with (go_at_call 18; refine hra.mono ?_; rintro e w7 ⟨g7, c7, rfl, hf7, hb7⟩)
      have hb7 := HB6.out.trans (hb7.mono HB6.out.size)
      have hpa := HPA.out w7 hb7
      have HF7 : Hid (Fls w7 g7 R.1) := hf7
      have HB7 : Hid (Below w.heap.size w w7) := hb7
      obtain ⟨rv, hrv⟩ : ∃ v, errV rf = v := ⟨_, rfl⟩
      have HRV : Hid (errV rf = rv) := hrv
      rw [hrv] at hpa
      clear hra HPA hf7 hb7 hrv
      go_wp2_with (go_at_call 19; refine hpa.mono ?_; rintro e w8 ⟨g8, c8, rfl, hb8, hf8, hc8⟩)
      have HF78 : Hid (Fls w8 g7 R.1) := HF7.out.below hb8
      have hb8 := HB7.out.trans (hb8.mono HB7.out.size)
      have her := HER.out w8 rf hb8
      have HF8 : Hid (Fls w8 g8 R.1) := hf8
      have HB8 : Hid (Below w.heap.size w w8) := hb8
      rw [HRV.out] at her
      clear hpa hf8 hb8 hc8
      go_wp2_with (go_at_call 9; refine her.mono ?_; rintro e w9 ⟨rfl, hb9⟩)
      have hts := HTS.out w9 g8 c8 g7 c7 (HF8.out.below hb9) (HF78.out.below hb9)
      have hb9 := HB8.out.trans (hb9.mono HB8.out.size)
      have HB9 : Hid (Below w.heap.size w w9) := hb9
      clear her hb9
      go_wp2_with (go_at_call 20; refine hts.mono ?_; rintro e w10 ⟨rfl, hb10⟩)
      have hb10 := HB9.out.trans (hb10.mono HB9.out.size)
      clear hts
      go_wp2
      go_ret
      exact ⟨rfl, hb10⟩

end Go.Proofs.YtmidbhikhbbpbacGreatDoor
