/-
  The walk of the law AlgebraIs: any two patches of any tree: both as one, from the one to the other; any patch in pieces, as the document says.
-/
import Derived.Test.YtnkdmgekpajfhadGreatDoorXv
import Derived.Test.YtnkdmgekpajfhadGreatDoorAsp
import Derived.Test.YtnkdmgekpajfhadGreatDoorRbh
import Derived.Test.YtnkdmgekpajfhadGreatDoorRsp
import Derived.Test.YtnkdmgekpajfhadGreatDoorXbg
import Derived.Test.YtnkdmgekpajfhadGreatDoorXbh

namespace Go.Proofs.YtnkdmgekpajfhadGreatDoor
open Go.RowKit Dist

theorem bhF_zero {t : List Fl} {p q : List Ch} {ap : Bool} {n : Int} (h : bhF t p q ap n = 0) : dbF t p q ap = 0 ∧ 0 ≤ n ∧ n ≤ 1000 := by
  rw [bhF_db] at h
  by_cases e : dbF t p q ap = 0
  · rw [if_neg (fun x => x e)] at h
    by_cases e2 : n < 0 ∨ 1000 < n
    · rw [if_pos e2] at h; exact absurd h (by decide)
    · exact ⟨e, by omega, by omega⟩
  · rw [if_pos e] at h; exact absurd h e

theorem jnL_bad {t : List Fl} {p q : List Ch} {ap : Bool} {n : Int} (h : bhF t p q ap n ≠ 0) : jnL t p q ap n = [] := by unfold jnL; rw [if_neg h]

theorem kf_maxS {p : List Ch} (h : (kf p).2 = 0) : p.length ≤ maxLen ∧ (∀ c ∈ p, c.2.2.length ≤ maxLen) ∧ ∀ c ∈ p, ∀ h ∈ c.2.2, h.2.2.length ≤ maxLen := by
  obtain ⟨k1, _, k3⟩ := kf_zero h
  refine ⟨by unfold maxLen; omega, fun c hc => ?_, fun c hc x hx => ?_⟩
  · have := (hf_good (cOne_zero (k3 c hc)).2.2.1).2.1
    unfold maxLen; omega
  · have := (sf_zero ((hf_good (cOne_zero (k3 c hc)).2.2.1).2.2 x hx).1).1
    unfold maxLen; omega

set_option maxRecDepth 100000 in
set_option maxHeartbeats 4000000 in
theorem algIs_a (aa : Option Addr) (t : List Fl) (ca : Nat) (ab : Option Addr) (p : List Ch) (cb : Nat) (ad : Option Addr) (q : List Ch) (cd : Nat) (n : Int) (w : World) (ha : Fls w aa t) (hca : t.length ≤ ca) (hm : t.length ≤ maxLen) (hml : ∀ x ∈ t, x.2.length ≤ maxLen) (hts : ∀ x ∈ t, ∀ s ∈ x.2, s.size ≤ maxLen) (hb : Chs w ab p) (gm : p.length ≤ maxLen) (gml : ∀ c ∈ p, c.2.2.length ≤ maxLen) (gms : ∀ c ∈ p, ∀ h ∈ c.2.2, h.2.2.length ≤ maxLen) (gts : ∀ c ∈ p, ∀ h ∈ c.2.2, ∀ m ∈ h.2.2, m.2.size ≤ maxLen) (hd : Chs w ad q) (km : q.length ≤ maxLen) (kml : ∀ c ∈ q, c.2.2.length ≤ maxLen) (kms : ∀ c ∈ q, ∀ h ∈ c.2.2, h.2.2.length ≤ maxLen) (kts : ∀ c ∈ q, ∀ h ∈ c.2.2, ∀ m ∈ h.2.2, m.2.size ≤ maxLen) (htl : TypeLaid w) (z1 : bhF t p q false n = 0) (z2 : bhF t p q true n = 0) :
    Calls Tryz.prog 5 #[.slice aa t.length ca, .slice ab p.length cb, .slice ad q.length cd, .int .i64 n] w fun e w' => e = .returned (.bool true) ∧ Below w.heap.size w w' := by
  obtain ⟨_, hn0, hn1⟩ := bhF_zero z1
  obtain ⟨N, rfl⟩ := Int.eq_ofNat_of_zero_le hn0
  have hN : N ≤ 1000 := by omega
  obtain ⟨db1, _, _⟩ := bhF_zero z1
  obtain ⟨da1, dc1⟩ := db_parts db1
  have ok1 := bh_ok z1
  have tX1 := apF_tree da1
  have tY1 := apF_tree dc1
  have t01 := (apF_zero da1).1
  have L1 : jnL t p q false (N : Int) = dfP t (apF (bhT t p false) q).1 N := by unfold jnL; rw [if_pos z1, if_neg (by decide)]; rfl
  have kf1 := kf_dfP t01 tY1 hN
  obtain ⟨p11, p21, p31⟩ := kf_maxS (p := dfP t (apF (bhT t p false) q).1 N) (by rw [kf1])
  have HB1 : Hid (∀ w', Below w.heap.size w w' → Calls Tryz.prog 13 #[.slice aa t.length ca, .slice ab p.length cb, .slice ad q.length cd, .bool false, .int .i64 (N : Int)] w' fun e w'' => ∃ g c g2 c2, e = .returned (.tuple #[.slice g (bhB t p q false (N : Int)).length c, .slice g2 (bhC t p q false (N : Int)).length c2, .int .i64 (bhF t p q false (N : Int))]) ∧ Fls w'' g (bhB t p q false (N : Int)) ∧ (bhB t p q false (N : Int)).length ≤ c ∧ Fls w'' g2 (bhC t p q false (N : Int)) ∧ (bhC t p q false (N : Int)).length ≤ c2 ∧ Below w'.heap.size w' w'') := fun w' h => behindRef aa t ca ab p cb ad q cd false (N : Int) w' (ha.below h) hca hm hml hts (hb.below h) gm gml gms gts (hd.below h) km kml kms kts
  have HJ1 : Hid (∀ w', Below w.heap.size w w' → Calls Tryz.prog 15 #[.slice aa t.length ca, .slice ab p.length cb, .slice ad q.length cd, .int .i64 (N : Int)] w' fun e w'' => ∃ x c ev, e = .returned (.tuple #[.slice x (jnL t p q false (N : Int)).length c, ev]) ∧ Chs w'' x (jnL t p q false (N : Int)) ∧ (jnL t p q false (N : Int)).length ≤ c ∧ Erd w'' ev (bhF t p q false (N : Int)) ∧ Below w'.heap.size w' w'') := fun w' h => joinOfA aa t ca ab p cb ad q cd (N : Int) w' (ha.below h) hca hm hml (hb.below h) gm gml gms (hd.below h) km kml kms
  have HE1 : Hid (∀ w' v, Below w.heap.size w w' → Erd w' v (bhF t p q false (N : Int)) → Calls Tryz.prog 9 #[v, .int .i64 (bhF t p q false (N : Int))] w' fun e w'' => e = .returned (.bool true) ∧ Below w'.heap.size w' w'') := fun w' v h he => erd_told v _ w' he (htl.below h)
  rw [L1] at HJ1
  rw [ok1.1, ok1.2, z1] at HB1
  rw [z1] at HJ1 HE1
  have HD1 : Hid (∀ w' g c, Below w.heap.size w w' → Fls w' g (apF (bhT t p false) q).1 → Calls Tryz.prog 14 #[.slice aa t.length ca, .slice g (apF (bhT t p false) q).1.length c, .int .i64 N] w' fun e w'' => ∃ x y, e = .returned (.slice x (dfP t (apF (bhT t p false) q).1 N).length y) ∧ Below w'.heap.size w' w'' ∧ Chs w'' x (dfP t (apF (bhT t p false) q).1 N)) := fun w' g c h hg => refDiff aa g t _ ca c N w' (ha.below h) hg hca t01 tY1 hN
  have HP1 : Hid (∀ w' x y x' y', Chs w' x (dfP t (apF (bhT t p false) q).1 N) → Chs w' x' (dfP t (apF (bhT t p false) q).1 N) → Calls Tryz.prog 12 #[.slice x (dfP t (apF (bhT t p false) q).1 N).length y, .slice x' (dfP t (apF (bhT t p false) q).1 N).length y'] w' fun e w'' => e = .returned (.bool true) ∧ Below w'.heap.size w' w'') := fun w' x y x' y' h1 h2 => patches_eq x x' _ y y' w' h1 h2 p11 p21 p31
  obtain ⟨P1, hP1⟩ : ∃ x, dfP t (apF (bhT t p false) q).1 N = x := ⟨_, rfl⟩
  rw [hP1] at HJ1 HD1 HP1
  obtain ⟨nP1, hnP1⟩ : ∃ x, P1.length = x := ⟨_, rfl⟩
  rw [hnP1] at HJ1 HD1 HP1
  obtain ⟨Y1, hY1⟩ : ∃ x, (apF (bhT t p false) q).1 = x := ⟨_, rfl⟩
  rw [hY1] at HB1 HD1
  obtain ⟨nY1, hnY1⟩ : ∃ x, Y1.length = x := ⟨_, rfl⟩
  rw [hnY1] at HB1 HD1
  obtain ⟨X1, hX1⟩ : ∃ x, (apF t p).1 = x := ⟨_, rfl⟩
  rw [hX1] at HB1
  obtain ⟨nX1, hnX1⟩ : ∃ x, X1.length = x := ⟨_, rfl⟩
  rw [hnX1] at HB1
  obtain ⟨db2, _, _⟩ := bhF_zero z2
  obtain ⟨da2, dc2⟩ := db_parts db2
  have ok2 := bh_ok z2
  have tX2 := apF_tree da2
  have tY2 := apF_tree dc2
  have t02 := (apF_zero da2).1
  have L2 : jnL t p q true (N : Int) = dfP (apF t p).1 (apF (bhT t p true) q).1 N := by unfold jnL; rw [if_pos z2, if_pos rfl]; rfl
  have kf2 := kf_dfP tX2 tY2 hN
  obtain ⟨p12, p22, p32⟩ := kf_maxS (p := dfP (apF t p).1 (apF (bhT t p true) q).1 N) (by rw [kf2])
  have HB2 : Hid (∀ w', Below w.heap.size w w' → Calls Tryz.prog 13 #[.slice aa t.length ca, .slice ab p.length cb, .slice ad q.length cd, .bool true, .int .i64 (N : Int)] w' fun e w'' => ∃ g c g2 c2, e = .returned (.tuple #[.slice g (bhB t p q true (N : Int)).length c, .slice g2 (bhC t p q true (N : Int)).length c2, .int .i64 (bhF t p q true (N : Int))]) ∧ Fls w'' g (bhB t p q true (N : Int)) ∧ (bhB t p q true (N : Int)).length ≤ c ∧ Fls w'' g2 (bhC t p q true (N : Int)) ∧ (bhC t p q true (N : Int)).length ≤ c2 ∧ Below w'.heap.size w' w'') := fun w' h => behindRef aa t ca ab p cb ad q cd true (N : Int) w' (ha.below h) hca hm hml hts (hb.below h) gm gml gms gts (hd.below h) km kml kms kts
  have HJ2 : Hid (∀ w', Below w.heap.size w w' → Calls Tryz.prog 16 #[.slice aa t.length ca, .slice ab p.length cb, .slice ad q.length cd, .int .i64 (N : Int)] w' fun e w'' => ∃ x c ev, e = .returned (.tuple #[.slice x (jnL t p q true (N : Int)).length c, ev]) ∧ Chs w'' x (jnL t p q true (N : Int)) ∧ (jnL t p q true (N : Int)).length ≤ c ∧ Erd w'' ev (bhF t p q true (N : Int)) ∧ Below w'.heap.size w' w'') := fun w' h => interOfA aa t ca ab p cb ad q cd (N : Int) w' (ha.below h) hca hm hml (hb.below h) gm gml gms (hd.below h) km kml kms
  have HE2 : Hid (∀ w' v, Below w.heap.size w w' → Erd w' v (bhF t p q true (N : Int)) → Calls Tryz.prog 9 #[v, .int .i64 (bhF t p q true (N : Int))] w' fun e w'' => e = .returned (.bool true) ∧ Below w'.heap.size w' w'') := fun w' v h he => erd_told v _ w' he (htl.below h)
  rw [L2] at HJ2
  rw [ok2.1, ok2.2, z2] at HB2
  rw [z2] at HJ2 HE2
  have HD2 : Hid (∀ w' g' c' g c, Fls w' g' (apF t p).1 → (apF t p).1.length ≤ c' → Fls w' g (apF (bhT t p true) q).1 → Calls Tryz.prog 14 #[.slice g' (apF t p).1.length c', .slice g (apF (bhT t p true) q).1.length c, .int .i64 N] w' fun e w'' => ∃ x y, e = .returned (.slice x (dfP (apF t p).1 (apF (bhT t p true) q).1 N).length y) ∧ Below w'.heap.size w' w'' ∧ Chs w'' x (dfP (apF t p).1 (apF (bhT t p true) q).1 N)) := fun w' g' c' g c hg' hc' hg => refDiff g' g _ _ c' c N w' hg' hg hc' tX2 tY2 hN
  have HP2 : Hid (∀ w' x y x' y', Chs w' x (dfP (apF t p).1 (apF (bhT t p true) q).1 N) → Chs w' x' (dfP (apF t p).1 (apF (bhT t p true) q).1 N) → Calls Tryz.prog 12 #[.slice x (dfP (apF t p).1 (apF (bhT t p true) q).1 N).length y, .slice x' (dfP (apF t p).1 (apF (bhT t p true) q).1 N).length y'] w' fun e w'' => e = .returned (.bool true) ∧ Below w'.heap.size w' w'') := fun w' x y x' y' h1 h2 => patches_eq x x' _ y y' w' h1 h2 p12 p22 p32
  obtain ⟨P2, hP2⟩ : ∃ x, dfP (apF t p).1 (apF (bhT t p true) q).1 N = x := ⟨_, rfl⟩
  rw [hP2] at HJ2 HD2 HP2
  obtain ⟨nP2, hnP2⟩ : ∃ x, P2.length = x := ⟨_, rfl⟩
  rw [hnP2] at HJ2 HD2 HP2
  obtain ⟨Y2, hY2⟩ : ∃ x, (apF (bhT t p true) q).1 = x := ⟨_, rfl⟩
  rw [hY2] at HB2 HD2
  obtain ⟨nY2, hnY2⟩ : ∃ x, Y2.length = x := ⟨_, rfl⟩
  rw [hnY2] at HB2 HD2
  obtain ⟨X2, hX2⟩ : ∃ x, (apF t p).1 = x := ⟨_, rfl⟩
  rw [hX2] at HB2 HD2
  obtain ⟨nX2, hnX2⟩ : ∃ x, X2.length = x := ⟨_, rfl⟩
  rw [hnX2] at HB2 HD2
  have HSO : Hid (∀ w', Below w.heap.size w w' → Calls Tryz.prog 17 #[.slice ab p.length cb] w' fun e w'' => (∃ x c, e = .returned (.tuple #[.slice x (spO p).length c, .int .i64 (spE p)]) ∧ Srs w'' x (spO p) ∧ (spO p).length ≤ c) ∧ Below w'.heap.size w' w'') := fun w' h => splitRef ab p cb w' (hb.below h) gm gml gms gts
  have HSP : Hid (∀ w', Below w.heap.size w w' → Calls Tryz.prog 18 #[.slice ab p.length cb] w' fun e w'' => (∃ x c, e = .returned (.tuple #[.slice x (spO p).length c, errV (spE p)]) ∧ Srs w'' x (spO p) ∧ (spO p).length ≤ c) ∧ Below w'.heap.size w' w'') := fun w' h => splitOfA ab p cb w' (hb.below h) gm gml gms
  have HE3 : Hid (∀ w', Below w.heap.size w w' → Calls Tryz.prog 9 #[errV (spE p), .int .i64 (spE p)] w' fun e w'' => e = .returned (.bool true) ∧ Below w'.heap.size w' w'') := fun w' h => (errV_told _ _ w' (htl.below h)).mono fun e w'' ⟨he, hb⟩ => ⟨by rw [he]; simp, hb⟩
  obtain ⟨sm1, sm2⟩ := spO_small p
  have HS3 : Hid (∀ w' x y x' y', Srs w' x (spO p) → Srs w' x' (spO p) → Calls Tryz.prog 19 #[.slice x (spO p).length y, .slice x' (spO p).length y'] w' fun e w'' => e = .returned (.bool true) ∧ Below w'.heap.size w' w'') := fun w' x y x' y' h1 h2 => series_eq x x' (spO p) y y' w' h1 h2 (by unfold maxLen; omega) (fun r hr => by have := (sm2 r hr).1; unfold maxLen; omega) (fun r hr c hc => by have := ((sm2 r hr).2 c hc).1; unfold maxLen; omega) (fun r hr c hc h hh => by have := ((sm2 r hr).2 c hc).2 h hh; unfold maxLen; omega)
  obtain ⟨O, hO⟩ : ∃ x, spO p = x := ⟨_, rfl⟩
  obtain ⟨nO, hnO⟩ : ∃ x, (spO p).length = x := ⟨_, rfl⟩
  obtain ⟨E3, hE3⟩ : ∃ x, spE p = x := ⟨_, rfl⟩
  obtain ⟨V3, hV3⟩ : ∃ x, errV E3 = x := ⟨_, rfl⟩
  rw [hnO, hO, hE3] at HSO
  rw [hnO, hO, hE3, hV3] at HSP
  rw [hE3, hV3] at HE3
  rw [hnO, hO] at HS3
  obtain ⟨nt, hnt⟩ : ∃ x, t.length = x := ⟨_, rfl⟩
  obtain ⟨np, hnp⟩ : ∃ x, p.length = x := ⟨_, rfl⟩
  obtain ⟨nq, hnq⟩ : ∃ x, q.length = x := ⟨_, rfl⟩
  rw [hnt, hnp, hnq] at HB1 HJ1 HB2 HJ2
  rw [hnt] at HD1
  rw [hnp] at HSO HSP
  rw [hnt, hnp, hnq]
  clear ha hca hm hml hts hb gm gml gms gts hd km kml kms kts htl sm1 sm2 hO hnO hE3 hV3 hnt hnp hnq z1 db1 da1 dc1 ok1 tX1 tY1 t01 L1 kf1 p11 p21 p31 hP1 hnP1 hY1 hnY1 hX1 hnX1 z2 db2 da2 dc2 ok2 tX2 tY2 t02 L2 kf2 p12 p22 p32 hP2 hnP2 hY2 hnY2 hX2 hnX2 hn0 hn1 hN
  have BW0 : Hid (Below w.heap.size w w) := Below.refl _ _
  go_enter Tryz.func5, Tryz.ntmps5
  have hb0a := HB1.out w (Below.refl _ _)
  clear HB1
  go_wp2_with (go_at_call 13; refine hb0a.mono ?_)
  first | rintro e w1 g1 c1 g'1 c'1 rfl f1 l1 f2 l2 hb | rintro e w1 ⟨g1, c1, g'1, c'1, rfl, f1, l1, f2, l2, hb⟩
  have BW1 : Hid (Below w.heap.size w w1) := BW0.out.trans (hb.mono BW0.out.size)
  have hdd := HD1.out w1 g'1 c'1 BW1.out f2
  clear hb0a hb f1 l1 f2 l2 HD1
  go_wp2_with (go_at_call 14; refine hdd.mono ?_)
  first | rintro e w2 x2 y2 rfl hb hc | rintro e w2 ⟨x2, y2, rfl, hb, hc⟩
  have BW2 : Hid (Below w.heap.size w w2) := BW1.out.trans (hb.mono BW1.out.size)
  have HC1 : Hid (Chs w2 x2 P1) := hc
  clear hdd hb hc
  have hjj := HJ1.out w2 BW2.out
  clear HJ1
  go_wp2_with (go_at_call 15; refine hjj.mono ?_)
  first | rintro e w3 x3 y3 ev3 rfl hc _ hev hb | rintro e w3 ⟨x3, y3, ev3, rfl, hc, _, hev, hb⟩
  have BW3 : Hid (Below w.heap.size w w3) := BW2.out.trans (hb.mono BW2.out.size)
  have HC1 : Hid (Chs w3 x2 P1) := HC1.out.below hb
  have HX1 : Hid (Chs w3 x3 P1) := hc
  have hee := HE1.out w3 ev3 BW3.out hev
  clear hjj hb hc hev HE1
  go_wp2_with (go_at_call 9; refine hee.mono ?_)
  rintro e w4 ⟨rfl, hb⟩
  have BW4 : Hid (Below w.heap.size w w4) := BW3.out.trans (hb.mono BW3.out.size)
  have hpp := HP1.out w4 x3 y3 x2 y2 (HX1.out.below hb) (HC1.out.below hb)
  clear hee hb HX1 HP1 HC1
  go_wp2_with (go_at_call 12; refine hpp.mono ?_)
  rintro e w5 ⟨rfl, hb⟩
  have BW5 : Hid (Below w.heap.size w w5) := BW4.out.trans (hb.mono BW4.out.size)
  clear hpp hb
  have hb5a := HB2.out w5 BW5.out
  clear HB2
  go_wp2_with (go_at_call 13; refine hb5a.mono ?_)
  first | rintro e w6 g6 c6 g'6 c'6 rfl f1 l1 f2 l2 hb | rintro e w6 ⟨g6, c6, g'6, c'6, rfl, f1, l1, f2, l2, hb⟩
  have BW6 : Hid (Below w.heap.size w w6) := BW5.out.trans (hb.mono BW5.out.size)
  have hdd := HD2.out w6 g6 c6 g'6 c'6 f1 l1 f2
  clear hb5a hb f1 l1 f2 l2 HD2
  go_wp2_with (go_at_call 14; refine hdd.mono ?_)
  first | rintro e w7 x7 y7 rfl hb hc | rintro e w7 ⟨x7, y7, rfl, hb, hc⟩
  have BW7 : Hid (Below w.heap.size w w7) := BW6.out.trans (hb.mono BW6.out.size)
  have HC2 : Hid (Chs w7 x7 P2) := hc
  clear hdd hb hc
  have hjj := HJ2.out w7 BW7.out
  clear HJ2
  go_wp2_with (go_at_call 16; refine hjj.mono ?_)
  first | rintro e w8 x8 y8 ev8 rfl hc _ hev hb | rintro e w8 ⟨x8, y8, ev8, rfl, hc, _, hev, hb⟩
  have BW8 : Hid (Below w.heap.size w w8) := BW7.out.trans (hb.mono BW7.out.size)
  have HC2 : Hid (Chs w8 x7 P2) := HC2.out.below hb
  have HX2 : Hid (Chs w8 x8 P2) := hc
  have hee := HE2.out w8 ev8 BW8.out hev
  clear hjj hb hc hev HE2
  go_wp2_with (go_at_call 9; refine hee.mono ?_)
  rintro e w9 ⟨rfl, hb⟩
  have BW9 : Hid (Below w.heap.size w w9) := BW8.out.trans (hb.mono BW8.out.size)
  have hpp := HP2.out w9 x8 y8 x7 y7 (HX2.out.below hb) (HC2.out.below hb)
  clear hee hb HX2 HP2 HC2
  go_wp2_with (go_at_call 12; refine hpp.mono ?_)
  rintro e w10 ⟨rfl, hb⟩
  have BW10 : Hid (Below w.heap.size w w10) := BW9.out.trans (hb.mono BW9.out.size)
  clear hpp hb
  have hso := HSO.out w10 BW10.out
  clear HSO
  go_wp2_with (go_at_call 17; refine hso.mono ?_)
  rintro e w11 ⟨⟨x11, y11, rfl, hs, _⟩, hb⟩
  have BW11 : Hid (Below w.heap.size w w11) := BW10.out.trans (hb.mono BW10.out.size)
  have HSA : Hid (Srs w11 x11 O) := hs
  have hsp := HSP.out w11 BW11.out
  clear hso hb hs HSP
  go_wp2_with (go_at_call 18; refine hsp.mono ?_)
  rintro e w12 ⟨⟨x12, y12, rfl, hs, _⟩, hb⟩
  have BW12 : Hid (Below w.heap.size w w12) := BW11.out.trans (hb.mono BW11.out.size)
  have HSA : Hid (Srs w12 x11 O) := HSA.out.below hb
  have HSB : Hid (Srs w12 x12 O) := hs
  have hee := HE3.out w12 BW12.out
  clear hsp hb hs HE3
  go_wp2_with (go_at_call 9; refine hee.mono ?_)
  rintro e w13 ⟨rfl, hb⟩
  have BW13 : Hid (Below w.heap.size w w13) := BW12.out.trans (hb.mono BW12.out.size)
  have hss := HS3.out w13 x12 y12 x11 y11 (HSB.out.below hb) (HSA.out.below hb)
  clear hee hb HSA HSB HS3
  go_wp2_with (go_at_call 19; refine hss.mono ?_)
  rintro e w14 ⟨rfl, hb⟩
  have BW14 : Hid (Below w.heap.size w w14) := BW13.out.trans (hb.mono BW13.out.size)
  clear hss hb
  go_wp2
  go_ret
  exact ⟨rfl, BW14.out⟩

set_option maxRecDepth 100000 in
set_option maxHeartbeats 4000000 in
theorem algIs_b (aa : Option Addr) (t : List Fl) (ca : Nat) (ab : Option Addr) (p : List Ch) (cb : Nat) (ad : Option Addr) (q : List Ch) (cd : Nat) (n : Int) (w : World) (ha : Fls w aa t) (hca : t.length ≤ ca) (hm : t.length ≤ maxLen) (hml : ∀ x ∈ t, x.2.length ≤ maxLen) (hts : ∀ x ∈ t, ∀ s ∈ x.2, s.size ≤ maxLen) (hb : Chs w ab p) (gm : p.length ≤ maxLen) (gml : ∀ c ∈ p, c.2.2.length ≤ maxLen) (gms : ∀ c ∈ p, ∀ h ∈ c.2.2, h.2.2.length ≤ maxLen) (gts : ∀ c ∈ p, ∀ h ∈ c.2.2, ∀ m ∈ h.2.2, m.2.size ≤ maxLen) (hd : Chs w ad q) (km : q.length ≤ maxLen) (kml : ∀ c ∈ q, c.2.2.length ≤ maxLen) (kms : ∀ c ∈ q, ∀ h ∈ c.2.2, h.2.2.length ≤ maxLen) (kts : ∀ c ∈ q, ∀ h ∈ c.2.2, ∀ m ∈ h.2.2, m.2.size ≤ maxLen) (htl : TypeLaid w) (z1 : bhF t p q false n = 0) (z2 : bhF t p q true n ≠ 0) :
    Calls Tryz.prog 5 #[.slice aa t.length ca, .slice ab p.length cb, .slice ad q.length cd, .int .i64 n] w fun e w' => e = .returned (.bool true) ∧ Below w.heap.size w w' := by
  obtain ⟨_, hn0, hn1⟩ := bhF_zero z1
  obtain ⟨N, rfl⟩ := Int.eq_ofNat_of_zero_le hn0
  have hN : N ≤ 1000 := by omega
  obtain ⟨db1, _, _⟩ := bhF_zero z1
  obtain ⟨da1, dc1⟩ := db_parts db1
  have ok1 := bh_ok z1
  have tX1 := apF_tree da1
  have tY1 := apF_tree dc1
  have t01 := (apF_zero da1).1
  have L1 : jnL t p q false (N : Int) = dfP t (apF (bhT t p false) q).1 N := by unfold jnL; rw [if_pos z1, if_neg (by decide)]; rfl
  have kf1 := kf_dfP t01 tY1 hN
  obtain ⟨p11, p21, p31⟩ := kf_maxS (p := dfP t (apF (bhT t p false) q).1 N) (by rw [kf1])
  have HB1 : Hid (∀ w', Below w.heap.size w w' → Calls Tryz.prog 13 #[.slice aa t.length ca, .slice ab p.length cb, .slice ad q.length cd, .bool false, .int .i64 (N : Int)] w' fun e w'' => ∃ g c g2 c2, e = .returned (.tuple #[.slice g (bhB t p q false (N : Int)).length c, .slice g2 (bhC t p q false (N : Int)).length c2, .int .i64 (bhF t p q false (N : Int))]) ∧ Fls w'' g (bhB t p q false (N : Int)) ∧ (bhB t p q false (N : Int)).length ≤ c ∧ Fls w'' g2 (bhC t p q false (N : Int)) ∧ (bhC t p q false (N : Int)).length ≤ c2 ∧ Below w'.heap.size w' w'') := fun w' h => behindRef aa t ca ab p cb ad q cd false (N : Int) w' (ha.below h) hca hm hml hts (hb.below h) gm gml gms gts (hd.below h) km kml kms kts
  have HJ1 : Hid (∀ w', Below w.heap.size w w' → Calls Tryz.prog 15 #[.slice aa t.length ca, .slice ab p.length cb, .slice ad q.length cd, .int .i64 (N : Int)] w' fun e w'' => ∃ x c ev, e = .returned (.tuple #[.slice x (jnL t p q false (N : Int)).length c, ev]) ∧ Chs w'' x (jnL t p q false (N : Int)) ∧ (jnL t p q false (N : Int)).length ≤ c ∧ Erd w'' ev (bhF t p q false (N : Int)) ∧ Below w'.heap.size w' w'') := fun w' h => joinOfA aa t ca ab p cb ad q cd (N : Int) w' (ha.below h) hca hm hml (hb.below h) gm gml gms (hd.below h) km kml kms
  have HE1 : Hid (∀ w' v, Below w.heap.size w w' → Erd w' v (bhF t p q false (N : Int)) → Calls Tryz.prog 9 #[v, .int .i64 (bhF t p q false (N : Int))] w' fun e w'' => e = .returned (.bool true) ∧ Below w'.heap.size w' w'') := fun w' v h he => erd_told v _ w' he (htl.below h)
  rw [L1] at HJ1
  rw [ok1.1, ok1.2, z1] at HB1
  rw [z1] at HJ1 HE1
  have HD1 : Hid (∀ w' g c, Below w.heap.size w w' → Fls w' g (apF (bhT t p false) q).1 → Calls Tryz.prog 14 #[.slice aa t.length ca, .slice g (apF (bhT t p false) q).1.length c, .int .i64 N] w' fun e w'' => ∃ x y, e = .returned (.slice x (dfP t (apF (bhT t p false) q).1 N).length y) ∧ Below w'.heap.size w' w'' ∧ Chs w'' x (dfP t (apF (bhT t p false) q).1 N)) := fun w' g c h hg => refDiff aa g t _ ca c N w' (ha.below h) hg hca t01 tY1 hN
  have HP1 : Hid (∀ w' x y x' y', Chs w' x (dfP t (apF (bhT t p false) q).1 N) → Chs w' x' (dfP t (apF (bhT t p false) q).1 N) → Calls Tryz.prog 12 #[.slice x (dfP t (apF (bhT t p false) q).1 N).length y, .slice x' (dfP t (apF (bhT t p false) q).1 N).length y'] w' fun e w'' => e = .returned (.bool true) ∧ Below w'.heap.size w' w'') := fun w' x y x' y' h1 h2 => patches_eq x x' _ y y' w' h1 h2 p11 p21 p31
  obtain ⟨P1, hP1⟩ : ∃ x, dfP t (apF (bhT t p false) q).1 N = x := ⟨_, rfl⟩
  rw [hP1] at HJ1 HD1 HP1
  obtain ⟨nP1, hnP1⟩ : ∃ x, P1.length = x := ⟨_, rfl⟩
  rw [hnP1] at HJ1 HD1 HP1
  obtain ⟨Y1, hY1⟩ : ∃ x, (apF (bhT t p false) q).1 = x := ⟨_, rfl⟩
  rw [hY1] at HB1 HD1
  obtain ⟨nY1, hnY1⟩ : ∃ x, Y1.length = x := ⟨_, rfl⟩
  rw [hnY1] at HB1 HD1
  obtain ⟨X1, hX1⟩ : ∃ x, (apF t p).1 = x := ⟨_, rfl⟩
  rw [hX1] at HB1
  obtain ⟨nX1, hnX1⟩ : ∃ x, X1.length = x := ⟨_, rfl⟩
  rw [hnX1] at HB1
  have L2 := jnL_bad z2
  have bad2 := bh_bad z2
  have HB2 : Hid (∀ w', Below w.heap.size w w' → Calls Tryz.prog 13 #[.slice aa t.length ca, .slice ab p.length cb, .slice ad q.length cd, .bool true, .int .i64 (N : Int)] w' fun e w'' => ∃ g c g2 c2, e = .returned (.tuple #[.slice g (bhB t p q true (N : Int)).length c, .slice g2 (bhC t p q true (N : Int)).length c2, .int .i64 (bhF t p q true (N : Int))]) ∧ Fls w'' g (bhB t p q true (N : Int)) ∧ (bhB t p q true (N : Int)).length ≤ c ∧ Fls w'' g2 (bhC t p q true (N : Int)) ∧ (bhC t p q true (N : Int)).length ≤ c2 ∧ Below w'.heap.size w' w'') := fun w' h => behindRef aa t ca ab p cb ad q cd true (N : Int) w' (ha.below h) hca hm hml hts (hb.below h) gm gml gms gts (hd.below h) km kml kms kts
  have HJ2 : Hid (∀ w', Below w.heap.size w w' → Calls Tryz.prog 16 #[.slice aa t.length ca, .slice ab p.length cb, .slice ad q.length cd, .int .i64 (N : Int)] w' fun e w'' => ∃ x c ev, e = .returned (.tuple #[.slice x (jnL t p q true (N : Int)).length c, ev]) ∧ Chs w'' x (jnL t p q true (N : Int)) ∧ (jnL t p q true (N : Int)).length ≤ c ∧ Erd w'' ev (bhF t p q true (N : Int)) ∧ Below w'.heap.size w' w'') := fun w' h => interOfA aa t ca ab p cb ad q cd (N : Int) w' (ha.below h) hca hm hml (hb.below h) gm gml gms (hd.below h) km kml kms
  have HE2 : Hid (∀ w' v, Below w.heap.size w w' → Erd w' v (bhF t p q true (N : Int)) → Calls Tryz.prog 9 #[v, .int .i64 (bhF t p q true (N : Int))] w' fun e w'' => e = .returned (.bool true) ∧ Below w'.heap.size w' w'') := fun w' v h he => erd_told v _ w' he (htl.below h)
  rw [L2] at HJ2
  rw [bad2.1, bad2.2] at HB2
  have HP2 : Hid (∀ w' x y, Chs w' x [] → Calls Tryz.prog 12 #[.slice x 0 y, .slice none 0 0] w' fun e w'' => e = .returned (.bool true) ∧ Below w'.heap.size w' w'') := fun w' x y h1 => patches_eq x none [] y 0 w' h1 (Chs.nil _ _) (Nat.zero_le _) (fun c hc => by cases hc) (fun c hc => by cases hc)
  obtain ⟨F2, hF2⟩ : ∃ x, bhF t p q true (N : Int) = x := ⟨_, rfl⟩
  rw [hF2] at HB2 HJ2 HE2 z2
  rw [List.length_nil] at HB2 HJ2
  have q2 : (F2 == 0) = false := by simpa using z2
  have HSO : Hid (∀ w', Below w.heap.size w w' → Calls Tryz.prog 17 #[.slice ab p.length cb] w' fun e w'' => (∃ x c, e = .returned (.tuple #[.slice x (spO p).length c, .int .i64 (spE p)]) ∧ Srs w'' x (spO p) ∧ (spO p).length ≤ c) ∧ Below w'.heap.size w' w'') := fun w' h => splitRef ab p cb w' (hb.below h) gm gml gms gts
  have HSP : Hid (∀ w', Below w.heap.size w w' → Calls Tryz.prog 18 #[.slice ab p.length cb] w' fun e w'' => (∃ x c, e = .returned (.tuple #[.slice x (spO p).length c, errV (spE p)]) ∧ Srs w'' x (spO p) ∧ (spO p).length ≤ c) ∧ Below w'.heap.size w' w'') := fun w' h => splitOfA ab p cb w' (hb.below h) gm gml gms
  have HE3 : Hid (∀ w', Below w.heap.size w w' → Calls Tryz.prog 9 #[errV (spE p), .int .i64 (spE p)] w' fun e w'' => e = .returned (.bool true) ∧ Below w'.heap.size w' w'') := fun w' h => (errV_told _ _ w' (htl.below h)).mono fun e w'' ⟨he, hb⟩ => ⟨by rw [he]; simp, hb⟩
  obtain ⟨sm1, sm2⟩ := spO_small p
  have HS3 : Hid (∀ w' x y x' y', Srs w' x (spO p) → Srs w' x' (spO p) → Calls Tryz.prog 19 #[.slice x (spO p).length y, .slice x' (spO p).length y'] w' fun e w'' => e = .returned (.bool true) ∧ Below w'.heap.size w' w'') := fun w' x y x' y' h1 h2 => series_eq x x' (spO p) y y' w' h1 h2 (by unfold maxLen; omega) (fun r hr => by have := (sm2 r hr).1; unfold maxLen; omega) (fun r hr c hc => by have := ((sm2 r hr).2 c hc).1; unfold maxLen; omega) (fun r hr c hc h hh => by have := ((sm2 r hr).2 c hc).2 h hh; unfold maxLen; omega)
  obtain ⟨O, hO⟩ : ∃ x, spO p = x := ⟨_, rfl⟩
  obtain ⟨nO, hnO⟩ : ∃ x, (spO p).length = x := ⟨_, rfl⟩
  obtain ⟨E3, hE3⟩ : ∃ x, spE p = x := ⟨_, rfl⟩
  obtain ⟨V3, hV3⟩ : ∃ x, errV E3 = x := ⟨_, rfl⟩
  rw [hnO, hO, hE3] at HSO
  rw [hnO, hO, hE3, hV3] at HSP
  rw [hE3, hV3] at HE3
  rw [hnO, hO] at HS3
  obtain ⟨nt, hnt⟩ : ∃ x, t.length = x := ⟨_, rfl⟩
  obtain ⟨np, hnp⟩ : ∃ x, p.length = x := ⟨_, rfl⟩
  obtain ⟨nq, hnq⟩ : ∃ x, q.length = x := ⟨_, rfl⟩
  rw [hnt, hnp, hnq] at HB1 HJ1 HB2 HJ2
  rw [hnt] at HD1
  rw [hnp] at HSO HSP
  rw [hnt, hnp, hnq]
  clear ha hca hm hml hts hb gm gml gms gts hd km kml kms kts htl sm1 sm2 hO hnO hE3 hV3 hnt hnp hnq z1 db1 da1 dc1 ok1 tX1 tY1 t01 L1 kf1 p11 p21 p31 hP1 hnP1 hY1 hnY1 hX1 hnX1 z2 L2 bad2 hF2 hn0 hn1 hN
  have BW0 : Hid (Below w.heap.size w w) := Below.refl _ _
  go_enter Tryz.func5, Tryz.ntmps5
  have hb0a := HB1.out w (Below.refl _ _)
  clear HB1
  go_wp2_with (go_at_call 13; refine hb0a.mono ?_)
  first | rintro e w1 g1 c1 g'1 c'1 rfl f1 l1 f2 l2 hb | rintro e w1 ⟨g1, c1, g'1, c'1, rfl, f1, l1, f2, l2, hb⟩
  have BW1 : Hid (Below w.heap.size w w1) := BW0.out.trans (hb.mono BW0.out.size)
  have hdd := HD1.out w1 g'1 c'1 BW1.out f2
  clear hb0a hb f1 l1 f2 l2 HD1
  go_wp2_with (go_at_call 14; refine hdd.mono ?_)
  first | rintro e w2 x2 y2 rfl hb hc | rintro e w2 ⟨x2, y2, rfl, hb, hc⟩
  have BW2 : Hid (Below w.heap.size w w2) := BW1.out.trans (hb.mono BW1.out.size)
  have HC1 : Hid (Chs w2 x2 P1) := hc
  clear hdd hb hc
  have hjj := HJ1.out w2 BW2.out
  clear HJ1
  go_wp2_with (go_at_call 15; refine hjj.mono ?_)
  first | rintro e w3 x3 y3 ev3 rfl hc _ hev hb | rintro e w3 ⟨x3, y3, ev3, rfl, hc, _, hev, hb⟩
  have BW3 : Hid (Below w.heap.size w w3) := BW2.out.trans (hb.mono BW2.out.size)
  have HC1 : Hid (Chs w3 x2 P1) := HC1.out.below hb
  have HX1 : Hid (Chs w3 x3 P1) := hc
  have hee := HE1.out w3 ev3 BW3.out hev
  clear hjj hb hc hev HE1
  go_wp2_with (go_at_call 9; refine hee.mono ?_)
  rintro e w4 ⟨rfl, hb⟩
  have BW4 : Hid (Below w.heap.size w w4) := BW3.out.trans (hb.mono BW3.out.size)
  have hpp := HP1.out w4 x3 y3 x2 y2 (HX1.out.below hb) (HC1.out.below hb)
  clear hee hb HX1 HP1 HC1
  go_wp2_with (go_at_call 12; refine hpp.mono ?_)
  rintro e w5 ⟨rfl, hb⟩
  have BW5 : Hid (Below w.heap.size w w5) := BW4.out.trans (hb.mono BW4.out.size)
  clear hpp hb
  have hb5a := HB2.out w5 BW5.out
  clear HB2
  go_wp2_with (go_at_call 13; refine hb5a.mono ?_)
  first | rintro e w6 g6 c6 g'6 c'6 rfl f1 l1 f2 l2 hb | rintro e w6 ⟨g6, c6, g'6, c'6, rfl, f1, l1, f2, l2, hb⟩
  have BW6 : Hid (Below w.heap.size w w6) := BW5.out.trans (hb.mono BW5.out.size)
  clear hb5a hb f1 l1 f2 l2
  have hjj := HJ2.out w6 BW6.out
  clear HJ2
  go_wp2_with (go_at_call 16; refine hjj.mono ?_)
  first | rintro e w7 x7 y7 ev7 rfl hc _ hev hb | rintro e w7 ⟨x7, y7, ev7, rfl, hc, _, hev, hb⟩
  have BW7 : Hid (Below w.heap.size w w7) := BW6.out.trans (hb.mono BW6.out.size)
  have HX2 : Hid (Chs w7 x7 []) := hc
  have hee := HE2.out w7 ev7 BW7.out hev
  clear hjj hb hc hev HE2
  go_wp2_with (go_at_call 9; refine hee.mono ?_)
  rintro e w8 ⟨rfl, hb⟩
  have BW8 : Hid (Below w.heap.size w w8) := BW7.out.trans (hb.mono BW7.out.size)
  have hpp := HP2.out w8 x7 y7 (HX2.out.below hb)
  clear hee hb HX2 HP2
  go_wp2_with (go_at_call 12; refine hpp.mono ?_)
  rintro e w9 ⟨rfl, hb⟩
  have BW9 : Hid (Below w.heap.size w w9) := BW8.out.trans (hb.mono BW8.out.size)
  clear hpp hb q2
  have hso := HSO.out w9 BW9.out
  clear HSO
  go_wp2_with (go_at_call 17; refine hso.mono ?_)
  rintro e w10 ⟨⟨x10, y10, rfl, hs, _⟩, hb⟩
  have BW10 : Hid (Below w.heap.size w w10) := BW9.out.trans (hb.mono BW9.out.size)
  have HSA : Hid (Srs w10 x10 O) := hs
  have hsp := HSP.out w10 BW10.out
  clear hso hb hs HSP
  go_wp2_with (go_at_call 18; refine hsp.mono ?_)
  rintro e w11 ⟨⟨x11, y11, rfl, hs, _⟩, hb⟩
  have BW11 : Hid (Below w.heap.size w w11) := BW10.out.trans (hb.mono BW10.out.size)
  have HSA : Hid (Srs w11 x10 O) := HSA.out.below hb
  have HSB : Hid (Srs w11 x11 O) := hs
  have hee := HE3.out w11 BW11.out
  clear hsp hb hs HE3
  go_wp2_with (go_at_call 9; refine hee.mono ?_)
  rintro e w12 ⟨rfl, hb⟩
  have BW12 : Hid (Below w.heap.size w w12) := BW11.out.trans (hb.mono BW11.out.size)
  have hss := HS3.out w12 x11 y11 x10 y10 (HSB.out.below hb) (HSA.out.below hb)
  clear hee hb HSA HSB HS3
  go_wp2_with (go_at_call 19; refine hss.mono ?_)
  rintro e w13 ⟨rfl, hb⟩
  have BW13 : Hid (Below w.heap.size w w13) := BW12.out.trans (hb.mono BW12.out.size)
  clear hss hb
  go_wp2
  go_ret
  exact ⟨rfl, BW13.out⟩

set_option maxRecDepth 100000 in
set_option maxHeartbeats 4000000 in
theorem algIs_c (aa : Option Addr) (t : List Fl) (ca : Nat) (ab : Option Addr) (p : List Ch) (cb : Nat) (ad : Option Addr) (q : List Ch) (cd : Nat) (n : Int) (w : World) (ha : Fls w aa t) (hca : t.length ≤ ca) (hm : t.length ≤ maxLen) (hml : ∀ x ∈ t, x.2.length ≤ maxLen) (hts : ∀ x ∈ t, ∀ s ∈ x.2, s.size ≤ maxLen) (hb : Chs w ab p) (gm : p.length ≤ maxLen) (gml : ∀ c ∈ p, c.2.2.length ≤ maxLen) (gms : ∀ c ∈ p, ∀ h ∈ c.2.2, h.2.2.length ≤ maxLen) (gts : ∀ c ∈ p, ∀ h ∈ c.2.2, ∀ m ∈ h.2.2, m.2.size ≤ maxLen) (hd : Chs w ad q) (km : q.length ≤ maxLen) (kml : ∀ c ∈ q, c.2.2.length ≤ maxLen) (kms : ∀ c ∈ q, ∀ h ∈ c.2.2, h.2.2.length ≤ maxLen) (kts : ∀ c ∈ q, ∀ h ∈ c.2.2, ∀ m ∈ h.2.2, m.2.size ≤ maxLen) (htl : TypeLaid w) (z1 : bhF t p q false n ≠ 0) (z2 : bhF t p q true n = 0) :
    Calls Tryz.prog 5 #[.slice aa t.length ca, .slice ab p.length cb, .slice ad q.length cd, .int .i64 n] w fun e w' => e = .returned (.bool true) ∧ Below w.heap.size w w' := by
  obtain ⟨_, hn0, hn1⟩ := bhF_zero z2
  obtain ⟨N, rfl⟩ := Int.eq_ofNat_of_zero_le hn0
  have hN : N ≤ 1000 := by omega
  have L1 := jnL_bad z1
  have bad1 := bh_bad z1
  have HB1 : Hid (∀ w', Below w.heap.size w w' → Calls Tryz.prog 13 #[.slice aa t.length ca, .slice ab p.length cb, .slice ad q.length cd, .bool false, .int .i64 (N : Int)] w' fun e w'' => ∃ g c g2 c2, e = .returned (.tuple #[.slice g (bhB t p q false (N : Int)).length c, .slice g2 (bhC t p q false (N : Int)).length c2, .int .i64 (bhF t p q false (N : Int))]) ∧ Fls w'' g (bhB t p q false (N : Int)) ∧ (bhB t p q false (N : Int)).length ≤ c ∧ Fls w'' g2 (bhC t p q false (N : Int)) ∧ (bhC t p q false (N : Int)).length ≤ c2 ∧ Below w'.heap.size w' w'') := fun w' h => behindRef aa t ca ab p cb ad q cd false (N : Int) w' (ha.below h) hca hm hml hts (hb.below h) gm gml gms gts (hd.below h) km kml kms kts
  have HJ1 : Hid (∀ w', Below w.heap.size w w' → Calls Tryz.prog 15 #[.slice aa t.length ca, .slice ab p.length cb, .slice ad q.length cd, .int .i64 (N : Int)] w' fun e w'' => ∃ x c ev, e = .returned (.tuple #[.slice x (jnL t p q false (N : Int)).length c, ev]) ∧ Chs w'' x (jnL t p q false (N : Int)) ∧ (jnL t p q false (N : Int)).length ≤ c ∧ Erd w'' ev (bhF t p q false (N : Int)) ∧ Below w'.heap.size w' w'') := fun w' h => joinOfA aa t ca ab p cb ad q cd (N : Int) w' (ha.below h) hca hm hml (hb.below h) gm gml gms (hd.below h) km kml kms
  have HE1 : Hid (∀ w' v, Below w.heap.size w w' → Erd w' v (bhF t p q false (N : Int)) → Calls Tryz.prog 9 #[v, .int .i64 (bhF t p q false (N : Int))] w' fun e w'' => e = .returned (.bool true) ∧ Below w'.heap.size w' w'') := fun w' v h he => erd_told v _ w' he (htl.below h)
  rw [L1] at HJ1
  rw [bad1.1, bad1.2] at HB1
  have HP1 : Hid (∀ w' x y, Chs w' x [] → Calls Tryz.prog 12 #[.slice x 0 y, .slice none 0 0] w' fun e w'' => e = .returned (.bool true) ∧ Below w'.heap.size w' w'') := fun w' x y h1 => patches_eq x none [] y 0 w' h1 (Chs.nil _ _) (Nat.zero_le _) (fun c hc => by cases hc) (fun c hc => by cases hc)
  obtain ⟨F1, hF1⟩ : ∃ x, bhF t p q false (N : Int) = x := ⟨_, rfl⟩
  rw [hF1] at HB1 HJ1 HE1 z1
  rw [List.length_nil] at HB1 HJ1
  have q1 : (F1 == 0) = false := by simpa using z1
  obtain ⟨db2, _, _⟩ := bhF_zero z2
  obtain ⟨da2, dc2⟩ := db_parts db2
  have ok2 := bh_ok z2
  have tX2 := apF_tree da2
  have tY2 := apF_tree dc2
  have t02 := (apF_zero da2).1
  have L2 : jnL t p q true (N : Int) = dfP (apF t p).1 (apF (bhT t p true) q).1 N := by unfold jnL; rw [if_pos z2, if_pos rfl]; rfl
  have kf2 := kf_dfP tX2 tY2 hN
  obtain ⟨p12, p22, p32⟩ := kf_maxS (p := dfP (apF t p).1 (apF (bhT t p true) q).1 N) (by rw [kf2])
  have HB2 : Hid (∀ w', Below w.heap.size w w' → Calls Tryz.prog 13 #[.slice aa t.length ca, .slice ab p.length cb, .slice ad q.length cd, .bool true, .int .i64 (N : Int)] w' fun e w'' => ∃ g c g2 c2, e = .returned (.tuple #[.slice g (bhB t p q true (N : Int)).length c, .slice g2 (bhC t p q true (N : Int)).length c2, .int .i64 (bhF t p q true (N : Int))]) ∧ Fls w'' g (bhB t p q true (N : Int)) ∧ (bhB t p q true (N : Int)).length ≤ c ∧ Fls w'' g2 (bhC t p q true (N : Int)) ∧ (bhC t p q true (N : Int)).length ≤ c2 ∧ Below w'.heap.size w' w'') := fun w' h => behindRef aa t ca ab p cb ad q cd true (N : Int) w' (ha.below h) hca hm hml hts (hb.below h) gm gml gms gts (hd.below h) km kml kms kts
  have HJ2 : Hid (∀ w', Below w.heap.size w w' → Calls Tryz.prog 16 #[.slice aa t.length ca, .slice ab p.length cb, .slice ad q.length cd, .int .i64 (N : Int)] w' fun e w'' => ∃ x c ev, e = .returned (.tuple #[.slice x (jnL t p q true (N : Int)).length c, ev]) ∧ Chs w'' x (jnL t p q true (N : Int)) ∧ (jnL t p q true (N : Int)).length ≤ c ∧ Erd w'' ev (bhF t p q true (N : Int)) ∧ Below w'.heap.size w' w'') := fun w' h => interOfA aa t ca ab p cb ad q cd (N : Int) w' (ha.below h) hca hm hml (hb.below h) gm gml gms (hd.below h) km kml kms
  have HE2 : Hid (∀ w' v, Below w.heap.size w w' → Erd w' v (bhF t p q true (N : Int)) → Calls Tryz.prog 9 #[v, .int .i64 (bhF t p q true (N : Int))] w' fun e w'' => e = .returned (.bool true) ∧ Below w'.heap.size w' w'') := fun w' v h he => erd_told v _ w' he (htl.below h)
  rw [L2] at HJ2
  rw [ok2.1, ok2.2, z2] at HB2
  rw [z2] at HJ2 HE2
  have HD2 : Hid (∀ w' g' c' g c, Fls w' g' (apF t p).1 → (apF t p).1.length ≤ c' → Fls w' g (apF (bhT t p true) q).1 → Calls Tryz.prog 14 #[.slice g' (apF t p).1.length c', .slice g (apF (bhT t p true) q).1.length c, .int .i64 N] w' fun e w'' => ∃ x y, e = .returned (.slice x (dfP (apF t p).1 (apF (bhT t p true) q).1 N).length y) ∧ Below w'.heap.size w' w'' ∧ Chs w'' x (dfP (apF t p).1 (apF (bhT t p true) q).1 N)) := fun w' g' c' g c hg' hc' hg => refDiff g' g _ _ c' c N w' hg' hg hc' tX2 tY2 hN
  have HP2 : Hid (∀ w' x y x' y', Chs w' x (dfP (apF t p).1 (apF (bhT t p true) q).1 N) → Chs w' x' (dfP (apF t p).1 (apF (bhT t p true) q).1 N) → Calls Tryz.prog 12 #[.slice x (dfP (apF t p).1 (apF (bhT t p true) q).1 N).length y, .slice x' (dfP (apF t p).1 (apF (bhT t p true) q).1 N).length y'] w' fun e w'' => e = .returned (.bool true) ∧ Below w'.heap.size w' w'') := fun w' x y x' y' h1 h2 => patches_eq x x' _ y y' w' h1 h2 p12 p22 p32
  obtain ⟨P2, hP2⟩ : ∃ x, dfP (apF t p).1 (apF (bhT t p true) q).1 N = x := ⟨_, rfl⟩
  rw [hP2] at HJ2 HD2 HP2
  obtain ⟨nP2, hnP2⟩ : ∃ x, P2.length = x := ⟨_, rfl⟩
  rw [hnP2] at HJ2 HD2 HP2
  obtain ⟨Y2, hY2⟩ : ∃ x, (apF (bhT t p true) q).1 = x := ⟨_, rfl⟩
  rw [hY2] at HB2 HD2
  obtain ⟨nY2, hnY2⟩ : ∃ x, Y2.length = x := ⟨_, rfl⟩
  rw [hnY2] at HB2 HD2
  obtain ⟨X2, hX2⟩ : ∃ x, (apF t p).1 = x := ⟨_, rfl⟩
  rw [hX2] at HB2 HD2
  obtain ⟨nX2, hnX2⟩ : ∃ x, X2.length = x := ⟨_, rfl⟩
  rw [hnX2] at HB2 HD2
  have HSO : Hid (∀ w', Below w.heap.size w w' → Calls Tryz.prog 17 #[.slice ab p.length cb] w' fun e w'' => (∃ x c, e = .returned (.tuple #[.slice x (spO p).length c, .int .i64 (spE p)]) ∧ Srs w'' x (spO p) ∧ (spO p).length ≤ c) ∧ Below w'.heap.size w' w'') := fun w' h => splitRef ab p cb w' (hb.below h) gm gml gms gts
  have HSP : Hid (∀ w', Below w.heap.size w w' → Calls Tryz.prog 18 #[.slice ab p.length cb] w' fun e w'' => (∃ x c, e = .returned (.tuple #[.slice x (spO p).length c, errV (spE p)]) ∧ Srs w'' x (spO p) ∧ (spO p).length ≤ c) ∧ Below w'.heap.size w' w'') := fun w' h => splitOfA ab p cb w' (hb.below h) gm gml gms
  have HE3 : Hid (∀ w', Below w.heap.size w w' → Calls Tryz.prog 9 #[errV (spE p), .int .i64 (spE p)] w' fun e w'' => e = .returned (.bool true) ∧ Below w'.heap.size w' w'') := fun w' h => (errV_told _ _ w' (htl.below h)).mono fun e w'' ⟨he, hb⟩ => ⟨by rw [he]; simp, hb⟩
  obtain ⟨sm1, sm2⟩ := spO_small p
  have HS3 : Hid (∀ w' x y x' y', Srs w' x (spO p) → Srs w' x' (spO p) → Calls Tryz.prog 19 #[.slice x (spO p).length y, .slice x' (spO p).length y'] w' fun e w'' => e = .returned (.bool true) ∧ Below w'.heap.size w' w'') := fun w' x y x' y' h1 h2 => series_eq x x' (spO p) y y' w' h1 h2 (by unfold maxLen; omega) (fun r hr => by have := (sm2 r hr).1; unfold maxLen; omega) (fun r hr c hc => by have := ((sm2 r hr).2 c hc).1; unfold maxLen; omega) (fun r hr c hc h hh => by have := ((sm2 r hr).2 c hc).2 h hh; unfold maxLen; omega)
  obtain ⟨O, hO⟩ : ∃ x, spO p = x := ⟨_, rfl⟩
  obtain ⟨nO, hnO⟩ : ∃ x, (spO p).length = x := ⟨_, rfl⟩
  obtain ⟨E3, hE3⟩ : ∃ x, spE p = x := ⟨_, rfl⟩
  obtain ⟨V3, hV3⟩ : ∃ x, errV E3 = x := ⟨_, rfl⟩
  rw [hnO, hO, hE3] at HSO
  rw [hnO, hO, hE3, hV3] at HSP
  rw [hE3, hV3] at HE3
  rw [hnO, hO] at HS3
  obtain ⟨nt, hnt⟩ : ∃ x, t.length = x := ⟨_, rfl⟩
  obtain ⟨np, hnp⟩ : ∃ x, p.length = x := ⟨_, rfl⟩
  obtain ⟨nq, hnq⟩ : ∃ x, q.length = x := ⟨_, rfl⟩
  rw [hnt, hnp, hnq] at HB1 HJ1 HB2 HJ2

  rw [hnp] at HSO HSP
  rw [hnt, hnp, hnq]
  clear ha hca hm hml hts hb gm gml gms gts hd km kml kms kts htl sm1 sm2 hO hnO hE3 hV3 hnt hnp hnq z1 L1 bad1 hF1 z2 db2 da2 dc2 ok2 tX2 tY2 t02 L2 kf2 p12 p22 p32 hP2 hnP2 hY2 hnY2 hX2 hnX2 hn0 hn1 hN
  have BW0 : Hid (Below w.heap.size w w) := Below.refl _ _
  go_enter Tryz.func5, Tryz.ntmps5
  have hb0a := HB1.out w (Below.refl _ _)
  clear HB1
  go_wp2_with (go_at_call 13; refine hb0a.mono ?_)
  first | rintro e w1 g1 c1 g'1 c'1 rfl f1 l1 f2 l2 hb | rintro e w1 ⟨g1, c1, g'1, c'1, rfl, f1, l1, f2, l2, hb⟩
  have BW1 : Hid (Below w.heap.size w w1) := BW0.out.trans (hb.mono BW0.out.size)
  clear hb0a hb f1 l1 f2 l2
  have hjj := HJ1.out w1 BW1.out
  clear HJ1
  go_wp2_with (go_at_call 15; refine hjj.mono ?_)
  first | rintro e w2 x2 y2 ev2 rfl hc _ hev hb | rintro e w2 ⟨x2, y2, ev2, rfl, hc, _, hev, hb⟩
  have BW2 : Hid (Below w.heap.size w w2) := BW1.out.trans (hb.mono BW1.out.size)
  have HX1 : Hid (Chs w2 x2 []) := hc
  have hee := HE1.out w2 ev2 BW2.out hev
  clear hjj hb hc hev HE1
  go_wp2_with (go_at_call 9; refine hee.mono ?_)
  rintro e w3 ⟨rfl, hb⟩
  have BW3 : Hid (Below w.heap.size w w3) := BW2.out.trans (hb.mono BW2.out.size)
  have hpp := HP1.out w3 x2 y2 (HX1.out.below hb)
  clear hee hb HX1 HP1
  go_wp2_with (go_at_call 12; refine hpp.mono ?_)
  rintro e w4 ⟨rfl, hb⟩
  have BW4 : Hid (Below w.heap.size w w4) := BW3.out.trans (hb.mono BW3.out.size)
  clear hpp hb q1
  have hb4a := HB2.out w4 BW4.out
  clear HB2
  go_wp2_with (go_at_call 13; refine hb4a.mono ?_)
  first | rintro e w5 g5 c5 g'5 c'5 rfl f1 l1 f2 l2 hb | rintro e w5 ⟨g5, c5, g'5, c'5, rfl, f1, l1, f2, l2, hb⟩
  have BW5 : Hid (Below w.heap.size w w5) := BW4.out.trans (hb.mono BW4.out.size)
  have hdd := HD2.out w5 g5 c5 g'5 c'5 f1 l1 f2
  clear hb4a hb f1 l1 f2 l2 HD2
  go_wp2_with (go_at_call 14; refine hdd.mono ?_)
  first | rintro e w6 x6 y6 rfl hb hc | rintro e w6 ⟨x6, y6, rfl, hb, hc⟩
  have BW6 : Hid (Below w.heap.size w w6) := BW5.out.trans (hb.mono BW5.out.size)
  have HC2 : Hid (Chs w6 x6 P2) := hc
  clear hdd hb hc
  have hjj := HJ2.out w6 BW6.out
  clear HJ2
  go_wp2_with (go_at_call 16; refine hjj.mono ?_)
  first | rintro e w7 x7 y7 ev7 rfl hc _ hev hb | rintro e w7 ⟨x7, y7, ev7, rfl, hc, _, hev, hb⟩
  have BW7 : Hid (Below w.heap.size w w7) := BW6.out.trans (hb.mono BW6.out.size)
  have HC2 : Hid (Chs w7 x6 P2) := HC2.out.below hb
  have HX2 : Hid (Chs w7 x7 P2) := hc
  have hee := HE2.out w7 ev7 BW7.out hev
  clear hjj hb hc hev HE2
  go_wp2_with (go_at_call 9; refine hee.mono ?_)
  rintro e w8 ⟨rfl, hb⟩
  have BW8 : Hid (Below w.heap.size w w8) := BW7.out.trans (hb.mono BW7.out.size)
  have hpp := HP2.out w8 x7 y7 x6 y6 (HX2.out.below hb) (HC2.out.below hb)
  clear hee hb HX2 HP2 HC2
  go_wp2_with (go_at_call 12; refine hpp.mono ?_)
  rintro e w9 ⟨rfl, hb⟩
  have BW9 : Hid (Below w.heap.size w w9) := BW8.out.trans (hb.mono BW8.out.size)
  clear hpp hb
  have hso := HSO.out w9 BW9.out
  clear HSO
  go_wp2_with (go_at_call 17; refine hso.mono ?_)
  rintro e w10 ⟨⟨x10, y10, rfl, hs, _⟩, hb⟩
  have BW10 : Hid (Below w.heap.size w w10) := BW9.out.trans (hb.mono BW9.out.size)
  have HSA : Hid (Srs w10 x10 O) := hs
  have hsp := HSP.out w10 BW10.out
  clear hso hb hs HSP
  go_wp2_with (go_at_call 18; refine hsp.mono ?_)
  rintro e w11 ⟨⟨x11, y11, rfl, hs, _⟩, hb⟩
  have BW11 : Hid (Below w.heap.size w w11) := BW10.out.trans (hb.mono BW10.out.size)
  have HSA : Hid (Srs w11 x10 O) := HSA.out.below hb
  have HSB : Hid (Srs w11 x11 O) := hs
  have hee := HE3.out w11 BW11.out
  clear hsp hb hs HE3
  go_wp2_with (go_at_call 9; refine hee.mono ?_)
  rintro e w12 ⟨rfl, hb⟩
  have BW12 : Hid (Below w.heap.size w w12) := BW11.out.trans (hb.mono BW11.out.size)
  have hss := HS3.out w12 x11 y11 x10 y10 (HSB.out.below hb) (HSA.out.below hb)
  clear hee hb HSA HSB HS3
  go_wp2_with (go_at_call 19; refine hss.mono ?_)
  rintro e w13 ⟨rfl, hb⟩
  have BW13 : Hid (Below w.heap.size w w13) := BW12.out.trans (hb.mono BW12.out.size)
  clear hss hb
  go_wp2
  go_ret
  exact ⟨rfl, BW13.out⟩

set_option maxRecDepth 100000 in
set_option maxHeartbeats 4000000 in
theorem algIs_d (aa : Option Addr) (t : List Fl) (ca : Nat) (ab : Option Addr) (p : List Ch) (cb : Nat) (ad : Option Addr) (q : List Ch) (cd : Nat) (n : Int) (w : World) (ha : Fls w aa t) (hca : t.length ≤ ca) (hm : t.length ≤ maxLen) (hml : ∀ x ∈ t, x.2.length ≤ maxLen) (hts : ∀ x ∈ t, ∀ s ∈ x.2, s.size ≤ maxLen) (hb : Chs w ab p) (gm : p.length ≤ maxLen) (gml : ∀ c ∈ p, c.2.2.length ≤ maxLen) (gms : ∀ c ∈ p, ∀ h ∈ c.2.2, h.2.2.length ≤ maxLen) (gts : ∀ c ∈ p, ∀ h ∈ c.2.2, ∀ m ∈ h.2.2, m.2.size ≤ maxLen) (hd : Chs w ad q) (km : q.length ≤ maxLen) (kml : ∀ c ∈ q, c.2.2.length ≤ maxLen) (kms : ∀ c ∈ q, ∀ h ∈ c.2.2, h.2.2.length ≤ maxLen) (kts : ∀ c ∈ q, ∀ h ∈ c.2.2, ∀ m ∈ h.2.2, m.2.size ≤ maxLen) (htl : TypeLaid w) (z1 : bhF t p q false n ≠ 0) (z2 : bhF t p q true n ≠ 0) :
    Calls Tryz.prog 5 #[.slice aa t.length ca, .slice ab p.length cb, .slice ad q.length cd, .int .i64 n] w fun e w' => e = .returned (.bool true) ∧ Below w.heap.size w w' := by
  have L1 := jnL_bad z1
  have bad1 := bh_bad z1
  have HB1 : Hid (∀ w', Below w.heap.size w w' → Calls Tryz.prog 13 #[.slice aa t.length ca, .slice ab p.length cb, .slice ad q.length cd, .bool false, .int .i64 n] w' fun e w'' => ∃ g c g2 c2, e = .returned (.tuple #[.slice g (bhB t p q false n).length c, .slice g2 (bhC t p q false n).length c2, .int .i64 (bhF t p q false n)]) ∧ Fls w'' g (bhB t p q false n) ∧ (bhB t p q false n).length ≤ c ∧ Fls w'' g2 (bhC t p q false n) ∧ (bhC t p q false n).length ≤ c2 ∧ Below w'.heap.size w' w'') := fun w' h => behindRef aa t ca ab p cb ad q cd false n w' (ha.below h) hca hm hml hts (hb.below h) gm gml gms gts (hd.below h) km kml kms kts
  have HJ1 : Hid (∀ w', Below w.heap.size w w' → Calls Tryz.prog 15 #[.slice aa t.length ca, .slice ab p.length cb, .slice ad q.length cd, .int .i64 n] w' fun e w'' => ∃ x c ev, e = .returned (.tuple #[.slice x (jnL t p q false n).length c, ev]) ∧ Chs w'' x (jnL t p q false n) ∧ (jnL t p q false n).length ≤ c ∧ Erd w'' ev (bhF t p q false n) ∧ Below w'.heap.size w' w'') := fun w' h => joinOfA aa t ca ab p cb ad q cd n w' (ha.below h) hca hm hml (hb.below h) gm gml gms (hd.below h) km kml kms
  have HE1 : Hid (∀ w' v, Below w.heap.size w w' → Erd w' v (bhF t p q false n) → Calls Tryz.prog 9 #[v, .int .i64 (bhF t p q false n)] w' fun e w'' => e = .returned (.bool true) ∧ Below w'.heap.size w' w'') := fun w' v h he => erd_told v _ w' he (htl.below h)
  rw [L1] at HJ1
  rw [bad1.1, bad1.2] at HB1
  have HP1 : Hid (∀ w' x y, Chs w' x [] → Calls Tryz.prog 12 #[.slice x 0 y, .slice none 0 0] w' fun e w'' => e = .returned (.bool true) ∧ Below w'.heap.size w' w'') := fun w' x y h1 => patches_eq x none [] y 0 w' h1 (Chs.nil _ _) (Nat.zero_le _) (fun c hc => by cases hc) (fun c hc => by cases hc)
  obtain ⟨F1, hF1⟩ : ∃ x, bhF t p q false n = x := ⟨_, rfl⟩
  rw [hF1] at HB1 HJ1 HE1 z1
  rw [List.length_nil] at HB1 HJ1
  have q1 : (F1 == 0) = false := by simpa using z1
  have L2 := jnL_bad z2
  have bad2 := bh_bad z2
  have HB2 : Hid (∀ w', Below w.heap.size w w' → Calls Tryz.prog 13 #[.slice aa t.length ca, .slice ab p.length cb, .slice ad q.length cd, .bool true, .int .i64 n] w' fun e w'' => ∃ g c g2 c2, e = .returned (.tuple #[.slice g (bhB t p q true n).length c, .slice g2 (bhC t p q true n).length c2, .int .i64 (bhF t p q true n)]) ∧ Fls w'' g (bhB t p q true n) ∧ (bhB t p q true n).length ≤ c ∧ Fls w'' g2 (bhC t p q true n) ∧ (bhC t p q true n).length ≤ c2 ∧ Below w'.heap.size w' w'') := fun w' h => behindRef aa t ca ab p cb ad q cd true n w' (ha.below h) hca hm hml hts (hb.below h) gm gml gms gts (hd.below h) km kml kms kts
  have HJ2 : Hid (∀ w', Below w.heap.size w w' → Calls Tryz.prog 16 #[.slice aa t.length ca, .slice ab p.length cb, .slice ad q.length cd, .int .i64 n] w' fun e w'' => ∃ x c ev, e = .returned (.tuple #[.slice x (jnL t p q true n).length c, ev]) ∧ Chs w'' x (jnL t p q true n) ∧ (jnL t p q true n).length ≤ c ∧ Erd w'' ev (bhF t p q true n) ∧ Below w'.heap.size w' w'') := fun w' h => interOfA aa t ca ab p cb ad q cd n w' (ha.below h) hca hm hml (hb.below h) gm gml gms (hd.below h) km kml kms
  have HE2 : Hid (∀ w' v, Below w.heap.size w w' → Erd w' v (bhF t p q true n) → Calls Tryz.prog 9 #[v, .int .i64 (bhF t p q true n)] w' fun e w'' => e = .returned (.bool true) ∧ Below w'.heap.size w' w'') := fun w' v h he => erd_told v _ w' he (htl.below h)
  rw [L2] at HJ2
  rw [bad2.1, bad2.2] at HB2
  have HP2 : Hid (∀ w' x y, Chs w' x [] → Calls Tryz.prog 12 #[.slice x 0 y, .slice none 0 0] w' fun e w'' => e = .returned (.bool true) ∧ Below w'.heap.size w' w'') := fun w' x y h1 => patches_eq x none [] y 0 w' h1 (Chs.nil _ _) (Nat.zero_le _) (fun c hc => by cases hc) (fun c hc => by cases hc)
  obtain ⟨F2, hF2⟩ : ∃ x, bhF t p q true n = x := ⟨_, rfl⟩
  rw [hF2] at HB2 HJ2 HE2 z2
  rw [List.length_nil] at HB2 HJ2
  have q2 : (F2 == 0) = false := by simpa using z2
  have HSO : Hid (∀ w', Below w.heap.size w w' → Calls Tryz.prog 17 #[.slice ab p.length cb] w' fun e w'' => (∃ x c, e = .returned (.tuple #[.slice x (spO p).length c, .int .i64 (spE p)]) ∧ Srs w'' x (spO p) ∧ (spO p).length ≤ c) ∧ Below w'.heap.size w' w'') := fun w' h => splitRef ab p cb w' (hb.below h) gm gml gms gts
  have HSP : Hid (∀ w', Below w.heap.size w w' → Calls Tryz.prog 18 #[.slice ab p.length cb] w' fun e w'' => (∃ x c, e = .returned (.tuple #[.slice x (spO p).length c, errV (spE p)]) ∧ Srs w'' x (spO p) ∧ (spO p).length ≤ c) ∧ Below w'.heap.size w' w'') := fun w' h => splitOfA ab p cb w' (hb.below h) gm gml gms
  have HE3 : Hid (∀ w', Below w.heap.size w w' → Calls Tryz.prog 9 #[errV (spE p), .int .i64 (spE p)] w' fun e w'' => e = .returned (.bool true) ∧ Below w'.heap.size w' w'') := fun w' h => (errV_told _ _ w' (htl.below h)).mono fun e w'' ⟨he, hb⟩ => ⟨by rw [he]; simp, hb⟩
  obtain ⟨sm1, sm2⟩ := spO_small p
  have HS3 : Hid (∀ w' x y x' y', Srs w' x (spO p) → Srs w' x' (spO p) → Calls Tryz.prog 19 #[.slice x (spO p).length y, .slice x' (spO p).length y'] w' fun e w'' => e = .returned (.bool true) ∧ Below w'.heap.size w' w'') := fun w' x y x' y' h1 h2 => series_eq x x' (spO p) y y' w' h1 h2 (by unfold maxLen; omega) (fun r hr => by have := (sm2 r hr).1; unfold maxLen; omega) (fun r hr c hc => by have := ((sm2 r hr).2 c hc).1; unfold maxLen; omega) (fun r hr c hc h hh => by have := ((sm2 r hr).2 c hc).2 h hh; unfold maxLen; omega)
  obtain ⟨O, hO⟩ : ∃ x, spO p = x := ⟨_, rfl⟩
  obtain ⟨nO, hnO⟩ : ∃ x, (spO p).length = x := ⟨_, rfl⟩
  obtain ⟨E3, hE3⟩ : ∃ x, spE p = x := ⟨_, rfl⟩
  obtain ⟨V3, hV3⟩ : ∃ x, errV E3 = x := ⟨_, rfl⟩
  rw [hnO, hO, hE3] at HSO
  rw [hnO, hO, hE3, hV3] at HSP
  rw [hE3, hV3] at HE3
  rw [hnO, hO] at HS3
  obtain ⟨nt, hnt⟩ : ∃ x, t.length = x := ⟨_, rfl⟩
  obtain ⟨np, hnp⟩ : ∃ x, p.length = x := ⟨_, rfl⟩
  obtain ⟨nq, hnq⟩ : ∃ x, q.length = x := ⟨_, rfl⟩
  rw [hnt, hnp, hnq] at HB1 HJ1 HB2 HJ2

  rw [hnp] at HSO HSP
  rw [hnt, hnp, hnq]
  clear ha hca hm hml hts hb gm gml gms gts hd km kml kms kts htl sm1 sm2 hO hnO hE3 hV3 hnt hnp hnq z1 L1 bad1 hF1 z2 L2 bad2 hF2
  have BW0 : Hid (Below w.heap.size w w) := Below.refl _ _
  go_enter Tryz.func5, Tryz.ntmps5
  have hb0a := HB1.out w (Below.refl _ _)
  clear HB1
  go_wp2_with (go_at_call 13; refine hb0a.mono ?_)
  first | rintro e w1 g1 c1 g'1 c'1 rfl f1 l1 f2 l2 hb | rintro e w1 ⟨g1, c1, g'1, c'1, rfl, f1, l1, f2, l2, hb⟩
  have BW1 : Hid (Below w.heap.size w w1) := BW0.out.trans (hb.mono BW0.out.size)
  clear hb0a hb f1 l1 f2 l2
  have hjj := HJ1.out w1 BW1.out
  clear HJ1
  go_wp2_with (go_at_call 15; refine hjj.mono ?_)
  first | rintro e w2 x2 y2 ev2 rfl hc _ hev hb | rintro e w2 ⟨x2, y2, ev2, rfl, hc, _, hev, hb⟩
  have BW2 : Hid (Below w.heap.size w w2) := BW1.out.trans (hb.mono BW1.out.size)
  have HX1 : Hid (Chs w2 x2 []) := hc
  have hee := HE1.out w2 ev2 BW2.out hev
  clear hjj hb hc hev HE1
  go_wp2_with (go_at_call 9; refine hee.mono ?_)
  rintro e w3 ⟨rfl, hb⟩
  have BW3 : Hid (Below w.heap.size w w3) := BW2.out.trans (hb.mono BW2.out.size)
  have hpp := HP1.out w3 x2 y2 (HX1.out.below hb)
  clear hee hb HX1 HP1
  go_wp2_with (go_at_call 12; refine hpp.mono ?_)
  rintro e w4 ⟨rfl, hb⟩
  have BW4 : Hid (Below w.heap.size w w4) := BW3.out.trans (hb.mono BW3.out.size)
  clear hpp hb q1
  have hb4a := HB2.out w4 BW4.out
  clear HB2
  go_wp2_with (go_at_call 13; refine hb4a.mono ?_)
  first | rintro e w5 g5 c5 g'5 c'5 rfl f1 l1 f2 l2 hb | rintro e w5 ⟨g5, c5, g'5, c'5, rfl, f1, l1, f2, l2, hb⟩
  have BW5 : Hid (Below w.heap.size w w5) := BW4.out.trans (hb.mono BW4.out.size)
  clear hb4a hb f1 l1 f2 l2
  have hjj := HJ2.out w5 BW5.out
  clear HJ2
  go_wp2_with (go_at_call 16; refine hjj.mono ?_)
  first | rintro e w6 x6 y6 ev6 rfl hc _ hev hb | rintro e w6 ⟨x6, y6, ev6, rfl, hc, _, hev, hb⟩
  have BW6 : Hid (Below w.heap.size w w6) := BW5.out.trans (hb.mono BW5.out.size)
  have HX2 : Hid (Chs w6 x6 []) := hc
  have hee := HE2.out w6 ev6 BW6.out hev
  clear hjj hb hc hev HE2
  go_wp2_with (go_at_call 9; refine hee.mono ?_)
  rintro e w7 ⟨rfl, hb⟩
  have BW7 : Hid (Below w.heap.size w w7) := BW6.out.trans (hb.mono BW6.out.size)
  have hpp := HP2.out w7 x6 y6 (HX2.out.below hb)
  clear hee hb HX2 HP2
  go_wp2_with (go_at_call 12; refine hpp.mono ?_)
  rintro e w8 ⟨rfl, hb⟩
  have BW8 : Hid (Below w.heap.size w w8) := BW7.out.trans (hb.mono BW7.out.size)
  clear hpp hb q2
  have hso := HSO.out w8 BW8.out
  clear HSO
  go_wp2_with (go_at_call 17; refine hso.mono ?_)
  rintro e w9 ⟨⟨x9, y9, rfl, hs, _⟩, hb⟩
  have BW9 : Hid (Below w.heap.size w w9) := BW8.out.trans (hb.mono BW8.out.size)
  have HSA : Hid (Srs w9 x9 O) := hs
  have hsp := HSP.out w9 BW9.out
  clear hso hb hs HSP
  go_wp2_with (go_at_call 18; refine hsp.mono ?_)
  rintro e w10 ⟨⟨x10, y10, rfl, hs, _⟩, hb⟩
  have BW10 : Hid (Below w.heap.size w w10) := BW9.out.trans (hb.mono BW9.out.size)
  have HSA : Hid (Srs w10 x9 O) := HSA.out.below hb
  have HSB : Hid (Srs w10 x10 O) := hs
  have hee := HE3.out w10 BW10.out
  clear hsp hb hs HE3
  go_wp2_with (go_at_call 9; refine hee.mono ?_)
  rintro e w11 ⟨rfl, hb⟩
  have BW11 : Hid (Below w.heap.size w w11) := BW10.out.trans (hb.mono BW10.out.size)
  have hss := HS3.out w11 x10 y10 x9 y9 (HSB.out.below hb) (HSA.out.below hb)
  clear hee hb HSA HSB HS3
  go_wp2_with (go_at_call 19; refine hss.mono ?_)
  rintro e w12 ⟨rfl, hb⟩
  have BW12 : Hid (Below w.heap.size w w12) := BW11.out.trans (hb.mono BW11.out.size)
  clear hss hb
  go_wp2
  go_ret
  exact ⟨rfl, BW12.out⟩

theorem algebraIs_any (aa : Option Addr) (t : List Fl) (ca : Nat) (ab : Option Addr) (p : List Ch) (cb : Nat) (ad : Option Addr) (q : List Ch) (cd : Nat) (n : Int) (w : World) (ha : Fls w aa t) (hca : t.length ≤ ca) (hm : t.length ≤ maxLen) (hml : ∀ x ∈ t, x.2.length ≤ maxLen) (hts : ∀ x ∈ t, ∀ s ∈ x.2, s.size ≤ maxLen) (hb : Chs w ab p) (gm : p.length ≤ maxLen) (gml : ∀ c ∈ p, c.2.2.length ≤ maxLen) (gms : ∀ c ∈ p, ∀ h ∈ c.2.2, h.2.2.length ≤ maxLen) (gts : ∀ c ∈ p, ∀ h ∈ c.2.2, ∀ m ∈ h.2.2, m.2.size ≤ maxLen) (hd : Chs w ad q) (km : q.length ≤ maxLen) (kml : ∀ c ∈ q, c.2.2.length ≤ maxLen) (kms : ∀ c ∈ q, ∀ h ∈ c.2.2, h.2.2.length ≤ maxLen) (kts : ∀ c ∈ q, ∀ h ∈ c.2.2, ∀ m ∈ h.2.2, m.2.size ≤ maxLen) (htl : TypeLaid w) :
    Calls Tryz.prog 5 #[.slice aa t.length ca, .slice ab p.length cb, .slice ad q.length cd, .int .i64 n] w fun e w' => e = .returned (.bool true) ∧ Below w.heap.size w w' := by
  by_cases z1 : bhF t p q false n = 0
  · by_cases z2 : bhF t p q true n = 0
    · exact algIs_a aa t ca ab p cb ad q cd n w ha hca hm hml hts hb gm gml gms gts hd km kml kms kts htl z1 z2
    · exact algIs_b aa t ca ab p cb ad q cd n w ha hca hm hml hts hb gm gml gms gts hd km kml kms kts htl z1 z2
  · by_cases z2 : bhF t p q true n = 0
    · exact algIs_c aa t ca ab p cb ad q cd n w ha hca hm hml hts hb gm gml gms gts hd km kml kms kts htl z1 z2
    · exact algIs_d aa t ca ab p cb ad q cd n w ha hca hm hml hts hb gm gml gms gts hd km kml kms kts htl z1 z2

end Go.Proofs.YtnkdmgekpajfhadGreatDoor
