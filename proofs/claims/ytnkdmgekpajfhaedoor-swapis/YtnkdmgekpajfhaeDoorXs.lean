/-
  Walk of algebra.Swap: a hunk that cannot stand, or neither ahead nor behind, or both. Walk of algebra.Swap: the one ahead cannot stand where it would. Walk of algebra.Swap: the other one cannot stand where it would.
-/
import Derived.Test.YtnkdmgekpajfhaeDoorAsw
namespace Go.Proofs.YtnkdmgekpajfhaeDoor
open Go.RowKit Dist

set_option maxRecDepth 100000 in
set_option maxHeartbeats 8000000 in
theorem swapA_bad (o p : Int) (am : Option Addr) (ms : List (Int × ByteArray)) (cm : Nat) (o' p' : Int) (an : Option Addr) (ns : List (Int × ByteArray)) (cn : Nat) (w : World) (hm : Mks w am ms) (hl : ms.length ≤ maxLen) (hc : ms.length ≤ cm) (km : Mks w an ns) (kl : ns.length ≤ maxLen) (kc : ns.length ≤ cn) (h0 : swE (o, p, ms) (o', p', ns) ≠ 0) :
    Calls Tryd.prog 15 #[.agg #[.int .i64 o, .int .i64 p, .slice am ms.length cm], .agg #[.int .i64 o', .int .i64 p', .slice an ns.length cn]] w fun e w' => SwV (o, p, ms) (o', p', ns) e w' ∧ Below w.heap.size w w' := by
  have HSP : Hid (∀ w', Below w.heap.size w w' → Calls Tryd.prog 38 #[.agg #[.int .i64 o, .int .i64 p, .slice am ms.length cm], .agg #[.int .i64 o', .int .i64 p', .slice an ns.length cn]] w' fun e w'' => e = .returned (.tuple #[.int .i64 (swA (o, p, ms) (o', p', ns)).1, .int .i64 (swA (o, p, ms) (o', p', ns)).2, errV (swE (o, p, ms) (o', p', ns))]) ∧ Below w'.heap.size w' w'') := fun w' h => swapPlacesOf o p am ms cm o' p' an ns cn w' (hm.below h) hl hc (km.below h) kl kc
  have HBAD : Hid (∀ f w', swF (o, p, ms) (o', p', ns) = f → f ≠ 0 → SwV (o, p, ms) (o', p', ns) (.returned (.tuple #[.agg #[.int .i64 0, .int .i64 0, .slice none 0 0], .agg #[.int .i64 0, .int .i64 0, .slice none 0 0], .iface 45 (.int .i64 f)])) w') := fun f w' e hf => SwV.bad e hf w'
  obtain ⟨q1, hq1⟩ : ∃ n, ms.length = n := ⟨_, rfl⟩
  obtain ⟨q2, hq2⟩ : ∃ n, ns.length = n := ⟨_, rfl⟩
  obtain ⟨B, hB⟩ : ∃ B, w.heap.size = B := ⟨_, rfl⟩
  have HB : Hid (w.heap.size = B) := hB
  have hst := Sq.start hB o p am q1 cm o' p' an q2 cn
  have hqs : Szz w _ B (.int .i64 o) (.int .i64 p) (.slice am q1 cm) (.int .i64 o') (.int .i64 p') (.slice an q2 cn) (.int .i64 0) (.int .i64 0) (.slice none 0 0) (.int .i64 0) (.int .i64 0) (.slice none 0 0) := hst.1
  have hsz := hst.2
  clear hst
  have hF := swF_E h0
  obtain ⟨E, hE⟩ : ∃ E, swE (o, p, ms) (o', p', ns) = E := ⟨_, rfl⟩
  obtain ⟨A, hA⟩ : ∃ E, swA (o, p, ms) (o', p', ns) = E := ⟨_, rfl⟩
  rw [hE] at hF h0
  rw [hE, hA, errV_not h0, hq1, hq2, hB] at HSP
  have HF : Hid (swF (o, p, ms) (o', p', ns) = E) := hF
  have H0 : Hid (E ≠ 0) := h0
  rw [hq1, hq2, hB]
  clear hm hl hc km kl kc hq1 hq2 hB h0 hF hE hA
  go_enter Tryd.func15, Tryd.ntmps15
  go_wp2_with fail
  rw [HB.out]
  generalize (((w.alloc (.cells #[.int .i64 o, .int .i64 p, .slice am q1 cm] 40)).alloc (.cells #[.int .i64 o', .int .i64 p', .slice an q2 cn] 40)).alloc (.cells #[.int .i64 0, .int .i64 0, .slice none 0 0] 40)).alloc (.cells #[.int .i64 0, .int .i64 0, .slice none 0 0] 40) = W at hqs hsz ⊢
  have HQ0 : Hid (Szz w W B (.int .i64 o) (.int .i64 p) (.slice am q1 cm) (.int .i64 o') (.int .i64 p') (.slice an q2 cn) (.int .i64 0) (.int .i64 0) (.slice none 0 0) (.int .i64 0) (.int .i64 0) (.slice none 0 0)) := hqs
  have hsp := HSP.out W hqs.2.2.2.2
  clear hqs hsz HSP
  go_wp2_with (go_at_call 38; refine hsp.mono ?_)
  rintro e w1 ⟨rfl, hb1⟩
  have hq := HQ0.out.below hb1
  obtain ⟨z0, z1, z2⟩ := hq.2.2.1.cells
  obtain ⟨z3, z4, z5⟩ := hq.2.2.2.1.cells
  obtain ⟨g0, g1, g2⟩ := hq.2.2.1.frozen
  obtain ⟨g3, g4, g5⟩ := hq.2.2.2.1.frozen
  have hend := (hq.set2 (.int .i64 0) (.int .i64 0) (.slice none 0 0)).set3 (.int .i64 0) (.int .i64 0) (.slice none 0 0)
  obtain ⟨v0, v1, v2⟩ := hend.2.2.1.cells
  obtain ⟨v3, v4, v5⟩ := hend.2.2.2.1.cells
  have HBE : Hid (Below B w _) := hend.2.2.2.2
  clear hsp hb1 HQ0 hq hend
  go_wp2
  refine bodyPost_ret (v := .tuple #[.agg #[.int .i64 0, .int .i64 0, .slice none 0 0], .agg #[.int .i64 0, .int .i64 0, .slice none 0 0], .iface 45 (.int .i64 E)]) (by simp [results, Tryd.results15, go_sem, v0, v1, v2, v3, v4, v5]) rfl ⟨HBAD.out _ _ HF.out H0.out, HBE.out⟩

end Go.Proofs.YtnkdmgekpajfhaeDoor
namespace Go.Proofs.YtnkdmgekpajfhaeDoor
open Go.RowKit Dist

set_option maxRecDepth 100000 in
set_option maxHeartbeats 8000000 in
theorem swapA_k (o p : Int) (am : Option Addr) (ms : List (Int × ByteArray)) (cm : Nat) (o' p' : Int) (an : Option Addr) (ns : List (Int × ByteArray)) (cn : Nat) (w : World) (hm : Mks w am ms) (hl : ms.length ≤ maxLen) (hc : ms.length ≤ cm) (km : Mks w an ns) (kl : ns.length ≤ maxLen) (kc : ns.length ≤ cn) (h0 : swE (o, p, ms) (o', p', ns) = 0) (h1 : (hf [(swP (o, p, ms) (o', p', ns)).2]).2 ≠ 0) :
    Calls Tryd.prog 15 #[.agg #[.int .i64 o, .int .i64 p, .slice am ms.length cm], .agg #[.int .i64 o', .int .i64 p', .slice an ns.length cn]] w fun e w' => SwV (o, p, ms) (o', p', ns) e w' ∧ Below w.heap.size w w' := by
  have HSP : Hid (∀ w', Below w.heap.size w w' → Calls Tryd.prog 38 #[.agg #[.int .i64 o, .int .i64 p, .slice am ms.length cm], .agg #[.int .i64 o', .int .i64 p', .slice an ns.length cn]] w' fun e w'' => e = .returned (.tuple #[.int .i64 (swA (o, p, ms) (o', p', ns)).1, .int .i64 (swA (o, p, ms) (o', p', ns)).2, errV (swE (o, p, ms) (o', p', ns))]) ∧ Below w'.heap.size w' w'') := fun w' h => swapPlacesOf o p am ms cm o' p' an ns cn w' (hm.below h) hl hc (km.below h) kl kc
  have HBAD : Hid (∀ f w', swF (o, p, ms) (o', p', ns) = f → f ≠ 0 → SwV (o, p, ms) (o', p', ns) (.returned (.tuple #[.agg #[.int .i64 0, .int .i64 0, .slice none 0 0], .agg #[.int .i64 0, .int .i64 0, .slice none 0 0], .iface 45 (.int .i64 f)])) w') := fun f w' e hf => SwV.bad e hf w'
  obtain ⟨q1, hq1⟩ : ∃ n, ms.length = n := ⟨_, rfl⟩
  obtain ⟨q2, hq2⟩ : ∃ n, ns.length = n := ⟨_, rfl⟩
  obtain ⟨B, hB⟩ : ∃ B, w.heap.size = B := ⟨_, rfl⟩
  have HB : Hid (w.heap.size = B) := hB
  have hst := Sq.start hB o p am q1 cm o' p' an q2 cn
  have hqs : Szz w _ B (.int .i64 o) (.int .i64 p) (.slice am q1 cm) (.int .i64 o') (.int .i64 p') (.slice an q2 cn) (.int .i64 0) (.int .i64 0) (.slice none 0 0) (.int .i64 0) (.int .i64 0) (.slice none 0 0) := hst.1
  have hsz := hst.2
  clear hst
  have s1 := (hf_one (swE_zero h0).1).1
  have s2 := (hf_one (swE_zero h0).2.1).1
  obtain ⟨P2, P1, F1, F2⟩ := sw_places h0
  have s1 : sf ms = 0 := s1
  have s2 : sf ns = 0 := s2
  rw [h0, errV_zero, hq1, hq2, hB] at HSP
  obtain ⟨aH, haH⟩ : ∃ x, (swA (o, p, ms) (o', p', ns)).1 = x := ⟨_, rfl⟩
  obtain ⟨aK, haK⟩ : ∃ x, (swA (o, p, ms) (o', p', ns)).2 = x := ⟨_, rfl⟩
  rw [haH, haK] at HSP
  rw [haK] at P2
  rw [haH] at P1
  replace P2 : (swP (o, p, ms) (o', p', ns)).2 = (aK, aK, ns) := P2.symm
  replace P1 : (swP (o, p, ms) (o', p', ns)).1 = (aH, aH, ms) := P1.symm
  rw [P2] at F1 h1
  rw [P1, P2] at F2
  have HPK := fun (w' : World) (h : Below B w w') => placeOf o' p' an ns cn aK w' (km.below (by rw [hB]; exact h)) s2
  have HPH := fun (w' : World) (h : Below B w w') => placeOf o p am ms cm aH w' (hm.below (by rw [hB]; exact h)) s1
  have K1 := plO_ok (t := aK) (ms := ns)
  have K2 := plO_bad (t := aK) (ms := ns)
  have K3 := plO_ok (t := aH) (ms := ms)
  have K4 := plO_bad (t := aH) (ms := ms)
  obtain ⟨g1, hg1⟩ : ∃ x, (hf [(aK, aK, ns)]).2 = x := ⟨_, rfl⟩
  obtain ⟨g2, hg2⟩ : ∃ x, (hf [(aH, aH, ms)]).2 = x := ⟨_, rfl⟩
  rw [hg1] at HPK F1 F2 K1 K2 h1
  rw [hg2] at HPH F2 K3 K4
  have Q1 : Hid (ms.length = q1) := hq1
  have Q2 : Hid (ns.length = q2) := hq2
  have HP1 : Hid ((swP (o, p, ms) (o', p', ns)).1 = (aH, aH, ms)) := P1
  have HP2 : Hid ((swP (o, p, ms) (o', p', ns)).2 = (aK, aK, ns)) := P2
  have F1 : Hid (g1 ≠ 0 → swF (o, p, ms) (o', p', ns) = g1) := F1
  have F2 : Hid (g1 = 0 → swF (o, p, ms) (o', p', ns) = g2) := F2
  rw [hq1, hq2, hB]
  clear hm hl hc km kl kc hB h0 s1 s2 P1 P2 haH haK hg1 hg2
  rw [K2 h1, errV_not h1, hq2] at HPK
  have HPK : ∀ w', Below B w w' → Calls Tryd.prog 33 #[.agg #[.int .i64 o', .int .i64 p', .slice an q2 cn], .int .i64 aK] w' fun e w'' => ∃ x c, e = .returned (.tuple #[.agg #[.int .i64 0, .int .i64 0, .slice x 0 c], .iface 45 (.int .i64 g1)]) ∧ Below w'.heap.size w' w'' := fun w' h => (HPK w' h).mono fun e w'' ⟨x, c, he, _, _, _, hb⟩ => ⟨x, c, he, hb⟩
  have H1 : Hid (g1 ≠ 0) := h1
  have HF : Hid (swF (o, p, ms) (o', p', ns) = g1) := F1.out h1
  clear K1 K2 K3 K4 HPH F1 F2 h1 hq1 hq2
  go_enter Tryd.func15, Tryd.ntmps15
  go_wp2_with fail
  rw [HB.out]
  generalize (((w.alloc (.cells #[.int .i64 o, .int .i64 p, .slice am q1 cm] 40)).alloc (.cells #[.int .i64 o', .int .i64 p', .slice an q2 cn] 40)).alloc (.cells #[.int .i64 0, .int .i64 0, .slice none 0 0] 40)).alloc (.cells #[.int .i64 0, .int .i64 0, .slice none 0 0] 40) = W at hqs hsz ⊢
  have HQ0 : Hid (Szz w W B (.int .i64 o) (.int .i64 p) (.slice am q1 cm) (.int .i64 o') (.int .i64 p') (.slice an q2 cn) (.int .i64 0) (.int .i64 0) (.slice none 0 0) (.int .i64 0) (.int .i64 0) (.slice none 0 0)) := hqs
  have hsp := HSP.out W hqs.2.2.2.2
  clear hqs hsz HSP
  go_wp2_with (go_at_call 38; refine hsp.mono ?_)
  rintro e w1 ⟨rfl, hb1⟩
  have hq := HQ0.out.below hb1
  have HQ1 : Hid (Szz w w1 B (.int .i64 o) (.int .i64 p) (.slice am q1 cm) (.int .i64 o') (.int .i64 p') (.slice an q2 cn) (.int .i64 0) (.int .i64 0) (.slice none 0 0) (.int .i64 0) (.int .i64 0) (.slice none 0 0)) := hq
  have hpk := HPK w1 hq.2.2.2.2
  obtain ⟨y0, y1, y2⟩ := hq.2.1.cells
  have HZ1 : Hid (B + 1 + 1 + 1 < w1.heap.size) := hq.2.2.2.1.lt
  clear hsp hb1 HQ0 hq HPK
  go_wp2_with (go_at_call 33; refine hpk.mono ?_)
  first | rintro e w2 x c rfl hb2 | rintro e w2 ⟨x, c, rfl, hb2⟩
  have hq := HQ1.out.below hb2
  obtain ⟨z0, z1, z2⟩ := hq.2.2.1.cells
  obtain ⟨z3, z4, z5⟩ := hq.2.2.2.1.cells
  obtain ⟨f0, f1, f2⟩ := hq.2.2.1.frozen
  obtain ⟨f3, f4, f5⟩ := hq.2.2.2.1.frozen
  have hs := hq.set2 (.int .i64 0) (.int .i64 0) (.slice x 0 c)
  obtain ⟨t0, t1, t2⟩ := hs.2.2.1.cells
  obtain ⟨t3, t4, t5⟩ := hs.2.2.2.1.cells
  obtain ⟨r0, r1, r2⟩ := hs.2.2.1.frozen
  obtain ⟨r3, r4, r5⟩ := hs.2.2.2.1.frozen
  have hend := (hs.set2 (.int .i64 0) (.int .i64 0) (.slice none 0 0)).set3 (.int .i64 0) (.int .i64 0) (.slice none 0 0)
  obtain ⟨v0, v1, v2⟩ := hend.2.2.1.cells
  obtain ⟨v3, v4, v5⟩ := hend.2.2.2.1.cells
  have HBE : Hid (Below B w _) := hend.2.2.2.2
  clear hend
  clear hpk hb2 hq hs HQ1 y0 y1 y2
  go_wp2_with fail
  refine bodyPost_ret (v := .tuple #[.agg #[.int .i64 0, .int .i64 0, .slice none 0 0], .agg #[.int .i64 0, .int .i64 0, .slice none 0 0], .iface 45 (.int .i64 g1)]) (by simp [results, Tryd.results15, go_sem, v0, v1, v2, v3, v4, v5]) rfl ⟨HBAD.out _ _ HF.out H1.out, HBE.out⟩


end Go.Proofs.YtnkdmgekpajfhaeDoor
namespace Go.Proofs.YtnkdmgekpajfhaeDoor
open Go.RowKit Dist

set_option maxRecDepth 100000 in
set_option maxHeartbeats 8000000 in
theorem swapA_h (o p : Int) (am : Option Addr) (ms : List (Int × ByteArray)) (cm : Nat) (o' p' : Int) (an : Option Addr) (ns : List (Int × ByteArray)) (cn : Nat) (w : World) (hm : Mks w am ms) (hl : ms.length ≤ maxLen) (hc : ms.length ≤ cm) (km : Mks w an ns) (kl : ns.length ≤ maxLen) (kc : ns.length ≤ cn) (h0 : swE (o, p, ms) (o', p', ns) = 0) (h1 : (hf [(swP (o, p, ms) (o', p', ns)).2]).2 = 0) (h2 : (hf [(swP (o, p, ms) (o', p', ns)).1]).2 ≠ 0) :
    Calls Tryd.prog 15 #[.agg #[.int .i64 o, .int .i64 p, .slice am ms.length cm], .agg #[.int .i64 o', .int .i64 p', .slice an ns.length cn]] w fun e w' => SwV (o, p, ms) (o', p', ns) e w' ∧ Below w.heap.size w w' := by
  have HSP : Hid (∀ w', Below w.heap.size w w' → Calls Tryd.prog 38 #[.agg #[.int .i64 o, .int .i64 p, .slice am ms.length cm], .agg #[.int .i64 o', .int .i64 p', .slice an ns.length cn]] w' fun e w'' => e = .returned (.tuple #[.int .i64 (swA (o, p, ms) (o', p', ns)).1, .int .i64 (swA (o, p, ms) (o', p', ns)).2, errV (swE (o, p, ms) (o', p', ns))]) ∧ Below w'.heap.size w' w'') := fun w' h => swapPlacesOf o p am ms cm o' p' an ns cn w' (hm.below h) hl hc (km.below h) kl kc
  have HBAD : Hid (∀ f w', swF (o, p, ms) (o', p', ns) = f → f ≠ 0 → SwV (o, p, ms) (o', p', ns) (.returned (.tuple #[.agg #[.int .i64 0, .int .i64 0, .slice none 0 0], .agg #[.int .i64 0, .int .i64 0, .slice none 0 0], .iface 45 (.int .i64 f)])) w') := fun f w' e hf => SwV.bad e hf w'
  obtain ⟨q1, hq1⟩ : ∃ n, ms.length = n := ⟨_, rfl⟩
  obtain ⟨q2, hq2⟩ : ∃ n, ns.length = n := ⟨_, rfl⟩
  obtain ⟨B, hB⟩ : ∃ B, w.heap.size = B := ⟨_, rfl⟩
  have HB : Hid (w.heap.size = B) := hB
  have hst := Sq.start hB o p am q1 cm o' p' an q2 cn
  have hqs : Szz w _ B (.int .i64 o) (.int .i64 p) (.slice am q1 cm) (.int .i64 o') (.int .i64 p') (.slice an q2 cn) (.int .i64 0) (.int .i64 0) (.slice none 0 0) (.int .i64 0) (.int .i64 0) (.slice none 0 0) := hst.1
  have hsz := hst.2
  clear hst
  have s1 := (hf_one (swE_zero h0).1).1
  have s2 := (hf_one (swE_zero h0).2.1).1
  obtain ⟨P2, P1, F1, F2⟩ := sw_places h0
  have s1 : sf ms = 0 := s1
  have s2 : sf ns = 0 := s2
  rw [h0, errV_zero, hq1, hq2, hB] at HSP
  obtain ⟨aH, haH⟩ : ∃ x, (swA (o, p, ms) (o', p', ns)).1 = x := ⟨_, rfl⟩
  obtain ⟨aK, haK⟩ : ∃ x, (swA (o, p, ms) (o', p', ns)).2 = x := ⟨_, rfl⟩
  rw [haH, haK] at HSP
  rw [haK] at P2
  rw [haH] at P1
  replace P2 : (swP (o, p, ms) (o', p', ns)).2 = (aK, aK, ns) := P2.symm
  replace P1 : (swP (o, p, ms) (o', p', ns)).1 = (aH, aH, ms) := P1.symm
  rw [P2] at F1 h1
  rw [P1, P2] at F2
  rw [P1] at h2
  have HPK := fun (w' : World) (h : Below B w w') => placeOf o' p' an ns cn aK w' (km.below (by rw [hB]; exact h)) s2
  have HPH := fun (w' : World) (h : Below B w w') => placeOf o p am ms cm aH w' (hm.below (by rw [hB]; exact h)) s1
  have K1 := plO_ok (t := aK) (ms := ns)
  have K2 := plO_bad (t := aK) (ms := ns)
  have K3 := plO_ok (t := aH) (ms := ms)
  have K4 := plO_bad (t := aH) (ms := ms)
  obtain ⟨g1, hg1⟩ : ∃ x, (hf [(aK, aK, ns)]).2 = x := ⟨_, rfl⟩
  obtain ⟨g2, hg2⟩ : ∃ x, (hf [(aH, aH, ms)]).2 = x := ⟨_, rfl⟩
  rw [hg1] at HPK F1 F2 K1 K2 h1
  rw [hg2] at HPH F2 K3 K4 h2
  have Q1 : Hid (ms.length = q1) := hq1
  have Q2 : Hid (ns.length = q2) := hq2
  have HP1 : Hid ((swP (o, p, ms) (o', p', ns)).1 = (aH, aH, ms)) := P1
  have HP2 : Hid ((swP (o, p, ms) (o', p', ns)).2 = (aK, aK, ns)) := P2
  have F1 : Hid (g1 ≠ 0 → swF (o, p, ms) (o', p', ns) = g1) := F1
  have F2 : Hid (g1 = 0 → swF (o, p, ms) (o', p', ns) = g2) := F2
  rw [hq1, hq2, hB]
  clear hm hl hc km kl kc hB h0 s1 s2 P1 P2 haH haK hg1 hg2
  rw [K1 h1, h1, errV_zero] at HPK
  have HPK : ∀ w', Below B w w' → Calls Tryd.prog 33 #[.agg #[.int .i64 o', .int .i64 p', .slice an q2 cn], .int .i64 aK] w' fun e w'' => ∃ x c, e = .returned (.tuple #[.agg #[.int .i64 aK, .int .i64 aK, .slice x q2 c], .nilIface]) ∧ Mks w'' x ns ∧ Fsh w'.heap.size x ∧ Below w'.heap.size w' w'' := fun w' h => by
    have := HPK w' h
    rw [hq2] at this
    refine this.mono fun e w'' ⟨x, c, he, hm, _, hf, hb⟩ => ⟨x, c, ?_, hm, hf, hb⟩
    rw [he]
  rw [K4 h2, errV_not h2, hq1] at HPH
  have HPH : ∀ w', Below B w w' → Calls Tryd.prog 33 #[.agg #[.int .i64 o, .int .i64 p, .slice am q1 cm], .int .i64 aH] w' fun e w'' => ∃ x c, e = .returned (.tuple #[.agg #[.int .i64 0, .int .i64 0, .slice x 0 c], .iface 45 (.int .i64 g2)]) ∧ Below w'.heap.size w' w'' := fun w' h => (HPH w' h).mono fun e w'' ⟨x, c, he, _, _, _, hb⟩ => ⟨x, c, he, hb⟩
  have H2 : Hid (g2 ≠ 0) := h2
  have HF : Hid (swF (o, p, ms) (o', p', ns) = g2) := F2.out h1
  clear K1 K2 K3 K4 F1 F2 h1 h2 hq1 hq2
  go_enter Tryd.func15, Tryd.ntmps15
  go_wp2_with fail
  rw [HB.out]
  generalize (((w.alloc (.cells #[.int .i64 o, .int .i64 p, .slice am q1 cm] 40)).alloc (.cells #[.int .i64 o', .int .i64 p', .slice an q2 cn] 40)).alloc (.cells #[.int .i64 0, .int .i64 0, .slice none 0 0] 40)).alloc (.cells #[.int .i64 0, .int .i64 0, .slice none 0 0] 40) = W at hqs hsz ⊢
  have HQ0 : Hid (Szz w W B (.int .i64 o) (.int .i64 p) (.slice am q1 cm) (.int .i64 o') (.int .i64 p') (.slice an q2 cn) (.int .i64 0) (.int .i64 0) (.slice none 0 0) (.int .i64 0) (.int .i64 0) (.slice none 0 0)) := hqs
  have hsp := HSP.out W hqs.2.2.2.2
  clear hqs hsz HSP
  go_wp2_with (go_at_call 38; refine hsp.mono ?_)
  rintro e w1 ⟨rfl, hb1⟩
  have hq := HQ0.out.below hb1
  have HQ1 : Hid (Szz w w1 B (.int .i64 o) (.int .i64 p) (.slice am q1 cm) (.int .i64 o') (.int .i64 p') (.slice an q2 cn) (.int .i64 0) (.int .i64 0) (.slice none 0 0) (.int .i64 0) (.int .i64 0) (.slice none 0 0)) := hq
  have hpk := HPK w1 hq.2.2.2.2
  obtain ⟨y0, y1, y2⟩ := hq.2.1.cells
  have HZ1 : Hid (B + 1 + 1 + 1 < w1.heap.size) := hq.2.2.2.1.lt
  clear hsp hb1 HQ0 hq HPK
  go_wp2_with (go_at_call 33; refine hpk.mono ?_)
  first | rintro e w2 x c rfl mx fx hb2 | rintro e w2 ⟨x, c, rfl, mx, fx, hb2⟩
  have cx := trivial
  have hq := HQ1.out.below hb2
  obtain ⟨z0, z1, z2⟩ := hq.2.2.1.cells
  obtain ⟨z3, z4, z5⟩ := hq.2.2.2.1.cells
  obtain ⟨f0, f1, f2⟩ := hq.2.2.1.frozen
  obtain ⟨f3, f4, f5⟩ := hq.2.2.2.1.frozen
  have hs := hq.set2 (.int .i64 aK) (.int .i64 aK) (.slice x q2 c)
  have HMX : Hid (Mks (((w2.setCell ⟨B + 1 + 1, 0, none⟩ (.int .i64 aK)).setCell ⟨B + 1 + 1, 1, none⟩ (.int .i64 aK)).setCell ⟨B + 1 + 1, 2, none⟩ (.slice x q2 c)) x ns) := mx.fsh fx (gr_three _ _ _ _ _) (fun g e => by have := Option.some.inj e; have := HZ1.out; omega)
  have FX : Hid (Fsh w1.heap.size x) := fx
  have HQ2 : Hid (Szz w (((w2.setCell ⟨B + 1 + 1, 0, none⟩ (.int .i64 aK)).setCell ⟨B + 1 + 1, 1, none⟩ (.int .i64 aK)).setCell ⟨B + 1 + 1, 2, none⟩ (.slice x q2 c)) B (.int .i64 o) (.int .i64 p) (.slice am q1 cm) (.int .i64 o') (.int .i64 p') (.slice an q2 cn) (.int .i64 aK) (.int .i64 aK) (.slice x q2 c) (.int .i64 0) (.int .i64 0) (.slice none 0 0)) := hs
  have hph := HPH _ hs.2.2.2.2
  obtain ⟨x0, x1, x2⟩ := hs.1.cells
  clear hpk mx cx fx hb2 hq hs HQ1 y0 y1 y2 HPH
  go_wp2_with (go_at_call 33; refine hph.mono ?_)
  first | rintro e w3 x3 c3 rfl hb3 | rintro e w3 ⟨x3, c3, rfl, hb3⟩
  have hq := HQ2.out.below hb3
  obtain ⟨m0, m1, m2⟩ := hq.2.2.1.cells
  obtain ⟨m3, m4, m5⟩ := hq.2.2.2.1.cells
  obtain ⟨n0, n1, n2⟩ := hq.2.2.1.frozen
  obtain ⟨n3, n4, n5⟩ := hq.2.2.2.1.frozen
  have hs := hq.set3 (.int .i64 0) (.int .i64 0) (.slice x3 0 c3)
  obtain ⟨t0, t1, t2⟩ := hs.2.2.1.cells
  obtain ⟨t3, t4, t5⟩ := hs.2.2.2.1.cells
  obtain ⟨r0, r1, r2⟩ := hs.2.2.1.frozen
  obtain ⟨r3, r4, r5⟩ := hs.2.2.2.1.frozen
  have hend := (hs.set2 (.int .i64 0) (.int .i64 0) (.slice none 0 0)).set3 (.int .i64 0) (.int .i64 0) (.slice none 0 0)
  obtain ⟨v0, v1, v2⟩ := hend.2.2.1.cells
  obtain ⟨v3, v4, v5⟩ := hend.2.2.2.1.cells
  have HBE : Hid (Below B w _) := hend.2.2.2.2
  clear hend
  clear hph hb3 hq hs HQ2 x0 x1 x2 z0 z1 z2 z3 z4 z5 f0 f1 f2 f3 f4 f5
  go_wp2_with fail
  refine bodyPost_ret (v := .tuple #[.agg #[.int .i64 0, .int .i64 0, .slice none 0 0], .agg #[.int .i64 0, .int .i64 0, .slice none 0 0], .iface 45 (.int .i64 g2)]) (by simp [results, Tryd.results15, go_sem, v0, v1, v2, v3, v4, v5]) rfl ⟨HBAD.out _ _ HF.out H2.out, HBE.out⟩


end Go.Proofs.YtnkdmgekpajfhaeDoor
