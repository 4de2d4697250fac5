/-
  Walks of algebra.swapPlaces and algebra.Swap: two hunks the other way round.
-/
import Derived.Test.YtnkdmgekpajfhaeDoorApl
import Derived.Test.YtnkdmgekpajfhaeDoorRsw0
import Derived.BigQuiet

namespace Go.Proofs.YtnkdmgekpajfhaeDoor
open Go.RowKit Dist

/-- The fault ahead of the move; where both stand then. -/
def Dist.swE (h k : Hk) : Int := if (hf [h]).2 ≠ 0 then (hf [h]).2 else if (hf [k]).2 ≠ 0 then (hf [k]).2 else if ahd h k = bhd h k then 6 else 0
def Dist.swA (h k : Hk) : Int × Int := if swE h k ≠ 0 then (0, 0) else if ahd h k = true then (h.1 + nb k.2.2 - ob k.2.2, k.1) else (h.1, k.1 + ob h.2.2 - nb h.2.2)

theorem Dist.swE_h {h k : Hk} (e : (hf [h]).2 ≠ 0) : swE h k = (hf [h]).2 := by unfold swE; rw [if_pos e]
theorem Dist.swE_k {h k : Hk} (e1 : (hf [h]).2 = 0) (e : (hf [k]).2 ≠ 0) : swE h k = (hf [k]).2 := by unfold swE; rw [if_neg (fun x => x e1), if_pos e]
theorem Dist.swE_c {h k : Hk} (e1 : (hf [h]).2 = 0) (e2 : (hf [k]).2 = 0) (e : ahd h k = bhd h k) : swE h k = 6 := by unfold swE; rw [if_neg (fun x => x e1), if_neg (fun x => x e2), if_pos e]
theorem Dist.swE_ok {h k : Hk} (e1 : (hf [h]).2 = 0) (e2 : (hf [k]).2 = 0) (e : ahd h k ≠ bhd h k) : swE h k = 0 := by unfold swE; rw [if_neg (fun x => x e1), if_neg (fun x => x e2), if_neg e]
theorem Dist.swA_bad {h k : Hk} (e : swE h k ≠ 0) : swA h k = (0, 0) := by unfold swA; rw [if_pos e]
theorem Dist.swA_a {h k : Hk} (e : swE h k = 0) (a : ahd h k = true) : swA h k = (h.1 + nb k.2.2 - ob k.2.2, k.1) := by unfold swA; rw [if_neg (fun x => x e), if_pos a]
theorem Dist.swA_b {h k : Hk} (e : swE h k = 0) (a : ahd h k = false) : swA h k = (h.1, k.1 + ob h.2.2 - nb h.2.2) := by unfold swA; rw [if_neg (fun x => x e), if_neg (by rw [a]; decide)]

theorem pick_h (a b c d e f : Value) (w : World) : (Instr.index 107 (.agg #[a, b, c, d, e, f]) (.int .i64 0)).run Tryd.prog w = .ok (.agg #[a, b, c]) w := by kernel_rfl
theorem pick_k (a b c d e f : Value) (w : World) : (Instr.index 107 (.agg #[a, b, c, d, e, f]) (.int .i64 1)).run Tryd.prog w = .ok (.agg #[d, e, f]) w := by kernel_rfl

/-- Both hunks in blocks of their own. -/
def Hq (w0 w : World) (B : Nat) (ho hn : Int) (am : Option Addr) (hq cm : Nat) (ko kn : Int) (an : Option Addr) (kq cn : Nat) : Prop := Bx w B ho hn am hq cm ∧ Bx w (B + 1) ko kn an kq cn ∧ Below B w0 w
theorem Hq.below {w0 w w' : World} {B : Nat} {ho hn : Int} {am : Option Addr} {hq cm : Nat} {ko kn : Int} {an : Option Addr} {kq cn : Nat} (h : Hq w0 w B ho hn am hq cm ko kn an kq cn) (hb : Below w.heap.size w w') : Hq w0 w' B ho hn am hq cm ko kn an kq cn :=
  ⟨h.1.below hb, h.2.1.below hb, h.2.2.trans (hb.mono (by have := h.1.lt; omega))⟩
theorem Hq.start {w : World} {B : Nat} (hB : w.heap.size = B) (ho hn : Int) (am : Option Addr) (hq cm : Nat) (ko kn : Int) (an : Option Addr) (kq cn : Nat) :
    Hq w ((w.alloc (.cells #[.int .i64 ho, .int .i64 hn, .slice am hq cm] 40)).alloc (.cells #[.int .i64 ko, .int .i64 kn, .slice an kq cn] 40)) B ho hn am hq cm ko kn an kq cn := by
  subst hB
  have h1 := heap_alloc_new w (.cells #[.int .i64 ho, .int .i64 hn, .slice am hq cm] 40)
  have b1 := below_alloc w (.cells #[.int .i64 ho, .int .i64 hn, .slice am hq cm] 40)
  have b2 := below_alloc (w.alloc (.cells #[.int .i64 ho, .int .i64 hn, .slice am hq cm] 40)) (.cells #[.int .i64 ko, .int .i64 kn, .slice an kq cn] 40)
  have h2 := heap_alloc_new (w.alloc (.cells #[.int .i64 ho, .int .i64 hn, .slice am hq cm] 40)) (.cells #[.int .i64 ko, .int .i64 kn, .slice an kq cn] 40)
  rw [World.size_alloc] at h2
  exact ⟨blk_below b2 (by simp) h1, h2, b1.trans (b2.mono b1.size)⟩

set_option maxRecDepth 100000 in
set_option maxHeartbeats 4000000 in
theorem swapPlacesOf (o p : Int) (am : Option Addr) (ms : List (Int × ByteArray)) (cm : Nat) (o' p' : Int) (an : Option Addr) (ns : List (Int × ByteArray)) (cn : Nat) (w : World) (hm : Mks w am ms) (hl : ms.length ≤ maxLen) (hc : ms.length ≤ cm) (km : Mks w an ns) (kl : ns.length ≤ maxLen) (kc : ns.length ≤ cn) :
    Calls Tryd.prog 38 #[.agg #[.int .i64 o, .int .i64 p, .slice am ms.length cm], .agg #[.int .i64 o', .int .i64 p', .slice an ns.length cn]] w fun e w' => e = .returned (.tuple #[.int .i64 (swA (o, p, ms) (o', p', ns)).1, .int .i64 (swA (o, p, ms) (o', p', ns)).2, errV (swE (o, p, ms) (o', p', ns))]) ∧ Below w.heap.size w w' := by
  have HC1 : Hid (∀ w', Below w.heap.size w w' → Calls Tryd.prog 58 #[.agg #[.int .i64 o, .int .i64 p, .slice am ms.length cm]] w' fun e w'' => e = .returned (errV (hf [(o, p, ms)]).2) ∧ Below w'.heap.size w' w'') := fun w' h => checkAloneOf o p am ms cm w' (hm.below h) hl hc
  have HC2 : Hid (∀ w', Below w.heap.size w w' → Calls Tryd.prog 58 #[.agg #[.int .i64 o', .int .i64 p', .slice an ns.length cn]] w' fun e w'' => e = .returned (errV (hf [(o', p', ns)]).2) ∧ Below w'.heap.size w' w'') := fun w' h => checkAloneOf o' p' an ns cn w' (km.below h) kl kc
  have HS1 : Hid (∀ w', Below w.heap.size w w' → Calls Tryd.prog 62 #[.agg #[.int .i64 o, .int .i64 p, .slice am ms.length cm]] w' fun e w'' => e = .returned (.tuple #[.int .i64 (ob ms), .int .i64 (Dist.nb ms)]) ∧ Below w'.heap.size w' w'') := fun w' h => hunkSz o p am ms cm w' (hm.below h) hl
  have HS2 : Hid (∀ w', Below w.heap.size w w' → Calls Tryd.prog 62 #[.agg #[.int .i64 o', .int .i64 p', .slice an ns.length cn]] w' fun e w'' => e = .returned (.tuple #[.int .i64 (ob ns), .int .i64 (Dist.nb ns)]) ∧ Below w'.heap.size w' w'') := fun w' h => hunkSz o' p' an ns cn w' (km.below h) kl
  have EB1 : Hid ((hf [(o, p, ms)]).2 ≠ 0 → swE (o, p, ms) (o', p', ns) = (hf [(o, p, ms)]).2) := swE_h
  have EB2 : Hid ((hf [(o, p, ms)]).2 = 0 → (hf [(o', p', ns)]).2 ≠ 0 → swE (o, p, ms) (o', p', ns) = (hf [(o', p', ns)]).2) := swE_k
  have EC : Hid ((hf [(o, p, ms)]).2 = 0 → (hf [(o', p', ns)]).2 = 0 → ahd (o, p, ms) (o', p', ns) = bhd (o, p, ms) (o', p', ns) → swE (o, p, ms) (o', p', ns) = 6) := swE_c
  have EO : Hid ((hf [(o, p, ms)]).2 = 0 → (hf [(o', p', ns)]).2 = 0 → ahd (o, p, ms) (o', p', ns) ≠ bhd (o, p, ms) (o', p', ns) → swE (o, p, ms) (o', p', ns) = 0) := swE_ok
  have AB : Hid (swE (o, p, ms) (o', p', ns) ≠ 0 → swA (o, p, ms) (o', p', ns) = (0, 0)) := swA_bad
  have AA : Hid (swE (o, p, ms) (o', p', ns) = 0 → ahd (o, p, ms) (o', p', ns) = true → swA (o, p, ms) (o', p', ns) = (o + Dist.nb ns - ob ns, o')) := swA_a
  have AC : Hid (swE (o, p, ms) (o', p', ns) = 0 → ahd (o, p, ms) (o', p', ns) = false → swA (o, p, ms) (o', p', ns) = (o, o' + ob ms - Dist.nb ms)) := swA_b
  have N1 : Hid ((hf [(o, p, ms)]).2 = 0 → 0 ≤ o ∧ o ≤ 60 ∧ p = o ∧ ob ms ≤ 120 ∧ Dist.nb ms ≤ 120) := fun e => by
    obtain ⟨_, a1, a2, a3, a4, _⟩ := hf_one e
    have := ob_le ms; have := nb_le ms
    exact ⟨a1, a2, a3, by have a4 : ms.length ≤ 120 := a4; omega, by have a4 : ms.length ≤ 120 := a4; omega⟩
  have N2 : Hid ((hf [(o', p', ns)]).2 = 0 → 0 ≤ o' ∧ o' ≤ 60 ∧ p' = o' ∧ ob ns ≤ 120 ∧ Dist.nb ns ≤ 120) := fun e => by
    obtain ⟨_, a1, a2, a3, a4, _⟩ := hf_one e
    have := ob_le ns; have := nb_le ns
    exact ⟨a1, a2, a3, by have a4 : ns.length ≤ 120 := a4; omega, by have a4 : ns.length ≤ 120 := a4; omega⟩
  have HAH : Hid (ahd (o, p, ms) (o', p', ns) = decide (o' + (ob ns : Int) ≤ p)) := rfl
  have HBH : Hid (bhd (o, p, ms) (o', p', ns) = decide (p + (Dist.nb ms : Int) ≤ o')) := rfl
  obtain ⟨f1, hf1⟩ : ∃ f, (hf [(o, p, ms)]).2 = f := ⟨_, rfl⟩
  obtain ⟨f2, hf2⟩ : ∃ f, (hf [(o', p', ns)]).2 = f := ⟨_, rfl⟩
  obtain ⟨E, hE⟩ : ∃ f, swE (o, p, ms) (o', p', ns) = f := ⟨_, rfl⟩
  obtain ⟨A, hA⟩ : ∃ f, swA (o, p, ms) (o', p', ns) = f := ⟨_, rfl⟩
  obtain ⟨ba, hba⟩ : ∃ f, ahd (o, p, ms) (o', p', ns) = f := ⟨_, rfl⟩
  obtain ⟨bb, hbb⟩ : ∃ f, bhd (o, p, ms) (o', p', ns) = f := ⟨_, rfl⟩
  obtain ⟨q1, hq1⟩ : ∃ n, ms.length = n := ⟨_, rfl⟩
  obtain ⟨q2, hq2⟩ : ∃ n, ns.length = n := ⟨_, rfl⟩
  obtain ⟨oh, hoh⟩ : ∃ n, ob ms = n := ⟨_, rfl⟩
  obtain ⟨nh, hnh⟩ : ∃ n, Dist.nb ms = n := ⟨_, rfl⟩
  obtain ⟨ok, hok⟩ : ∃ n, ob ns = n := ⟨_, rfl⟩
  obtain ⟨nk, hnk⟩ : ∃ n, Dist.nb ns = n := ⟨_, rfl⟩
  rw [hf1] at HC1 EB1 EB2 EC EO N1
  rw [hf2] at HC2 EB2 EC EO N2
  rw [hE] at EB1 EB2 EC EO AB AA AC
  rw [hA] at AB AA AC
  rw [hba] at EC EO AA AC HAH
  rw [hbb] at EC EO HBH
  rw [hq1] at HC1 HS1
  rw [hq2] at HC2 HS2
  rw [hoh] at HS1 AC N1
  rw [hnh] at HS1 AC N1 HBH
  rw [hok] at HS2 AA N2 HAH
  rw [hnk] at HS2 AA N2
  rw [hE, hA, hq1, hq2]
  obtain ⟨B, hB⟩ : ∃ B, w.heap.size = B := ⟨_, rfl⟩
  have HB : Hid (w.heap.size = B) := hB
  have hqs := Hq.start hB o p am q1 cm o' p' an q2 cn
  rw [hB] at HC1 HC2 HS1 HS2 ⊢
  clear hm hl hc km kl kc hf1 hf2 hE hA hba hbb hq1 hq2 hoh hnh hok hnk hB
  go_enter Tryd.func38, Tryd.ntmps38
  go_upto_region 1 with fail
  rw [HB.out]
  generalize (w.alloc (.cells #[.int .i64 o, .int .i64 p, .slice am q1 cm] 40)).alloc (.cells #[.int .i64 o', .int .i64 p', .slice an q2 cn] 40) = W at hqs ⊢
  have HQ0 : Hid (Hq w W B o p am q1 cm o' p' an q2 cn) := hqs
  obtain ⟨x0, x1, x2⟩ := hqs.1.cells
  obtain ⟨y0, y1, y2⟩ := hqs.2.1.cells
  clear hqs
  go_wp2
  clear x0 x1 x2 y0 y1 y2
  go_loopw [19] (fun i w1 => ∃ k : Nat, k ≤ 2 ∧ i = .int .i64 k ∧ Hq w w1 B o p am q1 cm o' p' an q2 cn ∧ (0 < k → f1 = 0) ∧ (1 < k → f2 = 0)) (fun i _ => 2 - (intOf i).toNat)
  case atStart => exact ⟨0, by omega, rfl, HQ0.out, fun h => absurd h (by omega), fun h => absurd h (by omega)⟩
  case round =>
    obtain ⟨k, hk, rfl, hq, h1, h2⟩ := hrel
    have hp0 := fun a b c d e f w => pick_h a b c d e f w
    have hp1 := fun a b c d e f w => pick_k a b c d e f w
    rcases (show k = 0 ∨ k = 1 ∨ k = 2 by omega) with rfl | rfl | rfl
    · have hck := HC1.out _ (hq.below (below_alloc wr (.cells #[.int .i64 o, .int .i64 p, .slice am q1 cm] 40))).2.2
      have HQ1 : Hid (Hq w (wr.alloc (.cells #[.int .i64 o, .int .i64 p, .slice am q1 cm] 40)) B o p am q1 cm o' p' an q2 cn) := hq.below (below_alloc wr _)

      clear hq h1 h2
      by_cases e1 : f1 = 0
      · have Z : Hid (f1 = 0) := e1
        rw [e1, errV_zero] at hck
        clear e1
        go_wp2_with (go_at_call 58; refine hck.mono ?_)
        rintro e w2 ⟨rfl, hb2⟩
        have HQ2 : Hid (Hq w w2 B o p am q1 cm o' p' an q2 cn) := HQ1.out.below hb2
        clear hck hb2 HQ1
        go_wp2
        go_roundw
        case rel => exact ⟨1, by omega, by go_num, HQ2.out, fun _ => Z.out, fun h => absurd h (by omega)⟩
        case measure => simp [intOf]
      · have Z : Hid (f1 ≠ 0) := e1
        rw [errV_not e1] at hck
        clear e1
        go_wp2_with (go_at_call 58; refine hck.mono ?_)
        rintro e w2 ⟨rfl, hb2⟩
        have HQ2 : Hid (Hq w w2 B o p am q1 cm o' p' an q2 cn) := HQ1.out.below hb2
        clear hck hb2 HQ1
        go_wp2
        go_ret3
        refine ⟨?_, HQ2.out.2.2⟩
        have hE := EB1.out Z.out
        rw [AB.out (by rw [hE]; exact Z.out), hE, errV_not Z.out]; rfl
    · have hck := HC2.out _ (hq.below (below_alloc wr (.cells #[.int .i64 o', .int .i64 p', .slice an q2 cn] 40))).2.2
      have HQ1 : Hid (Hq w (wr.alloc (.cells #[.int .i64 o', .int .i64 p', .slice an q2 cn] 40)) B o p am q1 cm o' p' an q2 cn) := hq.below (below_alloc wr _)
      have H1 : Hid (f1 = 0) := h1 (by omega)
      clear hq h1 h2
      by_cases e1 : f2 = 0
      · have Z : Hid (f2 = 0) := e1
        rw [e1, errV_zero] at hck
        clear e1
        go_wp2_with (go_at_call 58; refine hck.mono ?_)
        rintro e w2 ⟨rfl, hb2⟩
        have HQ2 : Hid (Hq w w2 B o p am q1 cm o' p' an q2 cn) := HQ1.out.below hb2
        clear hck hb2 HQ1
        go_wp2
        go_roundw
        case rel => exact ⟨2, by omega, by go_num, HQ2.out, fun _ => H1.out, fun _ => Z.out⟩
        case measure => simp [intOf]
      · have Z : Hid (f2 ≠ 0) := e1
        rw [errV_not e1] at hck
        clear e1
        go_wp2_with (go_at_call 58; refine hck.mono ?_)
        rintro e w2 ⟨rfl, hb2⟩
        have HQ2 : Hid (Hq w w2 B o p am q1 cm o' p' an q2 cn) := HQ1.out.below hb2
        clear hck hb2 HQ1
        go_wp2
        go_ret3
        refine ⟨?_, HQ2.out.2.2⟩
        have hE := EB2.out H1.out Z.out
        rw [AB.out (by rw [hE]; exact Z.out), hE, errV_not Z.out]; rfl
    · have H1 : Hid (f1 = 0) := h1 (by omega)
      have H2 : Hid (f2 = 0) := h2 (by omega)
      have HQ1 : Hid (Hq w wr B o p am q1 cm o' p' an q2 cn) := hq
      obtain ⟨n1, n2, n3, n4, n5⟩ := N1.out H1.out
      obtain ⟨n6, n7, n8, n9, n10⟩ := N2.out H2.out
      have HP : Hid (p = o) := n3
      have HP' : Hid (p' = o') := n8
      have n11 : 0 ≤ p ∧ p ≤ 60 := by omega
      have hs1 := HS1.out wr hq.2.2
      obtain ⟨x0, x1, x2⟩ := hq.1.cells
      clear h1 h2 hq n3 n8 HS1 HC1 HC2
      go_wp2_with (go_at_call 62; refine hs1.mono ?_)
      rintro e w2 ⟨rfl, hb2⟩
      have hq2 := HQ1.out.below hb2
      have HQ2 : Hid (Hq w w2 B o p am q1 cm o' p' an q2 cn) := hq2
      have hs2 := HS2.out w2 hq2.2.2
      obtain ⟨y0, y1, y2⟩ := hq2.2.1.cells
      clear hs1 HS2 hq2 hb2 HQ1 x0 x1 x2
      go_wp2_with (go_at_call 62; refine hs2.mono ?_)
      rintro e w3 ⟨rfl, hb3⟩
      have hq3 := HQ2.out.below hb3
      have HQ3 : Hid (Hq w w3 B o p am q1 cm o' p' an q2 cn) := hq3
      obtain ⟨x0, x1, x2⟩ := hq3.1.cells
      obtain ⟨y0, y1, y2⟩ := hq3.2.1.cells
      clear hs2 hq3 hb3 HQ2
      by_cases cA : o' + (ok : Int) ≤ p
      · have ha : ba = true := by rw [HAH.out]; exact decide_eq_true cA
        by_cases cB : p + (nh : Int) ≤ o'
        · have hb : bb = true := by rw [HBH.out]; exact decide_eq_true cB
          have HE : Hid (E = 6) := EC.out H1.out H2.out (by rw [ha, hb])
          clear ha hb
          go_wp2
          go_ret3
          refine ⟨?_, HQ3.out.2.2⟩
          rw [AB.out (by rw [HE.out]; decide), HE.out]; rfl
        · have hb : bb = false := by rw [HBH.out]; exact decide_eq_false cB
          have HE : Hid (E = 0) := EO.out H1.out H2.out (by rw [ha, hb]; decide)
          have HA : Hid (A = (o + (nk : Int) - ok, o')) := AA.out HE.out ha
          clear ha hb
          go_wp2
          go_quiet (fail)
          go_wp2
          go_ret3
          refine ⟨?_, below_drawn HQ3.out.2.2⟩
          rw [HA.out, HE.out]; rfl
      · have ha : ba = false := by rw [HAH.out]; exact decide_eq_false cA
        by_cases cB : p + (nh : Int) ≤ o'
        · have hb : bb = true := by rw [HBH.out]; exact decide_eq_true cB
          have HE : Hid (E = 0) := EO.out H1.out H2.out (by rw [ha, hb]; decide)
          have HA : Hid (A = (o, o' + (oh : Int) - nh)) := AC.out HE.out ha
          clear ha hb
          go_wp2
          go_quiet (fail)
          go_wp2
          go_ret3
          refine ⟨?_, below_drawn HQ3.out.2.2⟩
          rw [HA.out, HE.out]; rfl
        · have hb : bb = false := by rw [HBH.out]; exact decide_eq_false cB
          have HE : Hid (E = 6) := EC.out H1.out H2.out (by rw [ha, hb])
          have hz : (decide (o' + (ok : Int) ≤ p) == decide (p + (nh : Int) ≤ o')) = true := by rw [decide_eq_false cA, decide_eq_false cB]; rfl
          clear ha hb
          go_wp2
          go_ret3
          refine ⟨?_, HQ3.out.2.2⟩
          rw [AB.out (by rw [HE.out]; decide), HE.out]; rfl

theorem Dist.swF_E {h k : Hk} (e : swE h k ≠ 0) : swF h k = swE h k := by
  by_cases e1 : (hf [h]).2 = 0
  · by_cases e2 : (hf [k]).2 = 0
    · by_cases e3 : ahd h k = bhd h k
      · rw [swF_c e1 e2 e3, swE_c e1 e2 e3]
      · exact absurd (swE_ok e1 e2 e3) e
    · rw [swF_k e1 e2, swE_k e1 e2]
  · rw [swF_h e1, swE_h e1]

theorem Dist.swE_zero {h k : Hk} (e : swE h k = 0) : (hf [h]).2 = 0 ∧ (hf [k]).2 = 0 ∧ ahd h k ≠ bhd h k := by
  by_cases e1 : (hf [h]).2 = 0
  · by_cases e2 : (hf [k]).2 = 0
    · by_cases e3 : ahd h k = bhd h k
      · rw [swE_c e1 e2 e3] at e; exact absurd e (by decide)
      · exact ⟨e1, e2, e3⟩
    · rw [swE_k e1 e2] at e; exact absurd e e2
  · rw [swE_h e1] at e; exact absurd e e1

theorem Dist.sw_places {h k : Hk} (e : swE h k = 0) : ((swA h k).2, (swA h k).2, k.2.2) = (swP h k).2 ∧ ((swA h k).1, (swA h k).1, h.2.2) = (swP h k).1 ∧ ((hf [(swP h k).2]).2 ≠ 0 → swF h k = (hf [(swP h k).2]).2) ∧ ((hf [(swP h k).2]).2 = 0 → swF h k = (hf [(swP h k).1]).2) := by
  obtain ⟨e1, e2, e3⟩ := swE_zero e
  obtain ⟨_, _, _, b1, _⟩ := hf_one e1
  obtain ⟨_, _, _, b2, _⟩ := hf_one e2
  have hF2 : (hf [(swP h k).2]).2 = 0 → swF h k = (hf [(swP h k).1]).2 := fun z => by
    by_cases z2 : (hf [(swP h k).1]).2 = 0
    · rw [swF_n e1 e2 e3 z2, z, z2]
    · exact swF_m e1 e2 e3 z2
  obtain ⟨o, p, ms⟩ := h
  obtain ⟨o', p', ns⟩ := k
  have b1 : p = o := b1
  have b2 : p' = o' := b2
  subst b1 b2
  cases ha : ahd (p, p, ms) (p', p', ns)
  · have hP : swP (p, p, ms) (p', p', ns) = ((p, p, ms), shf (p', p', ns) ((ob ms : Int) - nb ms)) := by unfold swP; rw [ha, if_neg (by decide)]
    rw [swA_b e ha] at *
    refine ⟨?_, ?_, fun z => ?_, hF2⟩
    · rw [hP]
      show ((p' + (ob ms : Int) - nb ms, p' + (ob ms : Int) - nb ms, ns) : Hk) = (p' + ((ob ms : Int) - nb ms), p' + ((ob ms : Int) - nb ms), ns)
      rw [Int.add_sub_assoc]
    · rw [hP]
    · exact swF_n e1 e2 e3 (by rw [hP]; exact e1)
  · have hP : swP (p, p, ms) (p', p', ns) = (shf (p, p, ms) ((nb ns : Int) - ob ns), (p', p', ns)) := by unfold swP; rw [ha, if_pos rfl]
    rw [swA_a e ha] at *
    refine ⟨?_, ?_, fun z => ?_, hF2⟩
    · rw [hP]
    · rw [hP]
      show ((p + (nb ns : Int) - ob ns, p + (nb ns : Int) - ob ns, ms) : Hk) = (p + ((nb ns : Int) - ob ns), p + ((nb ns : Int) - ob ns), ms)
      rw [Int.add_sub_assoc]
    · rw [hP] at z; exact absurd e2 z

/-- A struct of three cells in a block of its own; the four of Swap. -/
def Bzz (w : World) (g : Nat) (x y z : Value) : Prop := w.heap[g]? = some (.cells #[x, y, z] 40 (0, 0))
def Szz (w0 w : World) (B : Nat) (x y z x' y' z' a b c a' b' c' : Value) : Prop := Bzz w B x y z ∧ Bzz w (B + 1) x' y' z' ∧ Bzz w (B + 1 + 1) a b c ∧ Bzz w (B + 1 + 1 + 1) a' b' c' ∧ Below B w0 w

theorem Bzz.lt {w : World} {g : Nat} {x y z : Value} (hb : Bzz w g x y z) : g < w.heap.size := by
  by_cases e : g < w.heap.size
  · exact e
  · unfold Bzz at hb; rw [Array.getElem?_eq_none (by omega)] at hb; cases hb
theorem Bzz.cells {w : World} {g : Nat} {x y z : Value} (hb : Bzz w g x y z) : w.cell? ⟨g, 0, none⟩ = some x ∧ w.cell? ⟨g, 1, none⟩ = some y ∧ w.cell? ⟨g, 2, none⟩ = some z := by
  have c0 := Lib.cell_of_heap hb 0
  have c1 := Lib.cell_of_heap hb 1
  have c2 := Lib.cell_of_heap hb 2
  simp at c0 c1 c2
  exact ⟨c0, c1, c2⟩
theorem Bzz.frozen {w : World} {g : Nat} {x y z : Value} (hb : Bzz w g x y z) : w.frozen? ⟨g, 0, none⟩ = false ∧ w.frozen? ⟨g, 1, none⟩ = false ∧ w.frozen? ⟨g, 2, none⟩ = false :=
  ⟨Lib.frozen_of_heap hb 0, Lib.frozen_of_heap hb 1, Lib.frozen_of_heap hb 2⟩
theorem Bzz.below {w w' : World} {g : Nat} {x y z : Value} (hb : Bzz w g x y z) (hw : Below w.heap.size w w') : Bzz w' g x y z := blk_below hw hb.lt hb
theorem Bzz.own {w : World} {g : Nat} {x y z : Value} (hb : Bzz w g x y z) (a b c : Value) : Bzz (((w.setCell ⟨g, 0, none⟩ a).setCell ⟨g, 1, none⟩ b).setCell ⟨g, 2, none⟩ c) g a b c := by
  have := blk_set (i := 2) (blk_set (i := 1) (blk_set (i := 0) hb a) b) c
  unfold Bzz; simpa using this
theorem Bzz.other {w : World} {g k : Nat} {x y z : Value} (hb : Bzz w k x y z) (hne : k ≠ g) (a b c : Value) : Bzz (((w.setCell ⟨g, 0, none⟩ a).setCell ⟨g, 1, none⟩ b).setCell ⟨g, 2, none⟩ c) k x y z :=
  set_other _ hne (set_other _ hne (set_other _ hne hb))
theorem Szz.below {w0 w w' : World} {B : Nat} {x y z x' y' z' a b c a' b' c' : Value} (h : Szz w0 w B x y z x' y' z' a b c a' b' c') (hb : Below w.heap.size w w') : Szz w0 w' B x y z x' y' z' a b c a' b' c' :=
  ⟨h.1.below hb, h.2.1.below hb, h.2.2.1.below hb, h.2.2.2.1.below hb, h.2.2.2.2.trans (hb.mono (by have := h.1.lt; omega))⟩
theorem Szz.set2 {w0 w : World} {B : Nat} {x y z x' y' z' a b c a' b' c' : Value} (h : Szz w0 w B x y z x' y' z' a b c a' b' c') (u v t : Value) : Szz w0 (((w.setCell ⟨B + 1 + 1, 0, none⟩ u).setCell ⟨B + 1 + 1, 1, none⟩ v).setCell ⟨B + 1 + 1, 2, none⟩ t) B x y z x' y' z' u v t a' b' c' :=
  ⟨h.1.other (by omega) _ _ _, h.2.1.other (by omega) _ _ _, h.2.2.1.own _ _ _, h.2.2.2.1.other (by omega) _ _ _, ((h.2.2.2.2.setCell (p := ⟨B + 1 + 1, 0, none⟩) (by show B ≤ B + 1 + 1; omega) _).setCell (p := ⟨B + 1 + 1, 1, none⟩) (by show B ≤ B + 1 + 1; omega) _).setCell (p := ⟨B + 1 + 1, 2, none⟩) (by show B ≤ B + 1 + 1; omega) _⟩
theorem Szz.set3 {w0 w : World} {B : Nat} {x y z x' y' z' a b c a' b' c' : Value} (h : Szz w0 w B x y z x' y' z' a b c a' b' c') (u v t : Value) : Szz w0 (((w.setCell ⟨B + 1 + 1 + 1, 0, none⟩ u).setCell ⟨B + 1 + 1 + 1, 1, none⟩ v).setCell ⟨B + 1 + 1 + 1, 2, none⟩ t) B x y z x' y' z' a b c u v t :=
  ⟨h.1.other (by omega) _ _ _, h.2.1.other (by omega) _ _ _, h.2.2.1.other (by omega) _ _ _, h.2.2.2.1.own _ _ _, ((h.2.2.2.2.setCell (p := ⟨B + 1 + 1 + 1, 0, none⟩) (by show B ≤ B + 1 + 1 + 1; omega) _).setCell (p := ⟨B + 1 + 1 + 1, 1, none⟩) (by show B ≤ B + 1 + 1 + 1; omega) _).setCell (p := ⟨B + 1 + 1 + 1, 2, none⟩) (by show B ≤ B + 1 + 1 + 1; omega) _⟩
theorem Szz.drew {w0 w : World} {B : Nat} {x y z x' y' z' a b c a' b' c' : Value} (h : Szz w0 w B x y z x' y' z' a b c a' b' c') : Szz w0 w.drew B x y z x' y' z' a b c a' b' c' := h.below ⟨rfl, rfl, rfl, Nat.le_refl _, fun _ _ => rfl⟩

/-- What Swap answers. -/
def SwV (h k : Hk) (e : Ending) (w' : World) : Prop := ∃ x1 c1 x2 c2, e = .returned (.tuple #[.agg #[.int .i64 (swO h k).1.1, .int .i64 (swO h k).1.2.1, .slice x1 (swO h k).1.2.2.length c1], .agg #[.int .i64 (swO h k).2.1, .int .i64 (swO h k).2.2.1, .slice x2 (swO h k).2.2.2.length c2], errV (swF h k)]) ∧ Mks w' x1 (swO h k).1.2.2 ∧ Mks w' x2 (swO h k).2.2.2

theorem SwV.bad {h k : Hk} {f : Int} (e : swF h k = f) (hf : f ≠ 0) (w' : World) : SwV h k (.returned (.tuple #[.agg #[.int .i64 0, .int .i64 0, .slice none 0 0], .agg #[.int .i64 0, .int .i64 0, .slice none 0 0], .iface 45 (.int .i64 f)])) w' := by
  unfold SwV
  rw [swO_bad (by rw [e]; exact hf), e, errV_not hf]
  exact ⟨none, 0, none, 0, rfl, fun _ hi => absurd hi (Nat.not_lt_zero _), fun _ hi => absurd hi (Nat.not_lt_zero _)⟩

theorem SwV.ok {h k x y : Hk} (e : swF h k = 0) (e1 : (swP h k).1 = x) (e2 : (swP h k).2 = y) {o1 n1 o2 n2 : Int} {a1 a2 : Option Addr} {q1 c1 q2 c2 : Nat} (ex : x.1 = o1 ∧ x.2.1 = n1 ∧ x.2.2.length = q1) (ey : y.1 = o2 ∧ y.2.1 = n2 ∧ y.2.2.length = q2) {w' : World} (mx : Mks w' a1 x.2.2) (my : Mks w' a2 y.2.2) :
    SwV h k (.returned (.tuple #[.agg #[.int .i64 o2, .int .i64 n2, .slice a2 q2 c2], .agg #[.int .i64 o1, .int .i64 n1, .slice a1 q1 c1], .nilIface])) w' := by
  unfold SwV
  rw [swO_ok e, e, e1, e2]
  obtain ⟨rfl, rfl, rfl⟩ := ex
  obtain ⟨rfl, rfl, rfl⟩ := ey
  exact ⟨a2, c2, a1, c1, rfl, my, mx⟩

end Go.Proofs.YtnkdmgekpajfhaeDoor
