/-
  Plain mathematics: two patches, one behind the other or both to the same tree: the fault, the trees. Walks of algebra.doBoth, Join and Inter: two patches as one; what leads from the one to the other.
-/
import Derived.Test.YtnkdmgekpajfhadGreatDoorXd
import Derived.Test.YtnkdmgekpajfhadGreatDoorXw
import Derived.Test.YtnkdmgekpajfhadGreatDoorXn
import Derived.Test.YtnkdmgekpajfhadGreatDoorXu

namespace Go.Proofs.YtnkdmgekpajfhadGreatDoor
open Go.RowKit Dist

/-- The tree that the second patch is done to; the fault; both trees. -/
def bhT (t : List Fl) (p : List Ch) (ap : Bool) : List Fl := if ap = true then t else (apF t p).1
def bhF (t : List Fl) (p q : List Ch) (ap : Bool) (n : Int) : Int :=
  if (apF t p).2.2 ≠ 0 then (apF t p).2.2 else if (apF (bhT t p ap) q).2.2 ≠ 0 then (apF (bhT t p ap) q).2.2 else if n < 0 ∨ 1000 < n then 1 else 0
def bhB (t : List Fl) (p q : List Ch) (ap : Bool) (n : Int) : List Fl := if bhF t p q ap n = 0 then (apF t p).1 else []
def bhC (t : List Fl) (p q : List Ch) (ap : Bool) (n : Int) : List Fl := if bhF t p q ap n = 0 then (apF (bhT t p ap) q).1 else []

theorem bhF_one {t : List Fl} {p q : List Ch} {ap : Bool} {n : Int} (h : (apF t p).2.2 ≠ 0) : bhF t p q ap n = (apF t p).2.2 := by unfold bhF; rw [if_pos h]
theorem bhF_two {t : List Fl} {p q : List Ch} {ap : Bool} {n : Int} (h0 : (apF t p).2.2 = 0) (h : (apF (bhT t p ap) q).2.2 ≠ 0) : bhF t p q ap n = (apF (bhT t p ap) q).2.2 := by unfold bhF; rw [if_neg (fun e => e h0), if_pos h]
theorem bhF_num {t : List Fl} {p q : List Ch} {ap : Bool} {n : Int} (h0 : (apF t p).2.2 = 0) (h1 : (apF (bhT t p ap) q).2.2 = 0) : bhF t p q ap n = if n < 0 ∨ 1000 < n then 1 else 0 := by unfold bhF; rw [if_neg (fun e => e h0), if_neg (fun e => e h1)]
theorem bh_bad {t : List Fl} {p q : List Ch} {ap : Bool} {n : Int} (h : bhF t p q ap n ≠ 0) : bhB t p q ap n = [] ∧ bhC t p q ap n = [] := by unfold bhB bhC; rw [if_neg h, if_neg h]; exact ⟨rfl, rfl⟩
theorem bh_ok {t : List Fl} {p q : List Ch} {ap : Bool} {n : Int} (h : bhF t p q ap n = 0) : bhB t p q ap n = (apF t p).1 ∧ bhC t p q ap n = (apF (bhT t p ap) q).1 := by unfold bhB bhC; rw [if_pos h, if_pos h]; exact ⟨rfl, rfl⟩

theorem apF_tree {t : List Fl} {p : List Ch} (h : (apF t p).2.2 = 0) : (tf (apF t p).1).2 = 0 := by
  obtain ⟨h1, h2, h3, h4, h5⟩ := apF_zero h
  rw [h5]
  show (tf (apR t p 0).1).2 = 0
  rw [apR_tree h1 h2 h3 h4]

theorem tf_bounds {T : List Fl} (h : (tf T).2 = 0) : T.length ≤ maxLen ∧ (∀ x ∈ T, x.2.length ≤ maxLen) ∧ ∀ x ∈ T, ∀ s ∈ x.2, s.size ≤ maxLen := by
  obtain ⟨h1, _, h3⟩ := tf_zero h
  refine ⟨by unfold maxLen; omega, fun x hx => ?_, fun x hx s hs => ?_⟩
  · have := lsf_len (fOne_zero (h3 x hx)).2
    unfold maxLen; omega
  · have := (lf_zero ((lsf_zero (fOne_zero (h3 x hx)).2).2 s.data.toList (List.mem_map.2 ⟨s, hs, rfl⟩))).2
    rw [Lib.size_eq]; unfold maxLen; omega

/-- The fault of both done; the trees. -/
def dbF (t : List Fl) (p q : List Ch) (ap : Bool) : Int := if (apF t p).2.2 ≠ 0 then (apF t p).2.2 else (apF (bhT t p ap) q).2.2
def dbO (t : List Fl) (p q : List Ch) (ap : Bool) : List Fl := if dbF t p q ap = 0 then (apF t p).1 else []
def dbT (t : List Fl) (p q : List Ch) (ap : Bool) : List Fl := if dbF t p q ap = 0 then (apF (bhT t p ap) q).1 else []
theorem dbF_one {t : List Fl} {p q : List Ch} {ap : Bool} (h : (apF t p).2.2 ≠ 0) : dbF t p q ap = (apF t p).2.2 := by unfold dbF; rw [if_pos h]
theorem dbF_two {t : List Fl} {p q : List Ch} {ap : Bool} (h : (apF t p).2.2 = 0) : dbF t p q ap = (apF (bhT t p ap) q).2.2 := by unfold dbF; rw [if_neg (fun e => e h)]
theorem db_bad {t : List Fl} {p q : List Ch} {ap : Bool} (h : dbF t p q ap ≠ 0) : dbO t p q ap = [] ∧ dbT t p q ap = [] := by unfold dbO dbT; rw [if_neg h, if_neg h]; exact ⟨rfl, rfl⟩
theorem db_ok {t : List Fl} {p q : List Ch} {ap : Bool} (h : dbF t p q ap = 0) : dbO t p q ap = (apF t p).1 ∧ dbT t p q ap = (apF (bhT t p ap) q).1 := by unfold dbO dbT; rw [if_pos h, if_pos h]; exact ⟨rfl, rfl⟩
theorem db_parts {t : List Fl} {p q : List Ch} {ap : Bool} (h : dbF t p q ap = 0) : (apF t p).2.2 = 0 ∧ (apF (bhT t p ap) q).2.2 = 0 := by
  by_cases e : (apF t p).2.2 = 0
  · exact ⟨e, by rw [← dbF_two e]; exact h⟩
  · rw [dbF_one e] at h; exact absurd h e
theorem bhF_db {t : List Fl} {p q : List Ch} {ap : Bool} {n : Int} : bhF t p q ap n = if dbF t p q ap ≠ 0 then dbF t p q ap else if n < 0 ∨ 1000 < n then 1 else 0 := by
  by_cases e : (apF t p).2.2 = 0
  · rw [dbF_two e]
    by_cases e2 : (apF (bhT t p ap) q).2.2 = 0
    · rw [bhF_num e e2, e2, if_neg (show ¬ ((0 : Int) ≠ 0) by decide)]
    · rw [bhF_two e e2, if_pos e2]
  · rw [bhF_one e, dbF_one e, if_pos e]

/-- What leads from the one tree to the other; its fault. -/
def jnL (t : List Fl) (p q : List Ch) (ap : Bool) (n : Int) : List Ch := if bhF t p q ap n = 0 then dfP (if ap = true then (apF t p).1 else t) (apF (bhT t p ap) q).1 n.toNat else []

end Go.Proofs.YtnkdmgekpajfhadGreatDoor

namespace Go.Proofs.YtnkdmgekpajfhadGreatDoor
open Go.RowKit Go.Shelf Go.Lib Dist

set_option maxHeartbeats 400000 in
theorem joinOnto (v : Value) (w : World) : Calls Tryz.prog 42 #[v] w fun e w' => e = .returned v ∧ w' = w := by
  go_enter Tryz.func42, Tryz.ntmps42
  go_wp2
  go_ret
  exact ⟨rfl, rfl⟩

set_option maxHeartbeats 400000 in
theorem interOnto (v : Value) (T : Nat) (x : Value) (w : World) (hT : w.cell? ⟨T, 0, none⟩ = some x) : Calls Tryz.prog 45 #[v, .pointer (some ⟨T, 0, none⟩)] w fun e w' => e = .returned x ∧ w' = w := by
  go_enter Tryz.func45, Tryz.ntmps45
  go_wp2
  go_ret
  exact ⟨rfl, rfl⟩

set_option maxRecDepth 100000 in
set_option maxHeartbeats 2000000 in
theorem bothJoin (a : Option Addr) (t : List Fl) (ca : Nat) (b : Option Addr) (p : List Ch) (cb : Nat) (d : Option Addr) (q : List Ch) (cd : Nat) (w : World) (ha : Fls w a t) (hca : t.length ≤ ca) (hm : t.length ≤ maxLen) (hml : ∀ x ∈ t, x.2.length ≤ maxLen) (hb : Chs w b p) (gm : p.length ≤ maxLen) (gml : ∀ c ∈ p, c.2.2.length ≤ maxLen) (gms : ∀ c ∈ p, ∀ h ∈ c.2.2, h.2.2.length ≤ maxLen) (hd : Chs w d q) (km : q.length ≤ maxLen) (kml : ∀ c ∈ q, c.2.2.length ≤ maxLen) (kms : ∀ c ∈ q, ∀ h ∈ c.2.2, h.2.2.length ≤ maxLen) :
    Calls Tryz.prog 43 #[.slice a t.length ca, .slice b p.length cb, .slice d q.length cd, .func (.func 42) #[] #[]] w fun e w' => ∃ g c g2 c2, e = .returned (.tuple #[.slice g (dbO t p q false).length c, .slice g2 (dbT t p q false).length c2, errV (dbF t p q false)]) ∧ Fls w' g (dbO t p q false) ∧ (dbO t p q false).length ≤ c ∧ Fls w' g2 (dbT t p q false) ∧ (dbT t p q false).length ≤ c2 ∧ Below w.heap.size w w' := by
  have h1 := patchApply a t ca b p cb w ha hca hm hml hb gm gml gms
  have H2 : Hid (∀ w' g c, Below w.heap.size w w' → (apF t p).2.2 = 0 → Fls w' g (apF t p).1 → (apF t p).1.length ≤ c → Calls Tryz.prog 65 #[.slice g (apF t p).1.length c, .slice d q.length cd] w' fun e w'' => ∃ x y, e = .returned (.tuple #[.slice x (apF (bhT t p false) q).1.length y, .int .i64 (apF (bhT t p false) q).2.1, errV (apF (bhT t p false) q).2.2]) ∧ Below w'.heap.size w' w'' ∧ Fls w'' x (apF (bhT t p false) q).1 ∧ (apF (bhT t p false) q).1.length ≤ y) := fun w' g c h h0 hf hc => by
    obtain ⟨b1, b2, _⟩ := tf_bounds (apF_tree h0)
    exact patchApply g (apF t p).1 c d q cd w' hf hc b1 b2 (hd.below h) km kml kms
  have HON : Hid (∀ (w' : World) (v : Value), Calls Tryz.prog 42 #[v] w' fun e w'' => e = .returned v ∧ w'' = w') := fun w' v => joinOnto v w'
  have eg : ∀ args w, (callFunc 42 args).run Tryz.prog w = .ok (.enter 42 args) w := enters_of Tryz.func42 (by kernel_rfl) rfl
  have E1 : Hid ((apF t p).2.2 ≠ 0 → dbF t p q false = (apF t p).2.2) := dbF_one
  have E2 : Hid ((apF t p).2.2 = 0 → dbF t p q false = (apF (bhT t p false) q).2.2) := dbF_two
  have E3 : Hid (dbF t p q false ≠ 0 → dbO t p q false = [] ∧ dbT t p q false = []) := db_bad
  have E4 : Hid (dbF t p q false = 0 → dbO t p q false = (apF t p).1 ∧ dbT t p q false = (apF (bhT t p false) q).1) := db_ok
  obtain ⟨R1, hR1⟩ : ∃ R, apF t p = R := ⟨_, rfl⟩
  obtain ⟨R2, hR2⟩ : ∃ R, apF (bhT t p false) q = R := ⟨_, rfl⟩
  obtain ⟨F, hF⟩ : ∃ F, dbF t p q false = F := ⟨_, rfl⟩
  obtain ⟨X, hX⟩ : ∃ X, dbO t p q false = X := ⟨_, rfl⟩
  obtain ⟨Y, hY⟩ : ∃ Y, dbT t p q false = Y := ⟨_, rfl⟩
  rw [hR1] at h1 E1 E2 E4 H2
  rw [hR2] at H2 E2 E4
  rw [hF] at E1 E2 E3 E4
  rw [hX, hY] at E3 E4
  rw [hF, hX, hY]
  obtain ⟨nt, hnt⟩ : ∃ k, t.length = k := ⟨_, rfl⟩
  obtain ⟨np, hnp⟩ : ∃ k, p.length = k := ⟨_, rfl⟩
  obtain ⟨nq, hnq⟩ : ∃ k, q.length = k := ⟨_, rfl⟩
  rw [hnt, hnp] at h1
  rw [hnq] at H2
  
  rw [hnt, hnp, hnq]
  obtain ⟨f1, hf1⟩ : ∃ f, R1.2.2 = f := ⟨_, rfl⟩
  obtain ⟨i1, hi1⟩ : ∃ f, R1.2.1 = f := ⟨_, rfl⟩
  obtain ⟨n1, hn1⟩ : ∃ f, R1.1.length = f := ⟨_, rfl⟩
  obtain ⟨f2, hf2⟩ : ∃ f, R2.2.2 = f := ⟨_, rfl⟩
  obtain ⟨i2, hi2⟩ : ∃ f, R2.2.1 = f := ⟨_, rfl⟩
  obtain ⟨n2, hn2⟩ : ∃ f, R2.1.length = f := ⟨_, rfl⟩
  have HN1 : Hid (R1.1.length = n1) := hn1
  have HN2 : Hid (R2.1.length = n2) := hn2
  rw [hf1, hi1, hn1] at h1
  rw [hf2, hi2, hn2] at H2
  rw [hf1] at E1 E2
  rw [hf2] at E2
  rw [hf1, hn1] at H2
  clear ha hca hm hml hb gm gml gms hd km kml kms hR1 hR2 hF hX hY hnt hnp hnq hf1 hi1 hn1 hf2 hi2 hn2
  by_cases h0 : f1 = 0
  · have E5 : Hid (F = f2) := E2.out h0
    have K2 := fun (w' : World) (g : Option Addr) (c : Nat) h hf hc => H2.out w' g c h h0 hf hc
    clear E1 E2 H2
    subst h0
    rw [errV_zero] at h1
    go_enter Tryz.func43, Tryz.ntmps43
    go_wp2_with (go_at_call 65; refine h1.mono ?_)
    first | rintro e w1 x1 y1 rfl hb1 hf1 hc1 | rintro e w1 ⟨x1, y1, rfl, hb1, hf1, hc1⟩
    have hap := K2 w1 x1 y1 hb1 hf1 hc1
    have hon := HON.out w1 (.slice x1 n1 y1)
    have HB1 : Hid (Below w.heap.size w w1) := hb1
    have HF1 : Hid (Fls w1 x1 R1.1) := hf1
    have HC1 : Hid (n1 ≤ y1) := hc1
    clear h1 K2 HON hb1 hf1 hc1
    go_wp2_with (go_at_fn 42; refine hon.mono ?_; rintro e w' ⟨rfl, hw⟩; rw [hw]; clear hw hon)
    by_cases h2 : f2 = 0
    · have HF : Hid (F = 0) := by show F = 0; rw [E5.out]; exact h2
      obtain ⟨e3, e4⟩ := E4.out HF.out
      rw [h2, errV_zero] at hap
      have HX : Hid (X = R1.1) := e3
      have HY : Hid (Y = R2.1) := e4
      clear h2 E5 E3 E4 e3 e4
      go_wp2_with (go_at_call 65; refine hap.mono ?_)
      first | rintro e w2 x2 y2 rfl hb2 hf2 hc2 | rintro e w2 ⟨x2, y2, rfl, hb2, hf2, hc2⟩
      have HF2 : Hid (Fls w2 x2 R2.1) := hf2
      have HC2 : Hid (n2 ≤ y2) := hc2
      have HG1 : Hid (Fls w2 x1 R1.1) := HF1.out.below hb2
      have HB2 : Hid (Below w.heap.size w w2) := HB1.out.trans (hb2.mono HB1.out.size)
      clear hap hb2 hf2 hc2
      go_wp2
      go_ret3
      refine ⟨x1, y1, x2, y2, ?_, ?_, ?_, ?_, ?_, HB2.out⟩
      · rw [HX.out, HY.out, HF.out, HN1.out, HN2.out]; rfl
      · rw [HX.out]; exact HG1.out
      · rw [HX.out, HN1.out]; exact HC1.out
      · rw [HY.out]; exact HF2.out
      · rw [HY.out, HN2.out]; exact HC2.out
    · have HF : Hid (F = f2) := E5.out
      obtain ⟨e3, e4⟩ := E3.out (by rw [HF.out]; exact h2)
      rw [errV_not h2] at hap
      have HX : Hid (X = []) := e3
      have HY : Hid (Y = []) := e4
      have HNE : Hid (f2 ≠ 0) := h2
      clear h2 E5 E3 E4 e3 e4
      go_wp2_with (go_at_call 65; refine hap.mono ?_)
      first | rintro e w2 x2 y2 rfl hb2 hf2 hc2 | rintro e w2 ⟨x2, y2, rfl, hb2, hf2, hc2⟩
      have HB2 : Hid (Below w.heap.size w w2) := HB1.out.trans (hb2.mono HB1.out.size)
      clear hap hb2 hf2 hc2
      go_wp2
      go_ret3
      refine ⟨none, 0, none, 0, ?_, ?_, ?_, ?_, ?_, HB2.out⟩
      · rw [HX.out, HY.out, HF.out, errV_not HNE.out]; rfl
      · rw [HX.out]; exact Fls.nil _ _
      · rw [HX.out]; exact Nat.le_refl _
      · rw [HY.out]; exact Fls.nil _ _
      · rw [HY.out]; exact Nat.le_refl _
  · have HF : Hid (F = f1) := E1.out h0
    obtain ⟨e3, e4⟩ := E3.out (by rw [HF.out]; exact h0)
    rw [errV_not h0] at h1
    have HX : Hid (X = []) := e3
    have HY : Hid (Y = []) := e4
    have HNE : Hid (f1 ≠ 0) := h0
    clear h0 E1 E2 E3 E4 e3 e4 H2 HON
    go_enter Tryz.func43, Tryz.ntmps43
    go_wp2_with (go_at_call 65; refine h1.mono ?_)
    first | rintro e w1 x1 y1 rfl hb1 hf1 hc1 | rintro e w1 ⟨x1, y1, rfl, hb1, hf1, hc1⟩
    have HB1 : Hid (Below w.heap.size w w1) := hb1
    clear h1 hb1 hf1 hc1
    go_wp2
    go_ret3
    refine ⟨none, 0, none, 0, ?_, ?_, ?_, ?_, ?_, HB1.out⟩
    · rw [HX.out, HY.out, HF.out, errV_not HNE.out]; rfl
    · rw [HX.out]; exact Fls.nil _ _
    · rw [HX.out]; exact Nat.le_refl _
    · rw [HY.out]; exact Fls.nil _ _
    · rw [HY.out]; exact Nat.le_refl _

set_option maxRecDepth 100000 in
set_option maxHeartbeats 2000000 in
theorem bothInter (a : Option Addr) (t : List Fl) (ca : Nat) (b : Option Addr) (p : List Ch) (cb : Nat) (d : Option Addr) (q : List Ch) (cd : Nat) (T : Nat) (w : World) (ha : Fls w a t) (hca : t.length ≤ ca) (hm : t.length ≤ maxLen) (hml : ∀ x ∈ t, x.2.length ≤ maxLen) (hb : Chs w b p) (gm : p.length ≤ maxLen) (gml : ∀ c ∈ p, c.2.2.length ≤ maxLen) (gms : ∀ c ∈ p, ∀ h ∈ c.2.2, h.2.2.length ≤ maxLen) (hd : Chs w d q) (km : q.length ≤ maxLen) (kml : ∀ c ∈ q, c.2.2.length ≤ maxLen) (kms : ∀ c ∈ q, ∀ h ∈ c.2.2, h.2.2.length ≤ maxLen) (hT : w.cell? ⟨T, 0, none⟩ = some (.slice a t.length ca)) :
    Calls Tryz.prog 43 #[.slice a t.length ca, .slice b p.length cb, .slice d q.length cd, .func (.func 45) #[] #[.pointer (some ⟨T, 0, none⟩)]] w fun e w' => ∃ g c g2 c2, e = .returned (.tuple #[.slice g (dbO t p q true).length c, .slice g2 (dbT t p q true).length c2, errV (dbF t p q true)]) ∧ Fls w' g (dbO t p q true) ∧ (dbO t p q true).length ≤ c ∧ Fls w' g2 (dbT t p q true) ∧ (dbT t p q true).length ≤ c2 ∧ Below w.heap.size w w' := by
  have h1 := patchApply a t ca b p cb w ha hca hm hml hb gm gml gms
  have H2 : Hid (∀ w', Below w.heap.size w w' → Calls Tryz.prog 65 #[.slice a t.length ca, .slice d q.length cd] w' fun e w'' => ∃ x y, e = .returned (.tuple #[.slice x (apF (bhT t p true) q).1.length y, .int .i64 (apF (bhT t p true) q).2.1, errV (apF (bhT t p true) q).2.2]) ∧ Below w'.heap.size w' w'' ∧ Fls w'' x (apF (bhT t p true) q).1 ∧ (apF (bhT t p true) q).1.length ≤ y) := fun w' h => patchApply a t ca d q cd w' (ha.below h) hca hm hml (hd.below h) km kml kms
  have HON : Hid (∀ (w' : World) (v : Value), Below w.heap.size w w' → Calls Tryz.prog 45 #[v, .pointer (some ⟨T, 0, none⟩)] w' fun e w'' => e = .returned (.slice a t.length ca) ∧ w'' = w') := fun w' v h => interOnto v T _ w' (cell_later h hT)
  have eg : ∀ args w, (callFunc 45 args).run Tryz.prog w = .ok (.enter 45 args) w := enters_of Tryz.func45 (by kernel_rfl) rfl
  have E1 : Hid ((apF t p).2.2 ≠ 0 → dbF t p q true = (apF t p).2.2) := dbF_one
  have E2 : Hid ((apF t p).2.2 = 0 → dbF t p q true = (apF (bhT t p true) q).2.2) := dbF_two
  have E3 : Hid (dbF t p q true ≠ 0 → dbO t p q true = [] ∧ dbT t p q true = []) := db_bad
  have E4 : Hid (dbF t p q true = 0 → dbO t p q true = (apF t p).1 ∧ dbT t p q true = (apF (bhT t p true) q).1) := db_ok
  obtain ⟨R1, hR1⟩ : ∃ R, apF t p = R := ⟨_, rfl⟩
  obtain ⟨R2, hR2⟩ : ∃ R, apF (bhT t p true) q = R := ⟨_, rfl⟩
  obtain ⟨F, hF⟩ : ∃ F, dbF t p q true = F := ⟨_, rfl⟩
  obtain ⟨X, hX⟩ : ∃ X, dbO t p q true = X := ⟨_, rfl⟩
  obtain ⟨Y, hY⟩ : ∃ Y, dbT t p q true = Y := ⟨_, rfl⟩
  rw [hR1] at h1 E1 E2 E4
  rw [hR2] at H2 E2 E4
  rw [hF] at E1 E2 E3 E4
  rw [hX, hY] at E3 E4
  rw [hF, hX, hY]
  obtain ⟨nt, hnt⟩ : ∃ k, t.length = k := ⟨_, rfl⟩
  obtain ⟨np, hnp⟩ : ∃ k, p.length = k := ⟨_, rfl⟩
  obtain ⟨nq, hnq⟩ : ∃ k, q.length = k := ⟨_, rfl⟩
  rw [hnt, hnp] at h1
  rw [hnq] at H2
  rw [hnt] at H2 HON
  rw [hnt, hnp, hnq]
  obtain ⟨f1, hf1⟩ : ∃ f, R1.2.2 = f := ⟨_, rfl⟩
  obtain ⟨i1, hi1⟩ : ∃ f, R1.2.1 = f := ⟨_, rfl⟩
  obtain ⟨n1, hn1⟩ : ∃ f, R1.1.length = f := ⟨_, rfl⟩
  obtain ⟨f2, hf2⟩ : ∃ f, R2.2.2 = f := ⟨_, rfl⟩
  obtain ⟨i2, hi2⟩ : ∃ f, R2.2.1 = f := ⟨_, rfl⟩
  obtain ⟨n2, hn2⟩ : ∃ f, R2.1.length = f := ⟨_, rfl⟩
  have HN1 : Hid (R1.1.length = n1) := hn1
  have HN2 : Hid (R2.1.length = n2) := hn2
  rw [hf1, hi1, hn1] at h1
  rw [hf2, hi2, hn2] at H2
  rw [hf1] at E1 E2
  rw [hf2] at E2
  
  clear ha hca hm hml hb gm gml gms hd km kml kms hR1 hR2 hF hX hY hnt hnp hnq hf1 hi1 hn1 hf2 hi2 hn2 hT
  by_cases h0 : f1 = 0
  · have E5 : Hid (F = f2) := E2.out h0
    have K2 := fun (w' : World) h => H2.out w' h
    clear E1 E2 H2
    subst h0
    rw [errV_zero] at h1
    go_enter Tryz.func43, Tryz.ntmps43
    go_wp2_with (go_at_call 65; refine h1.mono ?_)
    first | rintro e w1 x1 y1 rfl hb1 hf1 hc1 | rintro e w1 ⟨x1, y1, rfl, hb1, hf1, hc1⟩
    have hap := K2 w1 hb1
    have hon := HON.out w1 (.slice x1 n1 y1) hb1
    have HB1 : Hid (Below w.heap.size w w1) := hb1
    have HF1 : Hid (Fls w1 x1 R1.1) := hf1
    have HC1 : Hid (n1 ≤ y1) := hc1
    clear h1 K2 HON hb1 hf1 hc1
    go_wp2_with (go_at_fn 45; refine hon.mono ?_; rintro e w' ⟨rfl, hw⟩; rw [hw]; clear hw hon)
    by_cases h2 : f2 = 0
    · have HF : Hid (F = 0) := by show F = 0; rw [E5.out]; exact h2
      obtain ⟨e3, e4⟩ := E4.out HF.out
      rw [h2, errV_zero] at hap
      have HX : Hid (X = R1.1) := e3
      have HY : Hid (Y = R2.1) := e4
      clear h2 E5 E3 E4 e3 e4
      go_wp2_with (go_at_call 65; refine hap.mono ?_)
      first | rintro e w2 x2 y2 rfl hb2 hf2 hc2 | rintro e w2 ⟨x2, y2, rfl, hb2, hf2, hc2⟩
      have HF2 : Hid (Fls w2 x2 R2.1) := hf2
      have HC2 : Hid (n2 ≤ y2) := hc2
      have HG1 : Hid (Fls w2 x1 R1.1) := HF1.out.below hb2
      have HB2 : Hid (Below w.heap.size w w2) := HB1.out.trans (hb2.mono HB1.out.size)
      clear hap hb2 hf2 hc2
      go_wp2
      go_ret3
      refine ⟨x1, y1, x2, y2, ?_, ?_, ?_, ?_, ?_, HB2.out⟩
      · rw [HX.out, HY.out, HF.out, HN1.out, HN2.out]; rfl
      · rw [HX.out]; exact HG1.out
      · rw [HX.out, HN1.out]; exact HC1.out
      · rw [HY.out]; exact HF2.out
      · rw [HY.out, HN2.out]; exact HC2.out
    · have HF : Hid (F = f2) := E5.out
      obtain ⟨e3, e4⟩ := E3.out (by rw [HF.out]; exact h2)
      rw [errV_not h2] at hap
      have HX : Hid (X = []) := e3
      have HY : Hid (Y = []) := e4
      have HNE : Hid (f2 ≠ 0) := h2
      clear h2 E5 E3 E4 e3 e4
      go_wp2_with (go_at_call 65; refine hap.mono ?_)
      first | rintro e w2 x2 y2 rfl hb2 hf2 hc2 | rintro e w2 ⟨x2, y2, rfl, hb2, hf2, hc2⟩
      have HB2 : Hid (Below w.heap.size w w2) := HB1.out.trans (hb2.mono HB1.out.size)
      clear hap hb2 hf2 hc2
      go_wp2
      go_ret3
      refine ⟨none, 0, none, 0, ?_, ?_, ?_, ?_, ?_, HB2.out⟩
      · rw [HX.out, HY.out, HF.out, errV_not HNE.out]; rfl
      · rw [HX.out]; exact Fls.nil _ _
      · rw [HX.out]; exact Nat.le_refl _
      · rw [HY.out]; exact Fls.nil _ _
      · rw [HY.out]; exact Nat.le_refl _
  · have HF : Hid (F = f1) := E1.out h0
    obtain ⟨e3, e4⟩ := E3.out (by rw [HF.out]; exact h0)
    rw [errV_not h0] at h1
    have HX : Hid (X = []) := e3
    have HY : Hid (Y = []) := e4
    have HNE : Hid (f1 ≠ 0) := h0
    clear h0 E1 E2 E3 E4 e3 e4 H2 HON
    go_enter Tryz.func43, Tryz.ntmps43
    go_wp2_with (go_at_call 65; refine h1.mono ?_)
    first | rintro e w1 x1 y1 rfl hb1 hf1 hc1 | rintro e w1 ⟨x1, y1, rfl, hb1, hf1, hc1⟩
    have HB1 : Hid (Below w.heap.size w w1) := hb1
    clear h1 hb1 hf1 hc1
    go_wp2
    go_ret3
    refine ⟨none, 0, none, 0, ?_, ?_, ?_, ?_, ?_, HB1.out⟩
    · rw [HX.out, HY.out, HF.out, errV_not HNE.out]; rfl
    · rw [HX.out]; exact Fls.nil _ _
    · rw [HX.out]; exact Nat.le_refl _
    · rw [HY.out]; exact Fls.nil _ _
    · rw [HY.out]; exact Nat.le_refl _

set_option maxRecDepth 100000 in
set_option maxHeartbeats 4000000 in
theorem joinOfA (a : Option Addr) (t : List Fl) (ca : Nat) (b : Option Addr) (p : List Ch) (cb : Nat) (d : Option Addr) (q : List Ch) (cd : Nat) (n : Int) (w : World) (ha : Fls w a t) (hca : t.length ≤ ca) (hm : t.length ≤ maxLen) (hml : ∀ x ∈ t, x.2.length ≤ maxLen) (hb : Chs w b p) (gm : p.length ≤ maxLen) (gml : ∀ c ∈ p, c.2.2.length ≤ maxLen) (gms : ∀ c ∈ p, ∀ h ∈ c.2.2, h.2.2.length ≤ maxLen) (hd : Chs w d q) (km : q.length ≤ maxLen) (kml : ∀ c ∈ q, c.2.2.length ≤ maxLen) (kms : ∀ c ∈ q, ∀ h ∈ c.2.2, h.2.2.length ≤ maxLen) :
    Calls Tryz.prog 15 #[.slice a t.length ca, .slice b p.length cb, .slice d q.length cd, .int .i64 n] w fun e w' => ∃ x c ev, e = .returned (.tuple #[.slice x (jnL t p q false n).length c, ev]) ∧ Chs w' x (jnL t p q false n) ∧ (jnL t p q false n).length ≤ c ∧ Erd w' ev (bhF t p q false n) ∧ Below w.heap.size w w' := by
  have hbo := bothJoin a t ca b p cb d q cd w ha hca hm hml hb gm gml gms hd km kml kms
  have HBH := bhF_db (t := t) (p := p) (q := q) (ap := false) (n := n)
  by_cases h0 : dbF t p q false = 0
  · obtain ⟨d1, d2⟩ := db_parts h0
    have t1 := (apF_zero d1).1
    have t2 := apF_tree d2
    obtain ⟨b1, b2, _⟩ := tf_bounds t1
    obtain ⟨c1, k2, _⟩ := tf_bounds t2
    rw [h0, errV_zero, (db_ok h0).1, (db_ok h0).2] at hbo
    rw [h0, if_neg (show ¬ ((0 : Int) ≠ 0) by decide)] at HBH
    by_cases hn : n < 0 ∨ 1000 < n
    · rw [if_pos hn] at HBH
      have HL : Hid (jnL t p q false n = []) := by show jnL t p q false n = []; unfold jnL; rw [HBH, if_neg (by decide)]
      have HF : Hid (bhF t p q false n = 1) := HBH
      have hne : nz (dfs t (apF (bhT t p false) q).1 n) ≠ [] := fun e => by have := nz_dfs.1 e; omega
      obtain ⟨_, r, hr⟩ := nz_first hne
      have hdf : df1 t (apF (bhT t p false) q).1 n = 1 := by unfold df1; rw [t1, t2, if_pos hn]; simp
      rw [hdf] at hr
      have HD : Hid (∀ w' g2 c2, Below w.heap.size w w' → Fls w' g2 (apF (bhT t p false) q).1 → Calls Tryz.prog 44 #[.slice a t.length ca, .slice g2 (apF (bhT t p false) q).1.length c2, .int .i64 n] w' fun e w'' => ∃ J g k c, e = .returned (.tuple #[.slice none 0 0, .iface 205 (.pointer (some ⟨J, 0, none⟩))]) ∧ Below w'.heap.size w' w'' ∧ w''.cell? ⟨J, 0, none⟩ = some (.slice (some ⟨g, 0, none⟩) k c) ∧ 0 < k ∧ w''.cell? ⟨g, 0, none⟩ = some (.iface 23 (.int .i64 1))) := fun w' g2 c2 h h2 => (diff_bad a g2 _ _ ca c2 n w' (ha.below h) h2 b1 b2 c1 k2 hne).mono fun e w'' ⟨J, v, B, he, hb, hc, ho⟩ => by
        rw [hr] at ho
        obtain ⟨g, k, c, rfl, hk, hg⟩ := join_cells (by decide) ho
        exact ⟨J, g, k, c, he, hb, hc, hk, hg⟩
      obtain ⟨X1, hX1⟩ : ∃ X, (apF t p).1 = X := ⟨_, rfl⟩
      obtain ⟨X2, hX2⟩ : ∃ X, (apF (bhT t p false) q).1 = X := ⟨_, rfl⟩
      rw [hX1, hX2] at hbo
      rw [hX2] at HD
      obtain ⟨nt, hnt⟩ : ∃ k, t.length = k := ⟨_, rfl⟩
      obtain ⟨np, hnp⟩ : ∃ k, p.length = k := ⟨_, rfl⟩
      obtain ⟨nq, hnq⟩ : ∃ k, q.length = k := ⟨_, rfl⟩
      obtain ⟨n1, hn1⟩ : ∃ k, X1.length = k := ⟨_, rfl⟩
      obtain ⟨n2, hn2⟩ : ∃ k, X2.length = k := ⟨_, rfl⟩
      rw [hnt, hnp, hnq, hn1, hn2] at hbo
      rw [hnt, hn2] at HD
      rw [hnt, hnp, hnq]
      clear ha hca hm hml hb gm gml gms hd km kml kms d1 d2 t1 t2 b1 b2 c1 k2 hne hr hdf hn HBH h0 hX1 hX2 hnt hnp hnq hn1 hn2
      go_enter Tryz.func15, Tryz.ntmps15
      go_wp2_with (go_at_call 43; refine hbo.mono ?_)
      first | rintro e w1 x1 y1 x2 y2 rfl hf1 hc1 hf2 hc2 hb1 | rintro e w1 ⟨x1, y1, x2, y2, rfl, hf1, hc1, hf2, hc2, hb1⟩
      have hb1 := hb1
      have HB1 : Hid (Below w.heap.size w w1) := hb1
      have hdd := HD.out w1 x2 y2 hb1 hf2
      clear hbo HD hb1 hf1 hc1 hf2 hc2
      go_wp2_with (go_at_call 44; refine hdd.mono ?_)
      first | rintro e w2 J g k c rfl hb2 q1 q2 q3 | rintro e w2 ⟨J, g, k, c, rfl, hb2, q1, q2, q3⟩
      have HB2 : Hid (Below w.heap.size w w2) := HB1.out.trans (hb2.mono HB1.out.size)
      have HE : Hid (Erd w2 (.iface 205 (.pointer (some ⟨J, 0, none⟩))) 1) := .inr (.inr ⟨by decide, J, g, k, c, rfl, q1, q2, q3⟩)
      clear hdd hb2 q1 q2 q3
      go_wp2
      go_ret2
      refine ⟨none, 0, .iface 205 (.pointer (some ⟨J, 0, none⟩)), ?_, ?_, ?_, ?_, HB2.out⟩
      · rw [HL.out]; rfl
      · rw [HL.out]; exact Chs.nil _ _
      · rw [HL.out]; exact Nat.le_refl _
      · rw [HF.out]; exact HE.out
    · rw [if_neg hn] at HBH
      obtain ⟨N, rfl⟩ := Int.eq_ofNat_of_zero_le (show 0 ≤ n by omega)
      have hN : N ≤ 1000 := by omega
      have HL : Hid (jnL t p q false (N : Int) = dfP t (apF (bhT t p false) q).1 N) := by show jnL t p q false (N : Int) = _; unfold jnL; rw [HBH, if_pos rfl]; simp
      have HF : Hid (bhF t p q false (N : Int) = 0) := HBH
      have HD : Hid (∀ w' g2 c2, Below w.heap.size w w' → Fls w' g2 (apF (bhT t p false) q).1 → (apF (bhT t p false) q).1.length ≤ c2 → Calls Tryz.prog 44 #[.slice a t.length ca, .slice g2 (apF (bhT t p false) q).1.length c2, .int .i64 N] w' fun e w'' => ∃ x y, e = .returned (.tuple #[.slice x (dfP t (apF (bhT t p false) q).1 N).length y, .nilIface]) ∧ Below w'.heap.size w' w'' ∧ Chs w'' x (dfP t (apF (bhT t p false) q).1 N) ∧ (dfP t (apF (bhT t p false) q).1 N).length ≤ y) := fun w' g2 c2 h h2 l2 => diff_ok a g2 _ _ ca c2 N w' (ha.below h) h2 hca l2 t1 t2 hN
      obtain ⟨P, hP⟩ : ∃ P, dfP t (apF (bhT t p false) q).1 N = P := ⟨_, rfl⟩
      rw [hP] at HD HL
      obtain ⟨nP, hnP⟩ : ∃ k, P.length = k := ⟨_, rfl⟩
      have HNP : Hid (P.length = nP) := hnP
      rw [hnP] at HD
      obtain ⟨X1, hX1⟩ : ∃ X, (apF t p).1 = X := ⟨_, rfl⟩
      obtain ⟨X2, hX2⟩ : ∃ X, (apF (bhT t p false) q).1 = X := ⟨_, rfl⟩
      rw [hX1, hX2] at hbo
      rw [hX2] at HD
      obtain ⟨nt, hnt⟩ : ∃ k, t.length = k := ⟨_, rfl⟩
      obtain ⟨np, hnp⟩ : ∃ k, p.length = k := ⟨_, rfl⟩
      obtain ⟨nq, hnq⟩ : ∃ k, q.length = k := ⟨_, rfl⟩
      obtain ⟨n1, hn1⟩ : ∃ k, X1.length = k := ⟨_, rfl⟩
      obtain ⟨n2, hn2⟩ : ∃ k, X2.length = k := ⟨_, rfl⟩
      rw [hnt, hnp, hnq, hn1, hn2] at hbo
      rw [hnt, hn2] at HD
      rw [hnt, hnp, hnq]
      clear ha hca hm hml hb gm gml gms hd km kml kms d1 d2 t1 t2 b1 b2 c1 k2 hN hn HBH h0 hX1 hX2 hnt hnp hnq hn1 hn2 hP hnP
      go_enter Tryz.func15, Tryz.ntmps15
      go_wp2_with (go_at_call 43; refine hbo.mono ?_)
      first | rintro e w1 x1 y1 x2 y2 rfl hf1 hc1 hf2 hc2 hb1 | rintro e w1 ⟨x1, y1, x2, y2, rfl, hf1, hc1, hf2, hc2, hb1⟩
      have hb1 := hb1
      have HB1 : Hid (Below w.heap.size w w1) := hb1
      have hdd := HD.out w1 x2 y2 hb1 hf2 hc2
      clear hbo HD hb1 hf1 hc1 hf2 hc2
      go_wp2_with (go_at_call 44; refine hdd.mono ?_)
      first | rintro e w2 x y rfl hb2 q1 q2 | rintro e w2 ⟨x, y, rfl, hb2, q1, q2⟩
      have HB2 : Hid (Below w.heap.size w w2) := HB1.out.trans (hb2.mono HB1.out.size)
      have HC : Hid (Chs w2 x P) := q1
      have HCP : Hid (nP ≤ y) := q2
      clear hdd hb2 q1 q2
      go_wp2
      go_ret2
      refine ⟨x, y, .nilIface, ?_, ?_, ?_, ?_, HB2.out⟩
      · rw [HL.out, HNP.out]; rfl
      · rw [HL.out]; exact HC.out
      · rw [HL.out, HNP.out]; exact HCP.out
      · rw [HF.out]; exact Erd.zero _
  · have hbd := db_bad h0
    rw [hbd.1, hbd.2, errV_not h0] at hbo
    rw [if_pos h0] at HBH
    have HL : Hid (jnL t p q false n = []) := by show jnL t p q false n = []; unfold jnL; rw [HBH, if_neg h0]
    have HF : Hid (bhF t p q false n = dbF t p q false) := HBH
    obtain ⟨f, hf⟩ : ∃ f, dbF t p q false = f := ⟨_, rfl⟩
    rw [hf] at hbo HF h0
    have H0 : Hid (f ≠ 0) := h0
    obtain ⟨nt, hnt⟩ : ∃ k, t.length = k := ⟨_, rfl⟩
    obtain ⟨np, hnp⟩ : ∃ k, p.length = k := ⟨_, rfl⟩
    obtain ⟨nq, hnq⟩ : ∃ k, q.length = k := ⟨_, rfl⟩
    rw [hnt, hnp, hnq] at hbo
    skip
    rw [hnt, hnp, hnq]
    clear ha hca hm hml hb gm gml gms hd km kml kms HBH h0 hbd hf hnt hnp hnq
    go_enter Tryz.func15, Tryz.ntmps15
    go_wp2_with (go_at_call 43; refine hbo.mono ?_)
    first | rintro e w1 x1 y1 x2 y2 rfl hf1 hc1 hf2 hc2 hb1 | rintro e w1 ⟨x1, y1, x2, y2, rfl, hf1, hc1, hf2, hc2, hb1⟩
    have hb1 := hb1
    have HB1 : Hid (Below w.heap.size w w1) := hb1
    clear hbo hb1 hf1 hc1 hf2 hc2
    go_wp2
    go_ret2
    refine ⟨none, 0, .iface 23 (.int .i64 f), ?_, ?_, ?_, ?_, HB1.out⟩
    · rw [HL.out]; rfl
    · rw [HL.out]; exact Chs.nil _ _
    · rw [HL.out]; exact Nat.le_refl _
    · rw [HF.out]; exact .inr (.inl ⟨H0.out, rfl⟩)

set_option maxRecDepth 100000 in
set_option maxHeartbeats 4000000 in
theorem interOfA (a : Option Addr) (t : List Fl) (ca : Nat) (b : Option Addr) (p : List Ch) (cb : Nat) (d : Option Addr) (q : List Ch) (cd : Nat) (n : Int) (w : World) (ha : Fls w a t) (hca : t.length ≤ ca) (hm : t.length ≤ maxLen) (hml : ∀ x ∈ t, x.2.length ≤ maxLen) (hb : Chs w b p) (gm : p.length ≤ maxLen) (gml : ∀ c ∈ p, c.2.2.length ≤ maxLen) (gms : ∀ c ∈ p, ∀ h ∈ c.2.2, h.2.2.length ≤ maxLen) (hd : Chs w d q) (km : q.length ≤ maxLen) (kml : ∀ c ∈ q, c.2.2.length ≤ maxLen) (kms : ∀ c ∈ q, ∀ h ∈ c.2.2, h.2.2.length ≤ maxLen) :
    Calls Tryz.prog 16 #[.slice a t.length ca, .slice b p.length cb, .slice d q.length cd, .int .i64 n] w fun e w' => ∃ x c ev, e = .returned (.tuple #[.slice x (jnL t p q true n).length c, ev]) ∧ Chs w' x (jnL t p q true n) ∧ (jnL t p q true n).length ≤ c ∧ Erd w' ev (bhF t p q true n) ∧ Below w.heap.size w w' := by
  have hb0 := below_alloc w (.cells #[.slice a t.length ca] 41)
  have hT0 := Lib.cell_of_heap (heap_alloc_new w (.cells #[.slice a t.length ca] 41)) 0
  simp only [List.getElem?_toArray, List.getElem?_cons_zero] at hT0
  have hbo := bothInter a t ca b p cb d q cd w.heap.size (w.alloc (.cells #[.slice a t.length ca] 41)) (ha.below hb0) hca hm hml (hb.below hb0) gm gml gms (hd.below hb0) km kml kms hT0
  have HB0 : Hid (Below w.heap.size w (w.alloc (.cells #[.slice a t.length ca] 41))) := hb0
  have hmf : ∀ (fn : Fn) (first cap : Array Value) (w : World), (Instr.makeFunc fn first cap).run Tryz.prog w = .ok (.func fn first cap) w := fun _ _ _ _ => rfl
  have HBH := bhF_db (t := t) (p := p) (q := q) (ap := true) (n := n)
  by_cases h0 : dbF t p q true = 0
  · obtain ⟨d1, d2⟩ := db_parts h0
    have t1 := apF_tree d1
    have t2 := apF_tree d2
    obtain ⟨b1, b2, _⟩ := tf_bounds t1
    obtain ⟨c1, k2, _⟩ := tf_bounds t2
    rw [h0, errV_zero, (db_ok h0).1, (db_ok h0).2] at hbo
    rw [h0, if_neg (show ¬ ((0 : Int) ≠ 0) by decide)] at HBH
    by_cases hn : n < 0 ∨ 1000 < n
    · rw [if_pos hn] at HBH
      have HL : Hid (jnL t p q true n = []) := by show jnL t p q true n = []; unfold jnL; rw [HBH, if_neg (by decide)]
      have HF : Hid (bhF t p q true n = 1) := HBH
      have hne : nz (dfs (apF t p).1 (apF (bhT t p true) q).1 n) ≠ [] := fun e => by have := nz_dfs.1 e; omega
      obtain ⟨_, r, hr⟩ := nz_first hne
      have hdf : df1 (apF t p).1 (apF (bhT t p true) q).1 n = 1 := by unfold df1; rw [t1, t2, if_pos hn]; simp
      rw [hdf] at hr
      have HD : Hid (∀ w' g c g2 c2, Below w.heap.size w w' → Fls w' g (apF t p).1 → Fls w' g2 (apF (bhT t p true) q).1 → Calls Tryz.prog 44 #[.slice g (apF t p).1.length c, .slice g2 (apF (bhT t p true) q).1.length c2, .int .i64 n] w' fun e w'' => ∃ J g k c, e = .returned (.tuple #[.slice none 0 0, .iface 205 (.pointer (some ⟨J, 0, none⟩))]) ∧ Below w'.heap.size w' w'' ∧ w''.cell? ⟨J, 0, none⟩ = some (.slice (some ⟨g, 0, none⟩) k c) ∧ 0 < k ∧ w''.cell? ⟨g, 0, none⟩ = some (.iface 23 (.int .i64 1))) := fun w' g c g2 c2 h h1 h2 => (diff_bad g g2 _ _ c c2 n w' h1 h2 b1 b2 c1 k2 hne).mono fun e w'' ⟨J, v, B, he, hb, hc, ho⟩ => by
        rw [hr] at ho
        obtain ⟨g, k, c, rfl, hk, hg⟩ := join_cells (by decide) ho
        exact ⟨J, g, k, c, he, hb, hc, hk, hg⟩
      obtain ⟨X1, hX1⟩ : ∃ X, (apF t p).1 = X := ⟨_, rfl⟩
      obtain ⟨X2, hX2⟩ : ∃ X, (apF (bhT t p true) q).1 = X := ⟨_, rfl⟩
      rw [hX1, hX2] at hbo
      rw [hX1, hX2] at HD
      obtain ⟨nt, hnt⟩ : ∃ k, t.length = k := ⟨_, rfl⟩
      obtain ⟨np, hnp⟩ : ∃ k, p.length = k := ⟨_, rfl⟩
      obtain ⟨nq, hnq⟩ : ∃ k, q.length = k := ⟨_, rfl⟩
      obtain ⟨n1, hn1⟩ : ∃ k, X1.length = k := ⟨_, rfl⟩
      obtain ⟨n2, hn2⟩ : ∃ k, X2.length = k := ⟨_, rfl⟩
      rw [hnt, hnp, hnq, hn1, hn2] at hbo
      rw [hn1, hn2] at HD
      rw [hnt] at HB0
      rw [hnt, hnp, hnq]
      clear ha hca hm hml hb gm gml gms hd km kml kms hb0 hT0 d1 d2 t1 t2 b1 b2 c1 k2 hne hr hdf hn HBH h0 hX1 hX2 hnt hnp hnq hn1 hn2
      go_enter Tryz.func16, Tryz.ntmps16
      go_wp2_with (go_at_call 43; refine hbo.mono ?_)
      first | rintro e w1 x1 y1 x2 y2 rfl hf1 hc1 hf2 hc2 hb1 | rintro e w1 ⟨x1, y1, x2, y2, rfl, hf1, hc1, hf2, hc2, hb1⟩
      have hb1 := HB0.out.trans (hb1.mono HB0.out.size)
      have HB1 : Hid (Below w.heap.size w w1) := hb1
      have hdd := HD.out w1 x1 y1 x2 y2 hb1 hf1 hf2
      clear hbo HD hb1 hf1 hc1 hf2 hc2 HB0 hmf
      go_wp2_with (go_at_call 44; refine hdd.mono ?_)
      first | rintro e w2 J g k c rfl hb2 q1 q2 q3 | rintro e w2 ⟨J, g, k, c, rfl, hb2, q1, q2, q3⟩
      have HB2 : Hid (Below w.heap.size w w2) := HB1.out.trans (hb2.mono HB1.out.size)
      have HE : Hid (Erd w2 (.iface 205 (.pointer (some ⟨J, 0, none⟩))) 1) := .inr (.inr ⟨by decide, J, g, k, c, rfl, q1, q2, q3⟩)
      clear hdd hb2 q1 q2 q3
      go_wp2
      go_ret2
      refine ⟨none, 0, .iface 205 (.pointer (some ⟨J, 0, none⟩)), ?_, ?_, ?_, ?_, HB2.out⟩
      · rw [HL.out]; rfl
      · rw [HL.out]; exact Chs.nil _ _
      · rw [HL.out]; exact Nat.le_refl _
      · rw [HF.out]; exact HE.out
    · rw [if_neg hn] at HBH
      obtain ⟨N, rfl⟩ := Int.eq_ofNat_of_zero_le (show 0 ≤ n by omega)
      have hN : N ≤ 1000 := by omega
      have HL : Hid (jnL t p q true (N : Int) = dfP (apF t p).1 (apF (bhT t p true) q).1 N) := by show jnL t p q true (N : Int) = _; unfold jnL; rw [HBH, if_pos rfl]; simp
      have HF : Hid (bhF t p q true (N : Int) = 0) := HBH
      have HD : Hid (∀ w' g c g2 c2, Below w.heap.size w w' → Fls w' g (apF t p).1 → (apF t p).1.length ≤ c → Fls w' g2 (apF (bhT t p true) q).1 → (apF (bhT t p true) q).1.length ≤ c2 → Calls Tryz.prog 44 #[.slice g (apF t p).1.length c, .slice g2 (apF (bhT t p true) q).1.length c2, .int .i64 N] w' fun e w'' => ∃ x y, e = .returned (.tuple #[.slice x (dfP (apF t p).1 (apF (bhT t p true) q).1 N).length y, .nilIface]) ∧ Below w'.heap.size w' w'' ∧ Chs w'' x (dfP (apF t p).1 (apF (bhT t p true) q).1 N) ∧ (dfP (apF t p).1 (apF (bhT t p true) q).1 N).length ≤ y) := fun w' g c g2 c2 h h1 l1 h2 l2 => diff_ok g g2 _ _ c c2 N w' h1 h2 l1 l2 t1 t2 hN
      obtain ⟨P, hP⟩ : ∃ P, dfP (apF t p).1 (apF (bhT t p true) q).1 N = P := ⟨_, rfl⟩
      rw [hP] at HD HL
      obtain ⟨nP, hnP⟩ : ∃ k, P.length = k := ⟨_, rfl⟩
      have HNP : Hid (P.length = nP) := hnP
      rw [hnP] at HD
      obtain ⟨X1, hX1⟩ : ∃ X, (apF t p).1 = X := ⟨_, rfl⟩
      obtain ⟨X2, hX2⟩ : ∃ X, (apF (bhT t p true) q).1 = X := ⟨_, rfl⟩
      rw [hX1, hX2] at hbo
      rw [hX1, hX2] at HD
      obtain ⟨nt, hnt⟩ : ∃ k, t.length = k := ⟨_, rfl⟩
      obtain ⟨np, hnp⟩ : ∃ k, p.length = k := ⟨_, rfl⟩
      obtain ⟨nq, hnq⟩ : ∃ k, q.length = k := ⟨_, rfl⟩
      obtain ⟨n1, hn1⟩ : ∃ k, X1.length = k := ⟨_, rfl⟩
      obtain ⟨n2, hn2⟩ : ∃ k, X2.length = k := ⟨_, rfl⟩
      rw [hnt, hnp, hnq, hn1, hn2] at hbo
      rw [hn1, hn2] at HD
      rw [hnt] at HB0
      rw [hnt, hnp, hnq]
      clear ha hca hm hml hb gm gml gms hd km kml kms hb0 hT0 d1 d2 t1 t2 b1 b2 c1 k2 hN hn HBH h0 hX1 hX2 hnt hnp hnq hn1 hn2 hP hnP
      go_enter Tryz.func16, Tryz.ntmps16
      go_wp2_with (go_at_call 43; refine hbo.mono ?_)
      first | rintro e w1 x1 y1 x2 y2 rfl hf1 hc1 hf2 hc2 hb1 | rintro e w1 ⟨x1, y1, x2, y2, rfl, hf1, hc1, hf2, hc2, hb1⟩
      have hb1 := HB0.out.trans (hb1.mono HB0.out.size)
      have HB1 : Hid (Below w.heap.size w w1) := hb1
      have hdd := HD.out w1 x1 y1 x2 y2 hb1 hf1 hc1 hf2 hc2
      clear hbo HD hb1 hf1 hc1 hf2 hc2 HB0 hmf
      go_wp2_with (go_at_call 44; refine hdd.mono ?_)
      first | rintro e w2 x y rfl hb2 q1 q2 | rintro e w2 ⟨x, y, rfl, hb2, q1, q2⟩
      have HB2 : Hid (Below w.heap.size w w2) := HB1.out.trans (hb2.mono HB1.out.size)
      have HC : Hid (Chs w2 x P) := q1
      have HCP : Hid (nP ≤ y) := q2
      clear hdd hb2 q1 q2
      go_wp2
      go_ret2
      refine ⟨x, y, .nilIface, ?_, ?_, ?_, ?_, HB2.out⟩
      · rw [HL.out, HNP.out]; rfl
      · rw [HL.out]; exact HC.out
      · rw [HL.out, HNP.out]; exact HCP.out
      · rw [HF.out]; exact Erd.zero _
  · have hbd := db_bad h0
    rw [hbd.1, hbd.2, errV_not h0] at hbo
    rw [if_pos h0] at HBH
    have HL : Hid (jnL t p q true n = []) := by show jnL t p q true n = []; unfold jnL; rw [HBH, if_neg h0]
    have HF : Hid (bhF t p q true n = dbF t p q true) := HBH
    obtain ⟨f, hf⟩ : ∃ f, dbF t p q true = f := ⟨_, rfl⟩
    rw [hf] at hbo HF h0
    have H0 : Hid (f ≠ 0) := h0
    obtain ⟨nt, hnt⟩ : ∃ k, t.length = k := ⟨_, rfl⟩
    obtain ⟨np, hnp⟩ : ∃ k, p.length = k := ⟨_, rfl⟩
    obtain ⟨nq, hnq⟩ : ∃ k, q.length = k := ⟨_, rfl⟩
    rw [hnt, hnp, hnq] at hbo
    rw [hnt] at HB0
    rw [hnt, hnp, hnq]
    clear ha hca hm hml hb gm gml gms hd km kml kms hb0 hT0 HBH h0 hbd hf hnt hnp hnq
    go_enter Tryz.func16, Tryz.ntmps16
    go_wp2_with (go_at_call 43; refine hbo.mono ?_)
    first | rintro e w1 x1 y1 x2 y2 rfl hf1 hc1 hf2 hc2 hb1 | rintro e w1 ⟨x1, y1, x2, y2, rfl, hf1, hc1, hf2, hc2, hb1⟩
    have hb1 := HB0.out.trans (hb1.mono HB0.out.size)
    have HB1 : Hid (Below w.heap.size w w1) := hb1
    clear hbo hb1 hf1 hc1 hf2 hc2 HB0 hmf
    go_wp2
    go_ret2
    refine ⟨none, 0, .iface 23 (.int .i64 f), ?_, ?_, ?_, ?_, HB1.out⟩
    · rw [HL.out]; rfl
    · rw [HL.out]; exact Chs.nil _ _
    · rw [HL.out]; exact Nat.le_refl _
    · rw [HF.out]; exact .inr (.inl ⟨H0.out, rfl⟩)

end Go.Proofs.YtnkdmgekpajfhadGreatDoor
