/-
  Walk of the document's own answer for two patches done: one behind the other, or both to the same tree.
-/
import Derived.Test.YtnkdmgekpajfhadGreatDoorRap
import Derived.Test.YtnkdmgekpajfhadGreatDoorXv

namespace Go.Proofs.YtnkdmgekpajfhadGreatDoor
open Go.RowKit Dist

set_option maxRecDepth 100000 in
set_option maxHeartbeats 2000000 in
theorem behindRef (a : Option Addr) (t : List Fl) (ca : Nat) (b : Option Addr) (p : List Ch) (cb : Nat) (d : Option Addr) (q : List Ch) (cd : Nat) (ap : Bool) (n : Int) (w : World) (ha : Fls w a t) (hca : t.length ≤ ca) (hm : t.length ≤ maxLen) (hms : ∀ x ∈ t, x.2.length ≤ maxLen) (hts : ∀ x ∈ t, ∀ s ∈ x.2, s.size ≤ maxLen)
    (hp : Chs w b p) (pm : p.length ≤ maxLen) (pml : ∀ c ∈ p, c.2.2.length ≤ maxLen) (pms : ∀ c ∈ p, ∀ h ∈ c.2.2, h.2.2.length ≤ maxLen) (pts : ∀ c ∈ p, ∀ h ∈ c.2.2, ∀ m ∈ h.2.2, m.2.size ≤ maxLen)
    (hq : Chs w d q) (qm : q.length ≤ maxLen) (qml : ∀ c ∈ q, c.2.2.length ≤ maxLen) (qms : ∀ c ∈ q, ∀ h ∈ c.2.2, h.2.2.length ≤ maxLen) (qts : ∀ c ∈ q, ∀ h ∈ c.2.2, ∀ m ∈ h.2.2, m.2.size ≤ maxLen) :
    Calls Tryz.prog 13 #[.slice a t.length ca, .slice b p.length cb, .slice d q.length cd, .bool ap, .int .i64 n] w fun e w' => ∃ g c g2 c2, e = .returned (.tuple #[.slice g (bhB t p q ap n).length c, .slice g2 (bhC t p q ap n).length c2, .int .i64 (bhF t p q ap n)]) ∧ Fls w' g (bhB t p q ap n) ∧ (bhB t p q ap n).length ≤ c ∧ Fls w' g2 (bhC t p q ap n) ∧ (bhC t p q ap n).length ≤ c2 ∧ Below w.heap.size w w' := by
  have h1 := applyRefC a t ca b p cb w ha hca hm hms hts hp pm pml pms pts
  have H2 : Hid (∀ w' g c, Below w.heap.size w w' → (apF t p).2.2 = 0 → Fls w' g (apF t p).1 → (apF t p).1.length ≤ c → Calls Tryz.prog 36 #[.slice g (apF t p).1.length c, .slice d q.length cd] w' fun e w'' => ∃ g2 c2, e = .returned (.tuple #[.slice g2 (apF (apF t p).1 q).1.length c2, .int .i64 (apF (apF t p).1 q).2.1, .int .i64 (apF (apF t p).1 q).2.2]) ∧ Fls w'' g2 (apF (apF t p).1 q).1 ∧ (apF (apF t p).1 q).1.length ≤ c2 ∧ Below w'.heap.size w' w'') := fun w' g c hb h0 hf hc => by
    obtain ⟨b1, b2, b3⟩ := tf_bounds (apF_tree h0)
    exact applyRefC g (apF t p).1 c d q cd w' hf hc b1 b2 b3 (hq.below hb) qm qml qms qts
  have H3 : Hid (∀ w', Below w.heap.size w w' → Calls Tryz.prog 36 #[.slice a t.length ca, .slice d q.length cd] w' fun e w'' => ∃ g2 c2, e = .returned (.tuple #[.slice g2 (apF t q).1.length c2, .int .i64 (apF t q).2.1, .int .i64 (apF t q).2.2]) ∧ Fls w'' g2 (apF t q).1 ∧ (apF t q).1.length ≤ c2 ∧ Below w'.heap.size w' w'') := fun w' hb => applyRefC a t ca d q cd w' (ha.below hb) hca hm hms hts (hq.below hb) qm qml qms qts
  have E1 : Hid ((apF t p).2.2 ≠ 0 → bhF t p q ap n = (apF t p).2.2) := bhF_one
  have E2 : Hid ((apF t p).2.2 = 0 → (apF (bhT t p ap) q).2.2 ≠ 0 → bhF t p q ap n = (apF (bhT t p ap) q).2.2) := bhF_two
  have E3 : Hid ((apF t p).2.2 = 0 → (apF (bhT t p ap) q).2.2 = 0 → bhF t p q ap n = if n < 0 ∨ 1000 < n then 1 else 0) := bhF_num
  have E4 : Hid (bhF t p q ap n ≠ 0 → bhB t p q ap n = [] ∧ bhC t p q ap n = []) := bh_bad
  have E5 : Hid (bhF t p q ap n = 0 → bhB t p q ap n = (apF t p).1 ∧ bhC t p q ap n = (apF (bhT t p ap) q).1) := bh_ok
  obtain ⟨nt, hnt⟩ : ∃ k, t.length = k := ⟨_, rfl⟩
  obtain ⟨np, hnp⟩ : ∃ k, p.length = k := ⟨_, rfl⟩
  obtain ⟨nq, hnq⟩ : ∃ k, q.length = k := ⟨_, rfl⟩
  obtain ⟨F, hF⟩ : ∃ F, bhF t p q ap n = F := ⟨_, rfl⟩
  obtain ⟨X, hX⟩ : ∃ X, bhB t p q ap n = X := ⟨_, rfl⟩
  obtain ⟨Y, hY⟩ : ∃ Y, bhC t p q ap n = Y := ⟨_, rfl⟩
  rw [hF] at E1 E2 E3 E4 E5
  rw [hX, hY] at E4 E5
  rw [hnt, hnp] at h1
  rw [hnq] at H2
  rw [hnt, hnq] at H3
  rw [hnt, hnp, hnq, hF, hX, hY]
  clear ha hca hm hms hts hp pm pml pms pts hq qm qml qms qts hnt hnp hnq hF hX hY
  go_enter Tryz.func13, Tryz.ntmps13
  go_wp2_with (go_at_call 36; refine h1.mono ?_)
  rintro e w1 ⟨g1, c1, rfl, hf1, hc1, hb1⟩
  have HF1 : Hid (Fls w1 g1 (apF t p).1) := hf1
  have HC1 : Hid ((apF t p).1.length ≤ c1) := hc1
  clear h1 hf1 hc1
  obtain ⟨R1, hR1⟩ : ∃ R, apF t p = R := ⟨_, rfl⟩
  have HR1 : Hid (apF t p = R1) := hR1
  rw [hR1] at E1 E2 E3 E5 H2 HF1 HC1 ⊢
  obtain ⟨f1, hf1⟩ : ∃ f, R1.2.2 = f := ⟨_, rfl⟩
  obtain ⟨i1, hi1⟩ : ∃ f, R1.2.1 = f := ⟨_, rfl⟩
  obtain ⟨n1, hn1⟩ : ∃ f, R1.1.length = f := ⟨_, rfl⟩
  have HN1 : Hid (R1.1.length = n1) := hn1
  rw [hf1] at E1 E2 E3 H2
  rw [hn1] at H2 HC1
  rw [hf1, hi1, hn1]
  clear hR1 hf1 hi1 hn1
  by_cases h0 : f1 = 0
  case' neg =>
    have e1 := E1.out h0
    obtain ⟨e2, e3⟩ := E4.out (by rw [e1]; exact h0)
    have HE1 : Hid (F = f1) := e1
    have HE2 : Hid (X = []) := e2
    have HE3 : Hid (Y = []) := e3
    have hz : (f1 != 0) = true := by simpa using h0
    clear E1 E2 E3 E4 E5 H2 H3 h0 e1 e2 e3 HF1 HC1 HN1 HR1
    go_wp2
    refine bodyPost_ret (v := .tuple #[.slice none 0 0, .slice none 0 0, .int .i64 f1]) (by simp [results, Tryz.results13, go_sem]) rfl ⟨none, 0, none, 0, ?_, ?_, ?_, ?_, ?_, hb1⟩
    · rw [HE1.out, HE2.out, HE3.out]; rfl
    · rw [HE2.out]; exact Fls.nil _ _
    · rw [HE2.out]; exact Nat.le_refl _
    · rw [HE3.out]; exact Fls.nil _ _
    · rw [HE3.out]; exact Nat.le_refl _
  case' pos =>
    have h2 := fun (_ : ap = false) => H2.out w1 g1 c1 hb1 h0 HF1.out HC1.out
    have h3 := fun (_ : ap = true) => H3.out w1 hb1
    have E2 : Hid ((apF (bhT t p ap) q).2.2 ≠ 0 → F = (apF (bhT t p ap) q).2.2) := E2.out h0
    have E3 : Hid ((apF (bhT t p ap) q).2.2 = 0 → F = if n < 0 ∨ 1000 < n then 1 else 0) := E3.out h0
    rw [h0]
    clear E1 H2 H3 h0
    cases ap
    case' false =>
      have hc := h2 rfl
      have ebt : bhT t p false = R1.1 := by unfold bhT; rw [if_neg (by decide), HR1.out]
      rw [ebt] at E2 E3 E5
      obtain ⟨R2, hR2⟩ : ∃ R, apF R1.1 q = R := ⟨_, rfl⟩
      rw [hR2] at hc E2 E3 E5
    case' true =>
      have hc := h3 rfl
      have ebt : bhT t p true = t := by unfold bhT; rw [if_pos rfl]
      rw [ebt] at E2 E3 E5
      obtain ⟨R2, hR2⟩ : ∃ R, apF t q = R := ⟨_, rfl⟩
      rw [hR2] at hc E2 E3 E5
    all_goals
      obtain ⟨f2, hf2⟩ : ∃ f, R2.2.2 = f := ⟨_, rfl⟩
      obtain ⟨i2, hi2⟩ : ∃ f, R2.2.1 = f := ⟨_, rfl⟩
      obtain ⟨n2, hn2⟩ : ∃ f, R2.1.length = f := ⟨_, rfl⟩
      have HN2 : Hid (R2.1.length = n2) := hn2
      rw [hf2, hi2, hn2] at hc
      rw [hf2] at E2 E3
      clear h2 h3 ebt hR2 hf2 hi2 hn2
      go_wp2_with (go_at_call 36; refine hc.mono ?_)
    all_goals
      rintro e w2 ⟨g2, c2, rfl, hf2, hc2, hb2⟩
      have HF2 : Hid (Fls w2 g2 R2.1) := hf2
      have HC2 : Hid (n2 ≤ c2) := hc2
      have HB2 : Hid (Below w.heap.size w w2) := hb1.trans (hb2.mono hb1.size)
      have HG1 : Hid (Fls w2 g1 R1.1) := HF1.out.below hb2
      clear hc hf2 hc2 hb2 HF1 hb1
      by_cases k0 : f2 = 0
      · have e3 := E3.out k0
        subst k0
        by_cases hn0 : n < 0
        · rw [if_pos (.inl hn0)] at e3
          obtain ⟨e4, e5⟩ := E4.out (by rw [e3]; decide)
          have HE1 : Hid (F = 1) := e3
          have HE2 : Hid (X = []) := e4
          have HE3 : Hid (Y = []) := e5
          clear E2 E3 E4 E5 e3 e4 e5
          go_wp2
          refine bodyPost_ret (v := .tuple #[.slice none 0 0, .slice none 0 0, .int .i64 1]) (by simp [results, Tryz.results13, go_sem]) rfl ⟨none, 0, none, 0, ?_, ?_, ?_, ?_, ?_, HB2.out⟩
          · rw [HE1.out, HE2.out, HE3.out]; rfl
          · rw [HE2.out]; exact Fls.nil _ _
          · rw [HE2.out]; exact Nat.le_refl _
          · rw [HE3.out]; exact Fls.nil _ _
          · rw [HE3.out]; exact Nat.le_refl _
        · by_cases hn1 : 1000 < n
          · rw [if_pos (.inr hn1)] at e3
            obtain ⟨e4, e5⟩ := E4.out (by rw [e3]; decide)
            have HE1 : Hid (F = 1) := e3
            have HE2 : Hid (X = []) := e4
            have HE3 : Hid (Y = []) := e5
            clear E2 E3 E4 E5 e3 e4 e5
            go_wp2
            refine bodyPost_ret (v := .tuple #[.slice none 0 0, .slice none 0 0, .int .i64 1]) (by simp [results, Tryz.results13, go_sem]) rfl ⟨none, 0, none, 0, ?_, ?_, ?_, ?_, ?_, HB2.out⟩
            · rw [HE1.out, HE2.out, HE3.out]; rfl
            · rw [HE2.out]; exact Fls.nil _ _
            · rw [HE2.out]; exact Nat.le_refl _
            · rw [HE3.out]; exact Fls.nil _ _
            · rw [HE3.out]; exact Nat.le_refl _
          · rw [if_neg (by omega)] at e3
            obtain ⟨e4, e5⟩ := E5.out e3
            have HE1 : Hid (F = 0) := e3
            have HE2 : Hid (X = R1.1) := e4
            have HE3 : Hid (Y = R2.1) := e5
            clear E2 E3 E4 E5 e3 e4 e5
            go_wp2
            refine bodyPost_ret (v := .tuple #[.slice g1 n1 c1, .slice g2 n2 c2, .int .i64 0]) (by simp [results, Tryz.results13, go_sem]) rfl ⟨g1, c1, g2, c2, ?_, ?_, ?_, ?_, ?_, HB2.out⟩
            · rw [HE1.out, HE2.out, HE3.out, HN1.out, HN2.out]
            · rw [HE2.out]; exact HG1.out
            · rw [HE2.out, HN1.out]; exact HC1.out
            · rw [HE3.out]; exact HF2.out
            · rw [HE3.out, HN2.out]; exact HC2.out
      · have e3 := E2.out k0
        obtain ⟨e4, e5⟩ := E4.out (by rw [e3]; exact k0)
        have HE1 : Hid (F = f2) := e3
        have HE2 : Hid (X = []) := e4
        have HE3 : Hid (Y = []) := e5
        have hz : (f2 == 0) = false := by simpa using k0
        have hz' : (f2 != 0) = true := by simpa using k0
        clear E2 E3 E4 E5 e3 e4 e5 k0
        go_wp2
        refine bodyPost_ret (v := .tuple #[.slice none 0 0, .slice none 0 0, .int .i64 f2]) (by simp [results, Tryz.results13, go_sem]) rfl ⟨none, 0, none, 0, ?_, ?_, ?_, ?_, ?_, HB2.out⟩
        · rw [HE1.out, HE2.out, HE3.out]; rfl
        · rw [HE2.out]; exact Fls.nil _ _
        · rw [HE2.out]; exact Nat.le_refl _
        · rw [HE3.out]; exact Fls.nil _ _
        · rw [HE3.out]; exact Nat.le_refl _

end Go.Proofs.YtnkdmgekpajfhadGreatDoor
