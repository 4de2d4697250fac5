/-
  Walk of the law MatchIs: whatever square of costs, whatever choice.
-/
import Derived.Test.YtfmhapajdnmhoaeDoorRmo
import Derived.Test.YtfmhapajdnmhoaeDoorCos
import Derived.Test.YtfmhapajdnmhoaeDoorTold3
import Derived.BigQuiet

namespace Go.Proofs.YtfmhapajdnmhoaeDoor
open Go.RowKit Dist

/-- A choice as far as some place. -/
def okP (n : Nat) (m : List Int) (k : Nat) : Prop := ∀ j, j < k → (0 ≤ m.getD j 0 ∧ m.getD j 0 < n) ∧ m.getD j 0 ∉ m.take j
theorem getD_at {m : List Int} {j : Nat} (h : j < m.length) : m.getD j 0 = m[j] := by simp [h]
theorem okP_all {n : Nat} {m : List Int} (hl : m.length = n) (h : okP n m n) : okC n m := by
  refine ⟨hl, fun x hx => ?_, ?_⟩
  · obtain ⟨j, hj, rfl⟩ := List.mem_iff_getElem.1 hx
    have := (h j (by omega)).1
    rwa [getD_at hj] at this
  · unfold List.Nodup
    rw [List.pairwise_iff_getElem]
    intro i j hi hj hij e
    refine (h j (by omega)).2 ?_
    rw [getD_at hj, ← e]
    exact List.mem_take_iff_getElem.2 ⟨i, by omega, rfl⟩
theorem okP_no {n : Nat} {m : List Int} (h : okC n m) : okP n m n := by
  intro j hj
  have hl := h.1
  have hjl : j < m.length := by omega
  refine ⟨?_, fun hm => ?_⟩
  · rw [getD_at hjl]
    exact h.2.1 _ (List.getElem_mem hjl)
  · rw [getD_at hjl] at hm
    obtain ⟨i, hi, e⟩ := List.mem_take_iff_getElem.1 hm
    have h3 := List.pairwise_iff_getElem.1 h.2.2 i j (by omega) hjl (by omega)
    exact h3 e

theorem coF_bad {cs : List (List Int)} (h0 : sqf cs = 0) {m : List Int} (h : ¬ okC cs.length m) : coF cs m = 2 ∧ coO cs m = 0 := by
  have e : coF cs m = 2 := by unfold coF; rw [if_neg (by simp [h0]), if_neg fun x => h (isC_all.1 x)]
  exact ⟨e, by unfold coO; rw [e, if_neg (by decide)]⟩
theorem coF_ok {cs : List (List Int)} (h0 : sqf cs = 0) {m : List Int} (h : okC cs.length m) : coF cs m = 0 ∧ coO cs m = sumC cs m m.length := by
  have e : coF cs m = 0 := by unfold coF; rw [if_neg (by simp [h0]), if_pos (isC_all.2 h)]
  exact ⟨e, by unfold coO; rw [if_pos e]⟩

/-- What the law asks: that all is as it was. -/
def TrueV (w : World) (e : Ending) (w' : World) : Prop := e = .returned (.bool true) ∧ Below w.heap.size w w'

section
variable (a b : Option Addr) (cs : List (List Int)) (m : List Int) (ca cb : Nat) (w : World)

set_option maxHeartbeats 1000000 in
set_option maxRecDepth 100000 in
theorem matchIs_bad (ha : Sqr w a cs) (hm : cs.length ≤ maxLen) (hr : ∀ r ∈ cs, r.length ≤ maxLen) (hb : Ins w b m) (hbm : m.length ≤ maxLen) (hg : TypeLaid w) (h0 : sqf cs ≠ 0) :
    Calls Tryd.prog 7 #[.slice a cs.length ca, .slice b m.length cb] w fun e w' => TrueV w e w' := by
  have hsq : Calls Tryd.prog 21 #[.slice a cs.length ca] w fun e w' => e = .returned (.int .i64 (sqf cs)) ∧ Below w.heap.size w w' := (squareFault a cs ca w ha hm hr).mono fun e w' ⟨h1, q, h2⟩ => ⟨h1, by rw [h2]; exact below_drawn (Below.refl _ _)⟩
  have hmt : ∀ w1, Below w.heap.size w w1 → Calls Tryd.prog 23 #[.slice a cs.length ca] w1 fun e w' => ∃ g c, e = .returned (.tuple #[.slice g 0 c, .iface 45 (.int .i64 (sqf cs))]) ∧ Below w.heap.size w w' := fun w1 h1 => (match_any a cs ca w1 (ha.below h1) hm hr).mono fun e w' ⟨g, c, he, _, _, h2⟩ => by
    rw [mcO_bad h0, errV_not h0] at he
    exact ⟨g, c, he, h1.trans (h2.mono h1.size)⟩
  have her : ∀ w1, Below w.heap.size w w1 → Calls Tryd.prog 15 #[.iface 45 (.int .i64 (sqf cs)), .int .i64 (sqf cs)] w1 fun e w' => e = .returned (.bool true) ∧ Below w.heap.size w w' := fun w1 h1 => by
    have := error_same (sqf cs) w1 (hg.below h1)
    rw [errV_not h0] at this
    exact this.mono fun e w' ⟨he, h2⟩ => ⟨he, h1.trans (h2.mono h1.size)⟩
  have hin : ∀ w1 g c, Below w.heap.size w w1 → Calls Tryd.prog 24 #[.slice g 0 c, .slice none 0 0] w1 fun e w' => e = .returned (.bool true) ∧ Below w.heap.size w w' := fun w1 g c h1 =>
    (ints_any g none [] [] c 0 w1 (Ins.nil _ _) (Ins.nil _ _) (Nat.zero_le _)).mono fun e w' ⟨he, h2⟩ => ⟨he, h1.trans (h2.mono h1.size)⟩
  have hco : ∀ w1, Below w.heap.size w w1 → Calls Tryd.prog 26 #[.slice a cs.length ca, .slice b m.length cb] w1 fun e w' => e = .returned (.tuple #[.int .i64 0, .iface 45 (.int .i64 (sqf cs))]) ∧ Below w.heap.size w w' := fun w1 h1 => (cost_any a b cs m ca cb w1 (ha.below h1) hm hr (hb.below h1) hbm).mono fun e w' ⟨he, h2⟩ => by
    have e1 : coF cs m = sqf cs := by unfold coF; rw [if_pos h0]
    have e2 : coO cs m = 0 := by unfold coO; rw [e1, if_neg h0]
    rw [e1, e2, errV_not h0] at he
    exact ⟨he, by rw [h2]; exact h1⟩
  have hne : ∀ x : Int, x = sqf cs → (x == 0) = false := fun x hx => by rw [hx]; simpa using h0
  obtain ⟨f, hf⟩ : ∃ f, sqf cs = f := ⟨_, rfl⟩
  rw [hf] at hsq hmt her hco
  have hne : (f == 0) = false := hne f hf.symm
  obtain ⟨n, hn⟩ : ∃ n, cs.length = n := ⟨_, rfl⟩
  obtain ⟨l, hl⟩ : ∃ l, m.length = l := ⟨_, rfl⟩
  rw [hn] at hsq hmt hco hm ⊢
  rw [hl] at hco hbm ⊢
  clear hf hn hl h0 ha hr hb hg
  unfold maxLen at hm hbm
  go_enter Tryd.func7, Tryd.ntmps7
  go_wp2_with (first
    | (go_at_call 21; refine hsq.mono ?_; rintro e w1 ⟨rfl, hb1⟩)
    | (go_at_call 23; refine (hmt _ (by assumption)).mono ?_; rintro e w2 ⟨g, c, rfl, hb2⟩)
    | (go_at_call 15; refine (her _ (by assumption)).mono ?_; rintro e w3 ⟨rfl, hb3⟩)
    | (go_at_call 24; refine (hin _ _ _ (by assumption)).mono ?_; rintro e w4 ⟨rfl, hb4⟩)
    | (go_at_call 26; refine (hco _ (by assumption)).mono ?_; rintro e w5 ⟨rfl, hb5⟩))
  refine wp_loop_rounds 1 ?_
  rw [rounds_succ]
  go_wp2_with (first
    | (go_at_call 26; refine (hco _ (by assumption)).mono ?_; rintro e w5 ⟨rfl, hb5⟩)
    | (go_at_call 15; refine (her _ (by assumption)).mono ?_; rintro e w6 ⟨rfl, hb6⟩))
  all_goals
    go_ret
    exact ⟨by first | rfl | trivial, by assumption⟩

set_option maxHeartbeats 1000000 in
set_option maxRecDepth 100000 in
theorem matchIs_big (ha : Sqr w a cs) (hm : cs.length ≤ maxLen) (hr : ∀ r ∈ cs, r.length ≤ maxLen) (h0 : sqf cs = 0) (h6 : 6 < cs.length) :
    Calls Tryd.prog 7 #[.slice a cs.length ca, .slice b m.length cb] w fun e w' => TrueV w e w' := by
  have hsq : Calls Tryd.prog 21 #[.slice a cs.length ca] w fun e w' => e = .returned (.int .i64 (sqf cs)) ∧ Below w.heap.size w w' := (squareFault a cs ca w ha hm hr).mono fun e w' ⟨h1, q, h2⟩ => ⟨h1, by rw [h2]; exact below_drawn (Below.refl _ _)⟩
  rw [h0] at hsq
  obtain ⟨n, hn⟩ : ∃ n, cs.length = n := ⟨_, rfl⟩
  obtain ⟨l, hl⟩ : ∃ l, m.length = l := ⟨_, rfl⟩
  rw [hn] at hsq hm h6 ⊢
  rw [hl]
  clear hn hl ha hr h0
  unfold maxLen at hm
  go_enter Tryd.func7, Tryd.ntmps7
  go_wp2_with (go_at_call 21; refine hsq.mono ?_; rintro e w1 ⟨rfl, hb1⟩)
  go_ret
  exact ⟨by first | rfl | trivial, by assumption⟩

set_option maxHeartbeats 2000000 in
set_option maxRecDepth 100000 in
theorem matchIs_ok (ha : Sqr w a cs) (hm : cs.length ≤ maxLen) (hr : ∀ r ∈ cs, r.length ≤ maxLen) (hb : Ins w b m) (hbm : m.length ≤ maxLen) (hcb : m.length ≤ cb) (hg : TypeLaid w) (h0 : sqf cs = 0) (h6 : cs.length ≤ 6) :
    Calls Tryd.prog 7 #[.slice a cs.length ca, .slice b m.length cb] w fun e w' => TrueV w e w' := by
  have hsq : Calls Tryd.prog 21 #[.slice a cs.length ca] w fun e w' => e = .returned (.int .i64 (sqf cs)) ∧ Below w.heap.size w w' := (squareFault a cs ca w ha hm hr).mono fun e w' ⟨h1, q, h2⟩ => ⟨h1, by rw [h2]; exact below_drawn (Below.refl _ _)⟩
  rw [h0] at hsq
  have hmo : ∀ w1, Below w.heap.size w w1 → Calls Tryd.prog 22 #[.slice a cs.length ca] w1 fun e w' => ∃ g c, e = .returned (.slice g cs.length c) ∧ Ins w' g (mcO cs) ∧ Below w.heap.size w w' := fun w1 h1 => (matchOf a cs ca w1 (ha.below h1) h0).mono fun e w' ⟨v, he, h2, h3⟩ => by
    rw [← mcO_ok h0] at h2
    obtain ⟨g, c, rfl, h4, _⟩ := h2.ins
    exact ⟨g, c, by rw [he, mcO_len h0], h4, h1.trans (h3.mono h1.size)⟩
  have hmt : ∀ w1, Below w.heap.size w w1 → Calls Tryd.prog 23 #[.slice a cs.length ca] w1 fun e w' => ∃ g c, e = .returned (.tuple #[.slice g cs.length c, .nilIface]) ∧ Ins w' g (mcO cs) ∧ Below w1.heap.size w1 w' ∧ Below w.heap.size w w' := fun w1 h1 => (match_any a cs ca w1 (ha.below h1) hm hr).mono fun e w' ⟨g, c, he, h2, _, h3⟩ => by
    rw [mcO_len h0, h0] at he
    exact ⟨g, c, he, h2, h3, h1.trans (h3.mono h1.size)⟩
  have her : ∀ w1 f, Below w.heap.size w w1 → Calls Tryd.prog 15 #[.iface 45 (.int .i64 f), .int .i64 f] w1 fun e w' => e = .returned (.bool true) ∧ Below w.heap.size w w' := fun w1 f h1 => (error_err f f w1 (hg.below h1)).mono fun e w' ⟨he, h2⟩ => ⟨by rw [he]; simp, h1.trans (h2.mono h1.size)⟩
  have hen : ∀ w1, Calls Tryd.prog 15 #[.nilIface, .int .i64 0] w1 fun e w' => e = .returned (.bool true) ∧ w' = w1 := fun w1 => error_nil 0 w1
  have hin : ∀ w1 g g' c c', Ins w1 g (mcO cs) → Ins w1 g' (mcO cs) → Below w.heap.size w w1 → Calls Tryd.prog 24 #[.slice g cs.length c, .slice g' cs.length c'] w1 fun e w' => e = .returned (.bool true) ∧ Below w.heap.size w w' := fun w1 g g' c c' i1 i2 h1 => by
    have := ints_any g g' (mcO cs) (mcO cs) c c' w1 i1 i2 (by rw [mcO_len h0]; exact hm)
    rw [mcO_len h0] at this
    exact this.mono fun e w' ⟨he, h2⟩ => ⟨by rw [he]; simp, h1.trans (h2.mono h1.size)⟩
  have hco : ∀ w1, Below w.heap.size w w1 → Calls Tryd.prog 26 #[.slice a cs.length ca, .slice b m.length cb] w1 fun e w' => e = .returned (.tuple #[.int .i64 (coO cs m), errV (coF cs m)]) ∧ Below w.heap.size w w' := fun w1 h1 => (cost_any a b cs m ca cb w1 (ha.below h1) hm hr (hb.below h1) hbm).mono fun e w' ⟨he, h2⟩ => ⟨he, by rw [h2]; exact h1⟩
  have HA : Hid (Sqr w a cs) := ha
  have HI : Hid (Ins w b m) := hb
  have HZ : Hid (sqf cs = 0) := h0
  have HB2 : Hid (¬ okC cs.length m → coF cs m = 2 ∧ coO cs m = 0) := fun h => coF_bad h0 h
  have HO2 : Hid (okC cs.length m → coF cs m = 0 ∧ coO cs m = sumC cs m m.length) := fun h => coF_ok h0 h
  obtain ⟨n, hn⟩ : ∃ n, cs.length = n := ⟨_, rfl⟩
  obtain ⟨l, hl⟩ : ∃ l, m.length = l := ⟨_, rfl⟩
  have HN : Hid (cs.length = n) := hn
  have HL : Hid (m.length = l) := hl
  rw [hn] at hsq hmo hmt hin hco hm h6 HB2 HO2 ⊢
  rw [hl] at hco hbm hcb HO2 ⊢
  clear hn hl ha hr hb hg h0
  unfold maxLen at hm hbm
  go_enter Tryd.func7, Tryd.ntmps7
  go_upto_region 12 with (first
    | (go_at_call 21; refine hsq.mono ?_; rintro e w1 ⟨rfl, hb1⟩)
    | (go_at_call 22; refine (hmo _ (by assumption)).mono ?_; rintro e w2 ⟨g2, c2, rfl, hi2, hb2⟩)
    | (go_at_call 23; refine (hmt _ (by assumption)).mono ?_; rintro e w3 ⟨g3, c3, rfl, hi3, hx, hb3⟩; have hi2 := hi2.below hx)
    | (go_at_call 15; refine (hen _).mono ?_; rintro e w4 ⟨rfl, rfl⟩)
    | (go_at_call 24; refine (hin _ _ _ _ _ (by assumption) (by assumption) (by assumption)).mono ?_; rintro e w5 ⟨rfl, hb5⟩)
    | go_in)
  clear hsq hmo hmt hin
  by_cases hln : l = n
  case neg =>
    have hok : ¬ okC n m := fun h => hln (HL.out.symm.trans h.1)
    obtain ⟨e1, e2⟩ := HB2.out hok
    rw [e1, e2, errV_not (by decide)] at hco
    have hne : ((l : Int) == (n : Int)) = false := by simp; omega
    clear HB2 HO2 e1 e2 hok hln
    clear hi2 hi3 hx hen
    go_wp2
    refine wp_loop_rounds 1 ?_
    rw [rounds_succ]
    go_wp2_with (first
      | (go_at_call 26; refine (hco _ (by assumption)).mono ?_; rintro e w6 ⟨rfl, hb6⟩)
      | (go_at_call 15; refine (her _ _ (by assumption)).mono ?_; rintro e w7 ⟨rfl, hb7⟩))
    all_goals
      go_ret
      exact ⟨by first | rfl | trivial, by assumption⟩
  case pos =>
    subst hln
    clear hi2 hi3 hx hb1 hb2 hb3
    go_wp2
    go_loopw [5, 11, 12] (fun e5 s11 i12 wx => ∃ k : Nat, k ≤ l ∧ e5 = .int .i64 0 ∧ s11 = .int .i64 (sumC cs m k) ∧ i12 = .int .i64 k ∧ okP l m k ∧ Below w.heap.size w wx) (fun _ _ i _ => l - (intOf i).toNat)
    case atStart => exact ⟨0, Nat.zero_le _, rfl, rfl, rfl, fun j hj => absurd hj (Nat.not_lt_zero _), hb5⟩
    case round =>
      clear hb5 hi2
      obtain ⟨k, hk, rfl, rfl, rfl, hokp, hbl⟩ := hrel
      have HP : Hid (okP l m k) := hokp
      clear hokp
      by_cases hlt : k < l
      · have hkm : k < m.length := by rw [HL.out]; exact hlt
        have hiw : Ins wr b m := HI.out.below hbl
        obtain ⟨b2, o2, rfl, hat2⟩ := Ins.at hiw hkm
        have hc2 := hat2 k hkm
        have htk : Ins wr (some ⟨b2, o2, none⟩) (m.take k) := fun j hj => by
          rw [List.length_take] at hj
          refine ⟨b2, o2, rfl, ?_⟩
          have : (m.take k).getD j 0 = m.getD j 0 := by
            have h1 : j < k := by omega
            have h2 : j < m.length := by omega
            simp [h1, h2]
          rw [this]
          exact hat2 j (by omega)
        have htl : (m.take k).length = k := by rw [List.length_take]; omega
        have hhas := fun w' (h : Ins w' (some ⟨b2, o2, none⟩) (m.take k)) => has_num (some ⟨b2, o2, none⟩) (m.take k) (m.getD k 0) cb k w' htl h (by unfold maxLen; omega)
        have HT : Hid (Ins wr (some ⟨b2, o2, none⟩) (m.take k)) := htk
        clear htk hat2 hiw htl
        obtain ⟨c, hcc⟩ : ∃ c, m.getD k 0 = c := ⟨_, rfl⟩
        rw [hcc] at hc2 hhas
        have HC : Hid (m.getD k 0 = c) := hcc
        clear hcc
        by_cases hbad : (0 ≤ c ∧ c < l) ∧ c ∉ m.take k
        · obtain ⟨⟨hc0, hc1⟩, hnm⟩ := hbad
          have d1 : decide (c < 0) = false := by simp; omega
          have d2 : decide ((l : Int) ≤ c) = false := by simp; omega
          rw [show decide (c ∈ m.take k) = false by simpa using hnm] at hhas
          obtain ⟨q, hq⟩ : ∃ q : Nat, c = q := ⟨c.toNat, by omega⟩
          obtain ⟨b1, o1, rfl, hat1⟩ := Sqr.at (HA.out.below hbl) (i := k) (by rw [HN.out]; exact hlt)
          obtain ⟨ar, cap, hc3, hin⟩ := hat1 k (by rw [HN.out]; exact hlt)
          have hrl : (cs.getD k []).length = l := (sqf_len HZ.out (by rw [HN.out]; exact hlt)).trans HN.out
          obtain ⟨b3, o3, rfl, hat3⟩ := Ins.at hin (i := q) (by rw [hrl]; omega)
          have hc4 := hat3 q (by rw [hrl]; omega)
          rw [hrl] at hc3
          have hs1 := sumC_bound HZ.out m k
          have hs2 := sqf_cost HZ.out k q
          have e1 : sumC cs m (k + 1) = sumC cs m k + cAtM cs k q := by rw [sumC, HC.out, hq]; simp
          have e2 : (cs.getD k []).getD q 0 = cAtM cs k q := rfl
          rw [e2] at hc4
          have HP2 : Hid (okP l m (k + 1)) := fun j hj => by
            by_cases e : j = k
            · subst e; rw [HC.out]; exact ⟨⟨hc0, hc1⟩, hnm⟩
            · exact HP.out j (by omega)
          clear e2 hin hat1 hat3 hrl hnm HB2 HO2 her hen hco
          obtain ⟨x, hx⟩ : ∃ x, cAtM cs k q = x := ⟨_, rfl⟩
          obtain ⟨y, hy⟩ : ∃ y, sumC cs m k = y := ⟨_, rfl⟩
          rw [hx] at hc4 hs2 e1
          simp only [hy] at e1 hs1 ⊢
          have HE : Hid (sumC cs m (k + 1) = y + x) := e1
          clear hx hy e1
          have hyb : y ≤ 1000000 := by omega
          have HQ : Hid (c = q) := hq
          clear hq
          go_wp2
          go_quiet ((go_at_call 25; exact Calls.quiet_of_same (hhas _ HT.out)))
          have hq := HQ.out
          subst hq
          go_wp2
          go_quiet (fail)
          go_wp2
          go_roundw
          case rel => exact ⟨k + 1, by omega, rfl, by rw [HE.out], by go_num, HP2.out, by first | exact below_drawn hbl | exact below_drawn (below_drawn hbl)⟩
          case measure => simp [intOf]; omega
        · have hok : ¬ okC l m := fun h => by
            have := okP_no h k hlt
            rw [HC.out] at this
            exact hbad this
          obtain ⟨e1, e2⟩ := HB2.out hok
          rw [e1, e2, errV_not (by decide)] at hco
          clear HB2 HO2 e1 e2 hok
          have hdr : ∀ q, Below w.heap.size w (wr.drewN q) := fun q => below_drawn hbl
          by_cases h1 : c < 0
          case' pos =>
            have d1 : decide (c < 0) = true := by simpa using h1
          case' neg =>
            have d1 : decide (c < 0) = false := by simpa using h1
            by_cases h2 : (l : Int) ≤ c
            case' pos =>
              have d2 : decide ((l : Int) ≤ c) = true := by simpa using h2
            case' neg =>
              have d2 : decide ((l : Int) ≤ c) = false := by simpa using h2
              have hnm : c ∈ m.take k := by
                refine Decidable.byContradiction fun h => hbad ⟨⟨by omega, by omega⟩, h⟩
              rw [show decide (c ∈ m.take k) = true by simpa using hnm] at hhas
              clear hnm
          all_goals
            clear hbad hen
            go_wp2
            go_quiet ((go_at_call 25; exact Calls.quiet_of_same (hhas _ HT.out)))
            go_wp2_with (first
              | (go_at_call 26; refine (hco _ (hdr _)).mono ?_; rintro e w6 ⟨rfl, hb6⟩)
              | (go_at_call 15; refine (her _ _ (by assumption)).mono ?_; rintro e w7 ⟨rfl, hb7⟩))
            go_ret
            exact ⟨by first | rfl | trivial, by assumption⟩
      · have : k = l := by omega
        subst this
        obtain ⟨e1, e2⟩ := HO2.out (okP_all HL.out HP.out)
        rw [e1, e2, errV_zero] at hco
        obtain ⟨S, hS⟩ : ∃ S, sumC cs m k = S := ⟨_, rfl⟩
        simp only [hS] at hco ⊢
        clear HB2 HO2 e1 e2 hS her
        go_wp2_with (first
          | (go_at_call 26; refine (hco _ (by assumption)).mono ?_; rintro e w6 ⟨rfl, hb6⟩)
          | (go_at_call 15; refine (hen _).mono ?_; rintro e w7 ⟨rfl, rfl⟩))
        go_ret
        exact ⟨by first | rfl | trivial, by assumption⟩

/-- The law. -/
theorem matchIs_any (ha : Sqr w a cs) (hm : cs.length ≤ maxLen) (hr : ∀ r ∈ cs, r.length ≤ maxLen) (hb : Ins w b m) (hbm : m.length ≤ maxLen) (hcb : m.length ≤ cb) (hg : TypeLaid w) :
    Calls Tryd.prog 7 #[.slice a cs.length ca, .slice b m.length cb] w fun e w' => e = .returned (.bool true) ∧ Below w.heap.size w w' := by
  by_cases h0 : sqf cs = 0
  · by_cases h6 : 6 < cs.length
    · exact matchIs_big a b cs m ca cb w ha hm hr h0 h6
    · exact matchIs_ok a b cs m ca cb w ha hm hr hb hbm hcb hg h0 (by omega)
  · exact matchIs_bad a b cs m ca cb w ha hm hr hb hbm hg h0

end

end Go.Proofs.YtfmhapajdnmhoaeDoor
