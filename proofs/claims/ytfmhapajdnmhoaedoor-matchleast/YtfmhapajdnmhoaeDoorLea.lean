/-
  Walk of package match's leastCosts: of each set of columns the least cost of as many of the last rows.
-/
import Derived.Test.YtfmhapajdnmhoaeDoorCho

namespace Go.Proofs.YtfmhapajdnmhoaeDoor
open Go.RowKit Dist Go.Maps

theorem szS_up {n s : Nat} (h : s.testBit n = false) : szS (n + 1) s = szS n s := by
  unfold szS lefts usS
  rw [List.range_succ, List.map_append, List.count_append]
  simp [h]
theorem szS_add {n s : Nat} (hs : s < 2 ^ n) : ∀ d, szS (n + d) s = szS n s
  | 0 => rfl
  | d + 1 => by
    rw [← Nat.add_assoc, szS_up (Nat.testBit_lt_two_pow (Nat.lt_of_lt_of_le hs (Nat.pow_le_pow_right (by decide) (by omega)))), szS_add hs d]
theorem szS_8 {n s : Nat} (hn : n ≤ 8) (hs : s < 2 ^ n) : szS 8 s = szS n s := by
  have := szS_add hs (8 - n)
  rwa [show n + (8 - n) = 8 by omega] at this

theorem key_lit (s : Nat) : WideAt.IsKeyLit (.int .u64 (s : Int)) := by simp [WideAt.IsKeyLit]

theorem Lst.isMap {w : World} {b k : Nat} {D : DataW Unit} (h : Lst w b k D) : IsMap D := by
  obtain ⟨_, _, _, _, _, e⟩ := h
  exact ⟨_, e⟩
theorem lat_same {D : DataW Unit} (h : IsMap D) (s : Nat) (x : Int) : lat (D.put (.int .u64 s) (.lit (.int .i64 x))) s x := atKey_put_same h (key_lit s) _ _
theorem lat_other {D : DataW Unit} {s t : Nat} {x y : Int} (h : lat D t y) (hne : t ≠ s) : lat (D.put (.int .u64 s) (.lit (.int .i64 x))) t y := by
  unfold lat at h ⊢
  rw [atKey_put_other (fun e => hne (by have : (t : Int) = s := by simpa using e
                                        omega))]
  exact h

/-- An entry of a map that is written out. -/
theorem lst_insert {w : World} {ops : Array Oper} {rest : List Oper} {o : Oper} {a : Act} {Q : Exit → Act → World → Prop} (hg : o.guard = none) (m x v : Operand) (hop : o.op = Op.insert 108 m x v) (b k : Nat) (D : DataW Unit)
    (hm : a.eval m = .map (some b)) (hown : Lst w b k D) (hk : k < 1000) (s : Nat) (hs : s < 256) (y : Int) (hx : a.eval x = .int .u64 s) (hv : a.eval v = .int .i64 y) (hy : (Lit.int .i64 y).wf = true)
    (hK : ∀ w', Lst w' b (k + 1) (D.put (.int .u64 s) (.lit (.int .i64 y))) → w.grownBy w' (some b) → wpList Tryd.prog ops Q rest (a.put o.dst undef) w') :
    wpList Tryd.prog ops Q (o :: rest) a w := by
  refine wpList_plain hg fun K' hK' => ?_
  obtain ⟨w', hrun, r1, r2⟩ := World.ownsMap.update (t := 108) (e := 3) hown law_cols Tryd.underlying108 (by unfold maxLen; omega) (keyOf_int_mk Tryd.underlying111 (wf_u64 hs)) (plainElem_int Tryd.underlying3 hy)
  unfold Oper.wp
  simp [execOp, hop, hm, hx, hv, hrun, Result.andThen]
  exact hK' _ _ (hK w' r1 r2)

/-- What comes of it. -/
def LeaV (cs : List (List Int)) (n B : Nat) (e : Ending) (w w' : World) : Prop := ∃ z D, e = .returned (.map (some B)) ∧ Lst w' B z D ∧ (∀ s, s < 2 ^ n → lat D s (bsS cs n s).1) ∧ Below B w w'

set_option maxHeartbeats 1000000 in
set_option maxRecDepth 100000 in
theorem least_any (a : Option Addr) (cs : List (List Int)) (ca : Nat) (w : World) (ha : Sqr w a cs) (h0 : sqf cs = 0) :
    Calls Tryd.prog 56 #[.slice a cs.length ca] w fun e w' => LeaV cs cs.length w.heap.size e w w' := by
  have hmm := @run_makeMap Tryd.prog
  obtain ⟨n, hn⟩ : ∃ n, cs.length = n := ⟨_, rfl⟩
  obtain ⟨B, hB⟩ : ∃ B, w.heap.size = B := ⟨_, rfl⟩
  have h8 := (sqf_zero h0).1
  have HZ : Hid (sqf cs = 0) := h0
  rw [hn] at h8 ⊢
  rw [hB]
  have HN : Hid (cs.length = n) := hn
  have HB : Hid (w.heap.size = B) := hB
  have HA : Hid (Sqr w a cs) := ha
  clear hn ha h0
  have hp8 : 2 ^ n ≤ 256 := Nat.pow_le_pow_right (n := 2) (by decide) h8
  have hp1 : 0 < 2 ^ n := Nat.pow_pos (by decide)
  obtain ⟨N, hN⟩ : ∃ N, 2 ^ n = N := ⟨_, rfl⟩
  have hfc := firstCols n h8
  rw [hN] at hp8 hp1 hfc
  rw [show ((N - 1 : Nat) : Int) = (N : Int) - 1 by omega] at hfc
  have HP : Hid (2 ^ n = N) := hN
  clear hN
  go_enter Tryd.func56, Tryd.ntmps56
  have hown0 : Lst (w.alloc (.map #[] 0)) B 0 (.map []) := by rw [← hB]; exact World.ownsMap_made _ _ _ _
  have hb0 : Below B w (w.alloc (.map #[] 0)) := by rw [← hB]; exact below_alloc _ _
  have hz0 : (w.alloc (.map #[] 0)).heap.size = B + 1 := by rw [← hB]; simp
  go_wp2_with (first
    | (refine lst_insert rfl _ _ _ rfl B 0 (.map []) rfl hown0 (by decide) 0 (by decide) 0 rfl rfl (by decide) ?_; intro w1 hown1 hgrow1)
    | go_in)
  have hb1 : Below B w w1 := hb0.grown hgrow1 (by omega) (fun j hj => by cases hj; exact Nat.le_refl _)
  clear hmm hb0 hz0
  go_loopw [4] (fun s4 w2 => ∃ s : Nat, 1 ≤ s ∧ s ≤ N ∧ s4 = .int .u64 s ∧ (∃ D, Lst w2 B s D ∧ ∀ t, t < s → lat D t (bsS cs n t).1) ∧ Below B w w2) (fun s4 _ => N - (intOf s4).toNat)
  case atStart => exact ⟨1, Nat.le_refl _, hp1, rfl, ⟨_, hown1, fun t ht => by
    have : t = 0 := by omega
    subst this
    rw [bsS_zero]
    exact lat_same hown0.isMap 0 0⟩, hb1⟩
  case round =>
    clear hown1 hgrow1 hb1 hown0 w1
    obtain ⟨s, hs1, hsN, rfl, ⟨D, hown, hall⟩, hbl⟩ := hrel
    by_cases hlt : s < N
    · have hp2 : s < 2 ^ n := by rw [HP.out]; exact hlt
      have hcnt := countCol s (by omega)
      rw [szS_8 h8 hp2] at hcnt
      have hf1 := szS_le n s
      have hf0 : 0 < szS n s := Nat.pos_of_ne_zero fun e => by have := (szS_iff hp2).1 e; omega
      obtain ⟨f, hf⟩ : ∃ f, szS n s = f := ⟨_, rfl⟩
      rw [hf] at hcnt hf1 hf0
      obtain ⟨r, hr⟩ : ∃ r, n - f = r := ⟨_, rfl⟩
      have hrn : r < n := by omega
      have hnn := sqf_nonneg HZ.out
      obtain ⟨k, hk, ht, hb, hchs⟩ := chs_bst (c := cs) (r := r) (s := s) (n := n) (g := fun k => (bsS cs n (wo s k)).1) hnn (by omega) (by omega) (fun _ _ _ => rfl)
      have hbw : Below w.heap.size w wr := by rw [HB.out]; exact hbl
      obtain ⟨b, off, rfl, hat⟩ := Sqr.at (HA.out.below hbw) (i := r) (by rw [HN.out]; exact hrn)
      obtain ⟨ar, cap, hc, hin⟩ := hat r (by rw [HN.out]; exact hrn)
      have hrl : (cs.getD r []).length = n := (sqf_len HZ.out (by rw [HN.out]; exact hrn)).trans HN.out
      have hch := choose_any ar (cs.getD r []) cap s B s n D (fun k => (bsS cs n (wo s k)).1) wr hin hrl h8 (by omega) hown (fun k => sqf_cost HZ.out r k) (fun k hk ht => ⟨hall _ (wo_lt ht), bsS_nonneg hnn n _, bsS_le HZ.out n _ h8⟩)
      rw [hchs] at hch
      have hy0 := bsS_nonneg hnn n s
      have hy1 := bsS_le HZ.out n s h8
      rw [hrl] at hc
      obtain ⟨y, hy⟩ : ∃ y, (bsS cs n s).1 = y := ⟨_, rfl⟩
      rw [hy] at hch hy0 hy1
      have hix : (n : Int) - (f : Int) = (r : Int) := by omega
      have HY : Hid ((bsS cs n s).1 = y) := hy
      have HALL : Hid (∀ t, t < s → lat D t (bsS cs n t).1) := hall
      have hsz : B < wr.heap.size := Nat.lt_of_lt_of_le hown.lt (Nat.le_refl _)
      clear hy hall hchs hb ht hat hin hnn hbw hrl hf hp2
      have hisM := Lst.isMap hown
      go_wp2_with (first
        | (go_at_call 57; refine (hfc _).mono ?_; rintro e w1 ⟨rfl, rfl⟩)
        | (go_at_call 84; refine (hcnt _).mono ?_; rintro e w1 ⟨rfl, rfl⟩)
        | (go_at_call 58; refine hch.mono ?_; rintro e w1 ⟨rfl, rfl⟩)
        | (at_mapUpdate; refine wpList_mapUpdate_own _ rfl _ _ _ 108 rfl 111 3 law_cols Tryd.underlying108 _ B s D rfl hown (by unfold maxLen; omega) _ _ _ rfl rfl (keyOf_int_mk Tryd.underlying111 (wf_u64 (by omega))) _ [] (plainElem_int Tryd.underlying3 (WalkArith.wf_i64 (by omega))) ?_; intro w3 hown3 hgrow3)
        | go_in)
      go_roundw
      case rel => exact ⟨s + 1, by omega, by omega, by go_num, ⟨_, hown3, fun t ht => by
        by_cases e : t = s
        · subst e
          rw [HY.out]
          exact lat_same hisM _ _
        · exact lat_other (HALL.out t (by omega)) e⟩, hbl.grown hgrow3 (by omega) (fun j hj => by cases hj; exact Nat.le_refl _)⟩
      case measure => simp [intOf]; omega
    · have : s = N := by omega
      subst this
      go_wp2_with (go_at_call 57; refine (hfc _).mono ?_; rintro e w1 ⟨rfl, rfl⟩)
      go_ret
      exact ⟨_, D, rfl, hown, fun t ht => hall t (by rw [← HP.out]; exact ht), hbl⟩

end Go.Proofs.YtfmhapajdnmhoaeDoor
