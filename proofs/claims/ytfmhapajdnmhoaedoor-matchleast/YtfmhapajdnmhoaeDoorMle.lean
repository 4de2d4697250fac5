/-
  Walk of the law MatchLeast: no choice costs less; a row that costs more for all columns.
-/
import Derived.Test.YtfmhapajdnmhoaeDoorMls
import Derived.Test.YtfmhapajdnmhoaeDoorSql
import Derived.Test.YtfmhapajdnmhoaeDoorMis

namespace Go.Proofs.YtfmhapajdnmhoaeDoor
open Go.RowKit Dist

theorem Inl.own {w : World} {B : Nat} {v : Value} {zs : List Int} (h : Inl w B v zs) : ∀ k, v.ownBlock = some k → B ≤ k ∧ k < w.heap.size := by
  intro k hk
  rcases h.2 with ⟨rfl, _⟩ | ⟨g, cap, cur, rfl, hB, hh, _⟩
  · cases hk
  · cases hk
    exact ⟨hB, (Array.getElem?_eq_some_iff.1 hh).1⟩
theorem Sql.own {w : World} {B : Nat} {v : Value} {ds : List (List Int)} (h : Sql w B v ds) : ∀ k, v.ownBlock = some k → B ≤ k ∧ k < w.heap.size := by
  intro k hk
  obtain ⟨vs, h1, _⟩ := h
  rcases h1.2 with ⟨rfl, _⟩ | ⟨g, cap, cur, rfl, hB, hh, _⟩
  · cases hk
  · cases hk
    exact ⟨hB, (Array.getElem?_eq_some_iff.1 hh).1⟩

/-- A row of two numbers that is written out. -/
theorem ins_two {w w' : World} {b : Nat} {x y : Int} (h : w.heap[b]? = some (.cells #[.int .i64 x, .int .i64 y] 3 (0, 0))) (hb : Below w.heap.size w w') : Ins w' (some ⟨b, 0, none⟩) [x, y] := by
  have hlt : b < w.heap.size := (Array.getElem?_eq_some_iff.1 h).1
  have h2 : w'.heap[b]? = some (.cells #[.int .i64 x, .int .i64 y] 3 (0, 0)) := blk_below hb hlt h
  intro i hi
  refine ⟨b, 0, rfl, ?_⟩
  rw [Nat.zero_add, Lib.cell_of_heap h2]
  match i, hi with
  | 0, _ => rfl
  | 1, _ => rfl
theorem ins_one (w : World) (v : Int) : Ins (w.alloc (.cells #[.int .i64 v] 3)) (some ⟨w.heap.size, 0, none⟩) [v] := by
  intro i hi
  refine ⟨w.heap.size, 0, rfl, ?_⟩
  rw [Nat.zero_add, Lib.cell_of_heap (heap_alloc_new w _)]
  match i, hi with
  | 0, _ => rfl
/-- The square of the law's first words, as it lies. -/
theorem first_lies (w : World) : Sqr (((w.alloc (.cells #[.int .i64 5, .int .i64 1] 3)).alloc (.cells #[.int .i64 1, .int .i64 9] 3)).alloc (.cells #[.slice (some ⟨w.heap.size, 0, none⟩) 2 2, .slice (some ⟨w.heap.size + 1, 0, none⟩) 2 2] 58)) (some ⟨w.heap.size + 1 + 1, 0, none⟩) [[5, 1], [1, 9]] ∧
    Below w.heap.size w (((w.alloc (.cells #[.int .i64 5, .int .i64 1] 3)).alloc (.cells #[.int .i64 1, .int .i64 9] 3)).alloc (.cells #[.slice (some ⟨w.heap.size, 0, none⟩) 2 2, .slice (some ⟨w.heap.size + 1, 0, none⟩) 2 2] 58)) := by
  have a1 := heap_alloc_new w (.cells #[.int .i64 5, .int .i64 1] 3)
  have b1 := below_alloc w (.cells #[.int .i64 5, .int .i64 1] 3)
  have s1 : (w.alloc (.cells #[.int .i64 5, .int .i64 1] 3)).heap.size = w.heap.size + 1 := by simp
  generalize w.alloc (.cells #[.int .i64 5, .int .i64 1] 3) = w1 at a1 b1 s1 ⊢
  have a2 := heap_alloc_new w1 (.cells #[.int .i64 1, .int .i64 9] 3)
  have b2 := below_alloc w1 (.cells #[.int .i64 1, .int .i64 9] 3)
  have s2 : (w1.alloc (.cells #[.int .i64 1, .int .i64 9] 3)).heap.size = w1.heap.size + 1 := by simp
  generalize w1.alloc (.cells #[.int .i64 1, .int .i64 9] 3) = w2 at a2 b2 s2 ⊢
  have a3 := heap_alloc_new w2 (.cells #[.slice (some ⟨w.heap.size, 0, none⟩) 2 2, .slice (some ⟨w.heap.size + 1, 0, none⟩) 2 2] 58)
  have b3 := below_alloc w2 (.cells #[.slice (some ⟨w.heap.size, 0, none⟩) 2 2, .slice (some ⟨w.heap.size + 1, 0, none⟩) 2 2] 58)
  generalize w2.alloc (.cells #[.slice (some ⟨w.heap.size, 0, none⟩) 2 2, .slice (some ⟨w.heap.size + 1, 0, none⟩) 2 2] 58) = w3 at a3 b3 ⊢
  rw [s1] at a2
  rw [s2, s1] at a3
  refine ⟨fun i hi => ?_, b1.trans ((b2.mono (by omega)).trans (b3.mono (by omega)))⟩
  have i1 := ins_two a1 (b2.trans (b3.mono (by omega)))
  have i2 := ins_two a2 b3
  match i, hi with
  | 0, _ => exact ⟨w.heap.size + 1 + 1, 0, some ⟨w.heap.size, 0, none⟩, 2, rfl, by rw [Lib.cell_of_heap a3]; rfl, i1⟩
  | 1, _ => exact ⟨w.heap.size + 1 + 1, 0, some ⟨w.heap.size + 1, 0, none⟩, 2, rfl, by rw [Lib.cell_of_heap a3]; rfl, i2⟩

theorem dR_take {cs : List (List Int)} {row : Nat} {y : Int} {i j : Nat} (h : j < (cs.getD i []).length) : (dR cs row y i).take (j + 1) = (dR cs row y i).take j ++ [if i = row then cAtM cs i j + y else cAtM cs i j] := by
  have h2 : j < (dR cs row y i).length := by rw [dR_len]; exact h
  rw [List.take_succ_eq_append_getElem h2, ← dR_at h]
  simp [h2]
theorem dS_succ (cs : List (List Int)) (row : Nat) (y : Int) (k : Nat) : dS cs row y (k + 1) = dS cs row y k ++ [dR cs row y k] := by
  unfold dS
  rw [List.range_succ, List.map_append]; rfl

section
variable (a b : Option Addr) (cs : List (List Int)) (m : List Int) (ca cb : Nat) (row y : Int) (w : World)

set_option maxHeartbeats 4000000 in
set_option maxRecDepth 100000 in
theorem matchLeast_any (ha : Sqr w a cs) (hm : cs.length ≤ maxLen) (hr : ∀ r ∈ cs, r.length ≤ maxLen) (hb : Ins w b m) (hbm : m.length ≤ maxLen) (hg : TypeLaid w) :
    Calls Tryd.prog 8 #[.slice a cs.length ca, .slice b m.length cb, .int .i64 row, .int .i64 y] w fun e w' => e = .returned (.bool true) ∧ Below w.heap.size w w' := by
  have hfl := first_lies w
  have hf : Calls Tryd.prog 23 #[.slice (some ⟨w.heap.size + 1 + 1, 0, none⟩) 2 2] (((w.alloc (.cells #[.int .i64 5, .int .i64 1] 3)).alloc (.cells #[.int .i64 1, .int .i64 9] 3)).alloc (.cells #[.slice (some ⟨w.heap.size, 0, none⟩) 2 2, .slice (some ⟨w.heap.size + 1, 0, none⟩) 2 2] 58)) fun e w' => ∃ g c, e = .returned (.tuple #[.slice g 2 c, .nilIface]) ∧ Ins w' g [1, 0] ∧ Below w.heap.size w w' := (match_any _ [[5, 1], [1, 9]] 2 _ hfl.1 (by decide) (by decide)).mono fun e w' ⟨g, c, he, h2, _, h3⟩ => by
    rw [first_is, first_ok] at he
    rw [first_is] at h2
    exact ⟨g, c, he, h2, hfl.2.trans (h3.mono hfl.2.size)⟩
  have hin2 : ∀ w1 g g' c c', Ins w1 g [1, 0] → Ins w1 g' [1, 0] → Below w.heap.size w w1 → Calls Tryd.prog 24 #[.slice g 2 c, .slice g' 2 c'] w1 fun e w' => e = .returned (.bool true) ∧ Below w.heap.size w w' := fun w1 g g' c c' i1 i2 h1 => by
    have := ints_any g g' [1, 0] [1, 0] c c' w1 i1 i2 (by decide)
    exact this.mono fun e w' ⟨he, h2⟩ => ⟨by rw [he]; simp, h1.trans (h2.mono h1.size)⟩
  have HCS : Hid (cs.length ≤ maxLen ∧ (∀ r ∈ cs, r.length ≤ maxLen) ∧ m.length ≤ maxLen ∧ Sqr w a cs ∧ Ins w b m ∧ TypeLaid w) := ⟨hm, hr, hbm, ha, hb, hg⟩
  obtain ⟨n, hn⟩ : ∃ n, cs.length = n := ⟨_, rfl⟩
  obtain ⟨l, hl⟩ : ∃ l, m.length = l := ⟨_, rfl⟩
  have HN : Hid (cs.length = n) := hn
  have HL : Hid (m.length = l) := hl
  rw [hn] at hm ⊢
  rw [hl] at hbm ⊢
  clear hn hl ha hr hb hg hfl
  unfold maxLen at hm hbm
  go_enter Tryd.func8, Tryd.ntmps8
  go_upto_region 5 with (first
    | (go_at_call 23; refine hf.mono ?_; rintro e w1 ⟨g1, c1, rfl, hi1, hb1⟩; have hi1a := hi1.below (below_alloc w1 (.cells #[.int .i64 1, .int .i64 0] 3)); have hi1b := ins_two (heap_alloc_new w1 (.cells #[.int .i64 1, .int .i64 0] 3)) (Below.refl _ _); have hb1a := hb1.trans ((below_alloc w1 (.cells #[.int .i64 1, .int .i64 0] 3)).mono hb1.size))
    | (go_at_call 24; refine (hin2 _ _ _ _ _ hi1a hi1b hb1a).mono ?_; rintro e w2 ⟨rfl, hb2⟩)
    | go_in)
  clear hi1 hi1a hi1b hb1 hb1a hf hin2
  obtain ⟨hml, hrl, hbl, ha, hb, hg⟩ := HCS.out
  have HA : Hid (Sqr w2 a cs) := ha.below hb2
  have HI : Hid (Ins w2 b m) := hb.below hb2
  have HG : Hid (TypeLaid w2) := hg.below hb2
  clear ha hb hg
  by_cases h0 : sqf cs = 0
  case neg =>
    have hmt : Calls Tryd.prog 23 #[.slice a cs.length ca] w2 fun e w' => ∃ g c, e = .returned (.tuple #[.slice g 0 c, .iface 45 (.int .i64 (sqf cs))]) ∧ Below w2.heap.size w2 w' := (match_any a cs ca w2 HA.out hml hrl).mono fun e w' ⟨g, c, he, _, _, h2⟩ => by
      rw [mcO_bad h0, errV_not h0] at he
      exact ⟨g, c, he, h2⟩
    have hsq : ∀ w3, Below w2.heap.size w2 w3 → Calls Tryd.prog 21 #[.slice a cs.length ca] w3 fun e w' => e = .returned (.int .i64 (sqf cs)) ∧ Below w2.heap.size w2 w' := fun w3 h3 => (squareFault a cs ca w3 (HA.out.below h3) hml hrl).mono fun e w' ⟨h1, q, h2⟩ => ⟨h1, by rw [h2]; exact below_drawn h3⟩
    obtain ⟨f, hf⟩ : ∃ f, sqf cs = f := ⟨_, rfl⟩
    rw [hf, HN.out] at hmt hsq
    have hne : (f == 0) = false := by rw [← hf]; simpa using h0
    have hne2 : (f != 0) = true := by rw [← hf]; simpa using h0
    clear hf h0 hml hrl hbl
    go_wp2_with (first
      | (go_at_call 23; refine hmt.mono ?_; rintro e w3 ⟨g3, c3, rfl, hb3⟩)
      | (go_at_call 21; refine (hsq _ (by assumption)).mono ?_; rintro e w4 ⟨rfl, hb4⟩))
    go_ret
    exact ⟨by first | rfl | trivial | exact ret_b hne2, hb2.trans (hb4.mono hb2.size)⟩
  case pos =>
  have h8 := (sqf_zero h0).1
  rw [HN.out] at h8
  have hmt : Calls Tryd.prog 23 #[.slice a cs.length ca] w2 fun e w' => ∃ g c, e = .returned (.tuple #[.slice g cs.length c, .nilIface]) ∧ Ins w' g (mcO cs) ∧ Below w2.heap.size w2 w' := (match_any a cs ca w2 HA.out hml hrl).mono fun e w' ⟨g, c, he, h1, _, h2⟩ => by
    rw [mcO_len h0, h0] at he
    exact ⟨g, c, he, h1, h2⟩
  have hc1 : ∀ w3 g c, Ins w3 g (mcO cs) → Below w2.heap.size w2 w3 → Calls Tryd.prog 26 #[.slice a cs.length ca, .slice g cs.length c] w3 fun e w' => e = .returned (.tuple #[.int .i64 (lcO cs), .nilIface]) ∧ w' = w3 := fun w3 g c h1 h3 => by
    have := cost_any a g cs (mcO cs) ca c w3 (HA.out.below h3) hml hrl h1 (by rw [mcO_len h0]; exact hml)
    rw [mcO_len h0, (co_best h0).1, (co_best h0).2] at this
    exact this
  have hc2 : ∀ w3, Below w2.heap.size w2 w3 → Calls Tryd.prog 26 #[.slice a cs.length ca, .slice b m.length cb] w3 fun e w' => e = .returned (.tuple #[.int .i64 (coO cs m), errV (coF cs m)]) ∧ w' = w3 := fun w3 h3 => cost_any a b cs m ca cb w3 (HA.out.below h3) hml hrl (HI.out.below h3) hbl
  have HLE : Hid (coF cs m = 0 → lcO cs ≤ coO cs m) := fun h => co_least h0 h
  have hlb := lcO_bound h0
  have HZ : Hid (sqf cs = 0) := h0
  rw [HN.out] at hmt hc1 hc2
  rw [HL.out] at hc2
  obtain ⟨X, hX⟩ : ∃ X, lcO cs = X := ⟨_, rfl⟩
  obtain ⟨Y, hY⟩ : ∃ Y, coO cs m = Y := ⟨_, rfl⟩
  obtain ⟨F, hF⟩ : ∃ F, coF cs m = F := ⟨_, rfl⟩
  rw [hX] at hc1 hlb
  rw [hY, hF] at hc2
  rw [hX, hY, hF] at HLE
  have HX : Hid (lcO cs = X) := hX
  clear hX hY hF h0 hml hrl hbl
  go_upto_region 11 with (first
    | (go_at_call 23; refine hmt.mono ?_; rintro e w3 ⟨g3, c3, rfl, hi3, hb3⟩)
    | (go_at_call 26; refine (hc1 _ _ _ hi3 hb3).mono ?_; rintro e w4 ⟨rfl, rfl⟩)
    | go_in)
  by_cases hF0 : F = 0
  case' pos =>
    have hXY := HLE.out hF0
    subst hF0
    rw [errV_zero] at hc2
  case' neg =>
    rw [errV_not hF0] at hc2
  all_goals
    clear HLE hmt hc1
    go_upto_region 14 with (first
      | (go_at_call 26; refine (hc2 _ hb3).mono ?_; rintro e w4 ⟨rfl, rfl⟩)
      | go_in)
  all_goals
    have hbw : Below w.heap.size w w4 := hb2.trans (hb3.mono hb2.size)
    by_cases hrg : row < 0 ∨ (n : Int) ≤ row ∨ y < 0 ∨ 1000 < y
    · clear HA HI HG HZ HX HN HL HCS hc2
      have hV : Hid (TrueV w (.returned (.bool true)) w4) := ⟨rfl, hbw⟩
      by_cases h1 : row < 0
      case' neg =>
        have h1 : 0 ≤ row := by omega
        by_cases h2 : (n : Int) ≤ row
        case' neg =>
          have h2 : row < (n : Int) := by omega
          by_cases h3 : y < 0
          case' neg =>
            have h3 : 0 ≤ y := by omega
            have h4 : 1000 < y := by omega
      all_goals
        clear hrg
        go_wp2
        go_ret
        exact hV.out
    · have r1 : 0 ≤ row := by omega
      have r2 : row < n := by omega
      have r3 : 0 ≤ y := by omega
      have r4 : y ≤ 1000 := by omega
      obtain ⟨q, rfl⟩ : ∃ q : Nat, row = q := ⟨row.toNat, by omega⟩
      have r5 : q < n := by omega
      clear hrg
      have hlm : n ≤ 1000 := by omega
      obtain ⟨U, hU⟩ : ∃ U, w4.heap.size = U := ⟨_, rfl⟩
      have HU : Hid (w4.heap.size = U) := hU
      have HI3 : Hid (Ins w4 g3 (mcO cs)) := hi3
      have hz2 : w2.heap.size ≤ U := by rw [← hU]; exact hb3.size
      have d1 : decide ((q : Int) < 0) = false := by rw [decide_eq_false_iff_not]; omega
      have d2 : decide (n ≤ q) = false := by rw [decide_eq_false_iff_not]; omega
      have d3 : decide (y < 0) = false := by rw [decide_eq_false_iff_not]; omega
      have d4 : decide (1000 < y) = false := by rw [decide_eq_false_iff_not]; omega
      clear hU hi3 hc2 HI r1 r2
      go_upto_region 16 with fail
      clear d1 d2 d3 d4
      go_wp2
      go_loopw [17, 18] (fun d i wx => ∃ k : Nat, k ≤ n ∧ i = .int .i64 k ∧ Sql wx U d (dS cs q y k) ∧ Below U w4 wx) (fun _ i _ => n - (intOf i).toNat)
      case atStart => exact ⟨0, Nat.zero_le _, rfl, Sql.nil _ _, Below.refl _ _⟩
      case round =>
        obtain ⟨k, hk, rfl, hsq, hbl⟩ := hrel
        have hb5 : Below w2.heap.size w2 wr := hb3.trans (hbl.mono hz2)
        by_cases hlt : k < n
        · have hzU : U ≤ wr.heap.size := by have := hbl.size; rw [HU.out] at this; exact this
          obtain ⟨b1, o1, rfl, hat1⟩ := Sqr.at (HA.out.below hb5) (i := k) (by rw [HN.out]; exact hlt)
          obtain ⟨ar, cap, hc1, hin1⟩ := hat1 k (by rw [HN.out]; exact hlt)
          have hrl : (cs.getD k []).length = n := (sqf_len HZ.out (by rw [HN.out]; exact hlt)).trans HN.out
          rw [hrl] at hc1
          have HSQ : Hid (Sql wr U u17 (dS cs q y k)) := hsq
          have HIN : Hid (Ins wr ar (cs.getD k [])) := hin1
          have HRL : Hid ((cs.getD k []).length = n) := hrl
          have HC1 : Hid (∀ wx, Below wr.heap.size wr wx → wx.cell? ⟨b1, o1 + k, none⟩ = some (.slice ar n cap)) := fun wx h => cell_later h hc1
          clear hsq hat1 hin1 hrl hc1
          obtain ⟨R, hR⟩ : ∃ R, wr.heap.size = R := ⟨_, rfl⟩
          have HR : Hid (wr.heap.size = R) := hR
          rw [hR] at hzU
          clear hR
          go_wp2
          go_loopw [19, 20] (fun v i wx => ∃ j : Nat, j ≤ n ∧ i = .int .i64 j ∧ Inl wx R v ((dR cs q y k).take j) ∧ Below R wr wx) (fun _ i _ => n - (intOf i).toNat)
          case atStart => exact ⟨0, Nat.zero_le _, rfl, Inl.nil _ _, Below.refl _ _⟩
          case round =>
            obtain ⟨j, hj, rfl, hl, hbl2⟩ := hrel
            have hbR : Below _ _ wr := HR.out ▸ hbl2
            have hc1 := HC1.out _ hbR
            have hzR : R ≤ wr.heap.size := by have := hbR.size; rw [HR.out] at this; exact this
            by_cases hjt : j < n
            · obtain ⟨b3, o3, rfl, hat3⟩ := Ins.at (HIN.out.below hbR) (i := j) (by rw [HRL.out]; exact hjt)
              have hc3 := hat3 j (by rw [HRL.out]; exact hjt)
              have hxb := sqf_cost HZ.out k j
              have hcx : (cs.getD k []).getD j 0 = cAtM cs k j := rfl
              have hT := dR_take (cs := cs) (row := q) (y := y) (i := k) (j := j) (by rw [HRL.out]; exact hjt)
              rw [hcx] at hc3
              obtain ⟨x, hx⟩ : ∃ x, cAtM cs k j = x := ⟨_, rfl⟩
              rw [hx] at hc3 hxb hT
              have HT : Hid ((dR cs q y k).take (j + 1) = (dR cs q y k).take j ++ [if k = q then x + y else x]) := hT
              have htl : ((dR cs q y k).take j).length + 1 ≤ 100000 := by rw [List.length_take]; omega
              obtain ⟨tk, htk⟩ : ∃ tk, (dR cs q y k).take j = tk := ⟨_, rfl⟩
              rw [htk] at HT htl hl
              have KA : Hid (∀ v, Inl (wr.alloc (.cells #[.int .i64 v] 3)) R u19 tk ∧ Ins (wr.alloc (.cells #[.int .i64 v] 3)) (some ⟨wr.heap.size, 0, none⟩) [v] ∧ R ≤ (wr.alloc (.cells #[.int .i64 v] 3)).heap.size) := fun v => ⟨hl.later (below_alloc _ _), ins_one wr v, by simp; omega⟩
              have KB : Hid (∀ v, Below R wr (wr.alloc (.cells #[.int .i64 v] 3))) := fun v => (below_alloc wr _).mono hzR
              have KO : Hid (∀ k, u19.ownBlock = some k → R ≤ k) := fun k hk => (hl.own k hk).1
              clear hat3 hcx hT hx htk hl HSQ HIN HRL HC1 hb5 hbR HI3
              by_cases hkq : k = q
              case' pos =>
                have hT2 := HT.out
                rw [if_pos hkq] at hT2
                have hkq2 : ((k : Int) == (q : Int)) = true := by rw [beq_iff_eq]; omega
                obtain ⟨hA, hO, hS⟩ := KA.out (x + y)
              case' neg =>
                have hT2 := HT.out
                rw [if_neg hkq] at hT2
                have hkq2 : ((k : Int) == (q : Int)) = false := by rw [beq_eq_false_iff_ne]; omega
                obtain ⟨hA, hO, hS⟩ := KA.out x
              all_goals
                have HT2 : Hid _ := hT2
                clear hT2 HT KA hkq
                go_wp2_with (first
                  | (at_builtin; refine append_ints rfl _ _ rfl R u19 tk rfl hA (some ⟨wr.heap.size, 0, none⟩) [_] 1 1 rfl rfl hO htl hS ?_; intro v' w6 hI6 hg6)
                  | go_in)
                go_roundw
                case rel => exact ⟨j + 1, by omega, by go_num, by rw [HT2.out]; exact hI6, (hbl2.trans (KB.out _)).grown hg6 hS KO.out⟩
                case measure => simp [intOf]; omega
            · have hjn : j = n := by omega
              have hfull : (dR cs q y k).take j = dR cs q y k := List.take_of_length_le (by rw [dR_len, HRL.out]; omega)
              rw [hfull] at hl
              obtain ⟨g5, c5, rfl, hi5, hx5⟩ := hl.at
              have hdl : (dR cs q y k).length = n := by rw [dR_len, HRL.out]
              have hKA : Sql (wr.alloc (.cells #[.slice g5 n c5] 58)) U u17 (dS cs q y k) := (HSQ.out.below hbR).below (below_alloc _ _)
              have hcell : (wr.alloc (.cells #[.slice g5 n c5] 58)).cell? ⟨wr.heap.size, 0, none⟩ = some (.slice g5 n c5) := by
                rw [Lib.cell_of_heap (heap_alloc_new wr _)]; rfl
              have hi6 : Ins (wr.alloc (.cells #[.slice g5 n c5] 58)) g5 (dR cs q y k) := hi5.below (below_alloc _ _)
              have hS : U ≤ (wr.alloc (.cells #[.slice g5 n c5] 58)).heap.size := by simp; omega
              have hown := HSQ.out.own
              have hne : ∀ x, g5 = some x → u17.ownBlock ≠ some x.block ∧ x.block < (wr.alloc (.cells #[.slice g5 n c5] 58)).heap.size := fun x hx => by
                obtain ⟨p1, p2⟩ := hx5 x hx
                refine ⟨fun e => ?_, by simp; omega⟩
                have := (hown _ e).2
                rw [HR.out] at this
                omega
              have KO : Hid (∀ k, u17.ownBlock = some k → U ≤ k) := fun k hk => (hown k hk).1
              have hb6 : Below U w4 (wr.alloc (.cells #[.slice g5 n c5] 58)) := hbl.trans ((hbl2.mono hzU).trans ((below_alloc wr _).mono (by omega)))
              have hdS : (dS cs q y k).length ≤ 100000 := by rw [dS_len]; omega
              rw [hdl]
              clear hfull hl hi5 hx5 HSQ HIN HRL HC1 hb5 hbR hown HI3 hbl hbl2
              go_wp2_with (first
                | (at_builtin; refine append_row rfl _ _ rfl U u17 (dS cs q y k) rfl hKA wr.heap.size g5 (dR cs q y k) n c5 hdl rfl hcell hi6 hne hdS hS ?_; intro v' w6 hS6 hg6 hv6)
                | go_in)
              go_roundw
              case rel => exact ⟨k + 1, by omega, by go_num, by rw [dS_succ]; exact hS6, hb6.grown hg6 hS KO.out⟩
              case measure => simp [intOf]; omega
        · have hkn : k = n := by omega
          rw [hkn] at hsq
          obtain ⟨g7, c7, rfl, hsd⟩ := hsq.sqr
          obtain ⟨hml, hrl, hbm2, _, _, _⟩ := HCS.out
          have hdl : (dS cs q y n).length = n := dS_len _ _ _ _
          have hdm : (dS cs q y n).length ≤ maxLen := by rw [hdl]; unfold maxLen; omega
          have hdr : ∀ r ∈ dS cs q y n, r.length ≤ maxLen := fun r hr => by
            unfold dS at hr
            obtain ⟨i, hi, rfl⟩ := List.mem_map.1 hr
            rw [dR_len, sqf_len HZ.out (by rw [HN.out]; exact List.mem_range.1 hi), HN.out]
            unfold maxLen; omega
          have hwr : Below w.heap.size w wr := hbw.trans (hbl.mono (by have := hbw.size; rw [HU.out] at this; exact this))
          rw [hdl]
          by_cases hd : sqf (dS cs q y n) = 0
          case neg =>
            have h1 : sqf (dS cs q y n) = 1 := by
              have := dS_fault HZ.out q y
              rw [HN.out] at this
              exact this hd
            have hmt : Calls Tryd.prog 23 #[.slice g7 n c7] wr fun e w' => ∃ g c, e = .returned (.tuple #[.slice g 0 c, .iface 45 (.int .i64 1)]) ∧ Below wr.heap.size wr w' := by
              have := match_any g7 (dS cs q y n) c7 wr hsd hdm hdr
              rw [hdl] at this
              refine this.mono fun e w' ⟨g, c, he, _, _, h2⟩ => ?_
              rw [mcO_bad hd, h1, errV_not (by decide)] at he
              exact ⟨g, c, he, h2⟩
            have her : ∀ w3, Below wr.heap.size wr w3 → Calls Tryd.prog 15 #[.iface 45 (.int .i64 1), .int .i64 1] w3 fun e w' => e = .returned (.bool true) ∧ Below wr.heap.size wr w' := fun w3 h3 =>
              (error_err 1 1 w3 ((HG.out.below hb5).below h3)).mono fun e w' ⟨he, h2⟩ => ⟨by rw [he]; simp, h3.trans (h2.mono h3.size)⟩
            clear hdm hdr hd h1 hsd hsq HI3 HA HG HZ HX HCS hml hrl hbm2
            go_wp2_with (first
              | (go_at_call 23; refine hmt.mono ?_; rintro e w8 ⟨g8, c8, rfl, hb8⟩)
              | (go_at_call 15; refine (her _ (by assumption)).mono ?_; rintro e w9 ⟨rfl, hb9⟩))
            go_ret
            exact ⟨by first | rfl | trivial, hwr.trans (hb9.mono hwr.size)⟩
          case pos =>
          obtain ⟨hbe, hbo⟩ := dS_best HZ.out (row := q) (y := y) (by rw [HN.out]; exact r5) (by rw [HN.out]; exact hd)
          rw [HN.out] at hbe hbo
          rw [HX.out] at hbo
          have hmt : Calls Tryd.prog 23 #[.slice g7 n c7] wr fun e w' => ∃ g c, e = .returned (.tuple #[.slice g n c, .nilIface]) ∧ Ins w' g (mcO cs) ∧ Below wr.heap.size wr w' := by
            have := match_any g7 (dS cs q y n) c7 wr hsd hdm hdr
            rw [hdl] at this
            refine this.mono fun e w' ⟨g, c, he, h1, _, h2⟩ => ?_
            rw [mcO_len hd, hdl, hd, errV_zero] at he
            rw [hbe] at h1
            exact ⟨g, c, he, h1, h2⟩
          have hcl : (mcO cs).length = n := (mcO_len HZ.out).trans HN.out
          have hco : ∀ w3 g c, Ins w3 g (mcO cs) → Below wr.heap.size wr w3 → Calls Tryd.prog 26 #[.slice g7 n c7, .slice g n c] w3 fun e w' => e = .returned (.tuple #[.int .i64 (X + y), .nilIface]) ∧ w' = w3 := fun w3 g c h1 h3 => by
            have := cost_any g7 g (dS cs q y n) (mcO cs) c7 c w3 (hsd.below h3) hdm hdr h1 (by rw [hcl]; unfold maxLen; omega)
            have hcb := co_best hd
            rw [hbe] at hcb
            rw [hdl, hcl, hcb.1, hcb.2, hbo] at this
            exact this
          have hin : ∀ w3 g c, Ins w3 g (mcO cs) → Below wr.heap.size wr w3 → Calls Tryd.prog 24 #[.slice g3 n c3, .slice g n c] w3 fun e w' => e = .returned (.bool true) ∧ Below wr.heap.size wr w' := fun w3 g c h1 h3 => by
            have := ints_any g3 g (mcO cs) (mcO cs) c3 c w3 ((HI3.out.below (by rw [HU.out]; exact hbl)).below h3) h1 (by rw [hcl]; unfold maxLen; omega)
            rw [hcl] at this
            exact this.mono fun e w' ⟨he, h2⟩ => ⟨by rw [he]; simp, h3.trans (h2.mono h3.size)⟩
          clear hdm hdr hd hsd hsq HI3 HA HG HZ HX HCS hml hrl hbm2 hbe hbo hcl
          go_wp2_with (first
            | (go_at_call 23; refine hmt.mono ?_; rintro e w8 ⟨g8, c8, rfl, hi8, hb8⟩)
            | (go_at_call 26; refine (hco _ _ _ hi8 hb8).mono ?_; rintro e w9 ⟨rfl, rfl⟩)
            | (go_at_call 24; refine (hin _ _ _ hi8 hb8).mono ?_; rintro e w10 ⟨rfl, hb10⟩))
          go_ret
          exact ⟨by first | rfl | trivial | simp, hwr.trans (hb10.mono hwr.size)⟩

end

end Go.Proofs.YtfmhapajdnmhoaeDoor
