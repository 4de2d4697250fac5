/-
  Walk of the law UnifiedBack: what is printed is read, what is read is printed so, what is cut off within is none.
-/
import Derived.Test.YtjgdicghmkfohacGreatDoorUpb
import Derived.Test.YtjgdicghmkfohacGreatDoorUpr2
import Derived.Test.YtjgdicghmkfohacGreatDoorHsame
import Derived.Test.YtjgdicghmkfohacGreatDoorTold3
import Derived.Deep.CutRange

namespace Go.Proofs.YtjgdicghmkfohacGreatDoor
open Go.RowKit Dist

attribute [local go_sem] Go.wp_at_zero Go.wp_at_succ

theorem ret_n {a b : Int} (h : a = b) : Ending.returned (.int .i64 a) = .returned (.int .i64 b) := by rw [h]

set_option maxHeartbeats 400000 in
theorem pick (c : Int) (n : Nat) (w : World) (hn : 0 < n) (hn2 : n ≤ 1000) (h0 : -9223372036854775808 ≤ c) (h1 : c ≤ 9223372036854775807) :
    Calls Tryz.prog 13 #[.int .i64 c, .int .i64 n] w fun e w' => e = .returned (.int .i64 (((if c < 0 then -(c + 1) else c) % (n : Int)).toNat : Nat)) ∧ w' = w := by
  have hz : ((n : Int) == 0) = false := by simp; omega
  have HT : Hid (∀ x : Int, 0 ≤ x → ((x % (n : Int)).toNat : Int) = x.tmod n) := fun x hx => by
    rw [Int.tmod_eq_emod_of_nonneg hx, Int.toNat_of_nonneg (Int.emod_nonneg _ (by omega))]
  by_cases h : c < 0
  · rw [if_pos h]
    have e1 : 0 ≤ -(c + 1) := by omega
    go_enter Tryz.func13, Tryz.ntmps13
    go_wp2
    go_ret
    refine ⟨ret_n ?_, rfl⟩
    rw [HT.out _ e1, Int.neg_tmod]
  · rw [if_neg h]
    go_enter Tryz.func13, Tryz.ntmps13
    go_wp2
    go_ret
    refine ⟨ret_n ?_, rfl⟩
    rw [Int.max_eq_left (Int.emod_nonneg c (show (n : Int) ≠ 0 by omega))]

/-- The fact that is asked first. -/
theorem fact_ok : (hf [((1 : Int), (1 : Int), [((43 : Int), ByteArray.mk #[120])])]).2 = 0 := by decide +kernel

theorem fact_text : prt [((1 : Int), (1 : Int), [((43 : Int), ByteArray.mk #[120])])] = [64, 64, 32, 45, 49, 44, 48, 32, 43, 50, 44, 49, 32, 64, 64, 10, 43, 120, 10] := by
  have e0 : Lib.decDigits 0 = [48] := by rw [dd_small (by decide)]; decide
  have e1 : Lib.decDigits 1 = [49] := by rw [dd_small (by decide)]; decide
  have e2 : Lib.decDigits 2 = [50] := by rw [dd_small (by decide)]; decide
  have o : ob [((43 : Int), ByteArray.mk #[120])] = 0 := by decide +kernel
  have n : nb [((43 : Int), ByteArray.mk #[120])] = 1 := by decide +kernel
  simp [prt, lns, lnh, hdl, spn, joinC, mkl, o, n, e0, e1, e2]

theorem hks_two (w : World) : Hks ((w.alloc (.cells #[.int .u8 43, .string ⟨#[120]⟩] 39)).alloc (.cells #[.int .i64 1, .int .i64 1, .slice (some ⟨w.heap.size, 0, none⟩) 1 1] 42)) (some ⟨w.heap.size + 1, 0, none⟩) [((1 : Int), (1 : Int), [((43 : Int), ByteArray.mk #[120])])] := by
  obtain ⟨w1, hw1⟩ : ∃ w1, w1 = w.alloc (.cells #[.int .u8 43, .string ⟨#[120]⟩] 39) := ⟨_, rfl⟩
  have hs : w1.heap.size = w.heap.size + 1 := by rw [hw1]; simp
  have h1 := heap_alloc_new w (.cells #[.int .u8 43, .string ⟨#[120]⟩] 39)
  rw [← hw1] at h1 ⊢
  have h2 := heap_alloc_new w1 (.cells #[.int .i64 1, .int .i64 1, .slice (some ⟨w.heap.size, 0, none⟩) 1 1] 42)
  rw [hs] at h2
  have h3 := blk_below (below_alloc w1 (.cells #[.int .i64 1, .int .i64 1, .slice (some ⟨w.heap.size, 0, none⟩) 1 1] 42)) (by omega) h1
  intro i hi
  simp at hi
  subst hi
  refine ⟨w.heap.size + 1, 0, some ⟨w.heap.size, 0, none⟩, 1, rfl, Lib.cell_of_heap h2 0, Lib.cell_of_heap h2 1, Lib.cell_of_heap h2 2, ?_, Nat.le_refl _⟩
  intro j hj
  simp at hj
  subst hj
  exact ⟨w.heap.size, 0, rfl, Lib.cell_of_heap h3 0, Lib.cell_of_heap h3 1⟩

/-- The last mark of hunks whose text is not empty. -/
theorem last_of_text {l : List Uk} {T : ByteArray} {w : World} {a : Option Addr} (hf0 : (hf l).2 = 0) (hT : T.data.toList = prt l) (h0 : T.size ≠ 0) (ha : Hks w a l) :
    ∃ (k j b off bm om cm : Nat) (tx : ByteArray), l.length = k + 1 ∧ a = some ⟨b, off, none⟩ ∧ w.cell? ⟨b, off + k * 3 + 2, none⟩ = some (.slice (some ⟨bm, om, none⟩) (j + 1) cm) ∧ w.cell? ⟨bm, om + j * 2 + 1, none⟩ = some (.string tx) ∧ tx.size ≤ 80 ∧ tx.size + 2 ≤ T.size ∧ k ≤ 60 ∧ j ≤ 120 ∧
      ∀ r, r ≤ tx.size → ∃ i, psr ((prt l).take (T.size - 1 - r)) = ([], i, 5) ∧ 0 < i := by
  rcases List.eq_nil_or_concat l with rfl | ⟨l0, h, e⟩
  · exact absurd (by rw [Lib.size_eq, hT]; rfl) h0
  rw [List.concat_eq_append] at e
  have hkl : l0.length < l.length := by rw [e]; simp
  obtain ⟨b, off, am, cm, rfl, c1, c2, c3, c4, _⟩ := ha l0.length hkl
  have eh : l.getD l0.length (0, 0, []) = h := by rw [e]; simp
  rw [eh] at c3 c4
  obtain ⟨r1, r2, r3⟩ := hf_rd hf0 h (by rw [e]; simp)
  obtain ⟨_, r4⟩ := sf_zero r3
  rcases List.eq_nil_or_concat h.2.2 with e0 | ⟨ms, m, e0⟩
  · rw [e0] at r2; simp [chg] at r2
  rw [List.concat_eq_append] at e0
  have hjl : ms.length < h.2.2.length := by rw [e0]; simp
  obtain ⟨bm, om, rfl, d1, d2⟩ := c4 ms.length hjl
  have em : h.2.2.getD ms.length (0, ByteArray.empty) = m := by rw [e0]; simp
  rw [em] at d2
  have hml : m.2.size ≤ 80 := by
    have := (lf_zero (r4 m (by rw [e0]; simp)).2).2
    rw [Lib.size_eq]; exact this
  have hlen : T.size = (prt l).length := by rw [Lib.size_eq, hT]
  refine ⟨l0.length, ms.length, b, off, bm, om, cm, m.2, by rw [e]; simp, rfl, by rw [c3, e0]; simp, d2, hml, ?_, by have := (hf_zero hf0).1; omega, by have := (sf_zero r3).1; omega, fun r hr => ?_⟩
  · rw [hlen, e]
    unfold prt
    rw [lns_snoc, joinC_append, List.length_append]
    have hx : (mkl m) ∈ lnh h 0 0 := by unfold lnh; rw [e0]; simp
    have h1 : (mkl m).length = m.2.size + 1 := by unfold mkl; rw [List.length_cons, Lib.size_eq]
    have h2 : (mkl m).length + 1 ≤ (joinC 10 (lnh h 0 0)).length := by
      have : ∀ (ls : List (List UInt8)) (x : List UInt8), x ∈ ls → x.length + 1 ≤ (joinC 10 ls).length := fun ls => by
        induction ls with
        | nil => intro x hx; simp at hx
        | cons y r ih =>
          intro x hx
          rw [joinC, List.length_append, List.length_cons]
          rcases List.mem_cons.1 hx with rfl | hx
          · omega
          · have := ih x hx; omega
      exact this _ _ hx
    omega
  · obtain ⟨i, h1, h2⟩ := psr_cut (l := l0) (h := h) (by rw [← e]; exact hf0) e0 r hr
    rw [← e] at h1
    exact ⟨i, by rw [hlen]; exact h1, h2⟩

set_option maxRecDepth 100000 in
set_option maxHeartbeats 2000000 in
theorem back_any (a : Option Addr) (l : List Uk) (ca : Nat) (c : Int) (s : ByteArray) (w : World) (ha : Hks w a l) (hm : l.length ≤ maxLen) (hms : ∀ h ∈ l, h.2.2.length ≤ maxLen) (hc0 : -9223372036854775808 ≤ c) (hc1' : c ≤ 9223372036854775807) (hs : s.size ≤ maxLen) (hg : Gs w) (ht : TypeLaid w) :
    Calls Tryz.prog 4 #[.slice a l.length ca, .int .i64 c, .string s] w fun e w' => e = .returned (.bool true) ∧ Below w.heap.size w w' := by
  have hb0 := (below_alloc w (.cells #[.int .u8 43, .string ⟨#[120]⟩] 39)).trans ((below_alloc (w.alloc (.cells #[.int .u8 43, .string ⟨#[120]⟩] 39)) (.cells #[.int .i64 1, .int .i64 1, .slice (some ⟨w.heap.size, 0, none⟩) 1 1] 42)).mono (by simp))
  have hp0 := print_ok _ _ 1 _ (hks_two w) fact_ok
  rw [fact_text] at hp0
  have HB0 : Hid (Below w.heap.size w ((w.alloc (.cells #[.int .u8 43, .string ⟨#[120]⟩] 39)).alloc (.cells #[.int .i64 1, .int .i64 1, .slice (some ⟨w.heap.size, 0, none⟩) 1 1] 42))) := hb0
  have HG : Hid (Gs w) := hg
  have HT : Hid (TypeLaid w) := ht
  have HA : Hid (Hks w a l) := ha
  have HM : Hid (l.length ≤ maxLen) := hm
  have HMS : Hid (∀ h ∈ l, h.2.2.length ≤ maxLen) := hms
  obtain ⟨n, hn⟩ : ∃ n, l.length = n := ⟨_, rfl⟩
  have HN : Hid (l.length = n) := hn
  rw [hn]
  unfold maxLen at hm
  rw [hn] at hm
  clear hb0 hg ht ha hms hn
  go_enter Tryz.func4, Tryz.ntmps4
  go_wp2_with fail
  refine hp0.mono ?_
  rintro e w1 ⟨rfl, hb1⟩
  have hb1 := HB0.out.trans (hb1.mono HB0.out.size)
  clear hp0 HB0
  have hpa := parse_any s w1 (HG.out.below hb1) hs
  obtain ⟨pl, hpl⟩ : ∃ x, (psr s.data.toList).1 = x := ⟨_, rfl⟩
  obtain ⟨pk, hpk⟩ : ∃ x, (psr s.data.toList).2.1 = x := ⟨_, rfl⟩
  obtain ⟨pf, hpf⟩ : ∃ x, (psr s.data.toList).2.2 = x := ⟨_, rfl⟩
  have HPP : Hid (psr s.data.toList = (pl, pk, pf)) := by show psr s.data.toList = _; rw [← hpl, ← hpk, ← hpf]
  rw [hpl, hpk, hpf] at hpa
  clear hpl hpk hpf
  obtain ⟨ev, hev⟩ : ∃ ev, errV pf = ev := ⟨_, rfl⟩
  have HEV : Hid (errV pf = ev) := hev
  rw [hev] at hpa
  clear hev
  go_wp2_with (go_at_call 11; refine hpa.mono ?_)
  rintro e w2 ⟨xa, xc, rfl, hks2, _, hb2⟩
  have hb2 := hb1.trans (hb2.mono hb1.size)
  have HK2 : Hid (Hks w2 xa pl) := hks2
  clear hpa hb1 hks2
  obtain ⟨zb, hzb⟩ : ∃ zb : Bool, decide (pf = 0) = zb := ⟨_, rfl⟩
  have HZB : Hid (decide (pf = 0) = zb) := hzb
  clear hzb
  go_upto_region 5 with fail
  go_cut [42] from 21 (fun u wx => u = .bool zb ∧ wx = w2)
  case first =>
    by_cases hz : pf = 0
    · obtain rfl : ev = .nilIface := by rw [← HEV.out, hz]; rfl
      obtain rfl : zb = true := by rw [← HZB.out, hz]; rfl
      clear hz
      go_wp2_with fail
      go_meet
      case rel => exact ⟨rfl, rfl⟩
    · obtain ⟨fv, rfl⟩ : ∃ fv, ev = .iface 23 (.int .i64 fv) := ⟨pf, by rw [← HEV.out]; exact errV_not hz⟩
      obtain rfl : zb = false := by rw [← HZB.out]; simpa using hz
      clear hz
      go_wp2_with fail
      go_meet
      case rel => exact ⟨rfl, rfl⟩
  case rest =>
  obtain ⟨rfl, rfl⟩ := hcut
  obtain ⟨w2, rfl⟩ : ∃ w2, w2 = wc := ⟨_, rfl⟩
  go_upto_if 42 with fail
  go_cut [12, 13] from 21 (fun _ _ wx => Below w.heap.size w wx)
  case first =>
    cases zb
    · go_wp2_with fail
      go_meet
      case rel => exact hb2
    · have hz : pf = 0 := of_decide_eq_true HZB.out
      obtain ⟨e1, e2, e3⟩ := prt_psr (by rw [← hz]; exact HPP.out)
      have HE1 : Hid (prt pl = s.data.toList) := e1
      have hp1 := print_ok xa pl xc w2 HK2.out e2
      rw [HE1.out, show ByteArray.mk s.data.toList.toArray = s from data_bar s] at hp1
      clear e1 e2 e3 hz
      go_wp2_with (go_at_call 8; refine hp1.mono ?_)
      rintro e w3 ⟨rfl, hb3⟩
      have hbW := hb2.trans (hb3.mono hb2.size)
      clear hp1 hb3
      go_wp2_with fail
      go_meet
      case rel => exact hbW
  case rest =>
    have hbW := hcut
    obtain ⟨W, rfl⟩ : ∃ W, W = wc := ⟨_, rfl⟩
    clear hcut HK2 hb2 HEV
    by_cases hf0 : (hf l).2 = 0
    case' neg =>
      have hp2 := print_bad a l ca W (HA.out.below hbW) HM.out HMS.out hf0
      rw [HN.out] at hp2
      obtain ⟨f, hf⟩ : ∃ f, (hf l).2 = f := ⟨_, rfl⟩
      rw [hf] at hp2
      clear hf0 hf
      go_wp2_with (go_at_call 8; refine hp2.mono ?_; rintro e w4 ⟨rfl, hb4⟩)
      go_ret
      exact ⟨rfl, hbW.trans (hb4.mono hbW.size)⟩
    case' pos =>
      have hp2 := print_ok a l ca W (HA.out.below hbW) hf0
      rw [HN.out] at hp2
      have HF : Hid ((hf l).2 = 0) := hf0
      obtain ⟨T, hT⟩ : ∃ T, ByteArray.mk (prt l).toArray = T := ⟨_, rfl⟩
      have HTd : Hid (T.data.toList = prt l) := by show T.data.toList = prt l; rw [← hT]
      have hTs : T.size ≤ 14760 := by have := (prt_len hf0).2; rw [Lib.size_eq, HTd.out]; exact this
      rw [hT] at hp2
      clear hf0 hT
      go_wp2_with (go_at_call 8; refine hp2.mono ?_)
      rintro e w4 ⟨rfl, hb4⟩
      have hb4 := hbW.trans (hb4.mono hbW.size)
      have hpt := parse_any T w4 (HG.out.below hb4) (Nat.le_trans hTs (by decide))
      rw [HTd.out, psr_prt HF.out] at hpt
      dsimp only at hpt
      rw [errV_zero, HN.out] at hpt
      clear hp2
      go_wp2_with (go_at_call 11; refine hpt.mono ?_)
      rintro e w5 ⟨ya, yc, rfl, hks5, _, hb5⟩
      have hb5 := hb4.trans (hb5.mono hb4.size)
      have hheq := hunks_eq ya a l yc ca w5 hks5 (HA.out.below hb5) HM.out HMS.out
      rw [HN.out] at hheq
      clear hpt hks5 hb4
      go_wp2_with (go_at_call 12; refine hheq.mono ?_)
      rintro e w6 ⟨rfl, hb6⟩
      have hb6 := hb5.trans (hb6.mono hb5.size)
      clear hheq hb5 hbW
      by_cases hT0 : ((T.size : Int) == 0) = true
      case' pos =>
        go_wp2
        go_ret
        exact ⟨rfl, hb6⟩
      case' neg =>
        have hT0 : ((T.size : Int) == 0) = false := by simpa using hT0
        obtain ⟨k, j, b, off, bm, om, cm, tx, hlen, rfl, hc1, hc2, htx, hTL, hk60, hj120, hcut⟩ := last_of_text HF.out HTd.out (by intro e; rw [e] at hT0; simp at hT0) HA.out
        obtain rfl : n = k + 1 := by rw [← HN.out]; exact hlen
        have HCUT : Hid (∀ r, r ≤ tx.size → ∃ i, psr ((prt l).take (T.size - 1 - r)) = ([], i, 5) ∧ 0 < i) := hcut
        replace hc1 := cell_later hb6 hc1
        replace hc2 := cell_later hb6 hc2
        have hpk := fun w => pick c (tx.size + 1) w (by omega) (by omega) hc0 hc1'
        rw [show ((tx.size + 1 : Nat) : Int) = (tx.size : Int) + 1 by omega] at hpk
        obtain ⟨r, hr⟩ : ∃ r, ((if c < 0 then -(c + 1) else c) % ((tx.size : Int) + 1)).toNat = r := ⟨_, rfl⟩
        have hrt : r ≤ tx.size := by
          have h1 := Int.emod_lt_of_pos (if c < 0 then -(c + 1) else c) (show 0 < (tx.size : Int) + 1 by omega)
          have h2 := Int.emod_nonneg (if c < 0 then -(c + 1) else c) (show (tx.size : Int) + 1 ≠ 0 by omega)
          omega
        rw [hr] at hpk
        clear hr hcut hlen
        go_wp2_with fail
        have CC : Hid (∀ w2, Below w6.heap.size w6 w2 → w2.cell? ⟨b, off + k * 3 + 2, none⟩ = some (.slice (some ⟨bm, om, none⟩) (j + 1) cm) ∧ w2.cell? ⟨bm, om + j * 2 + 1, none⟩ = some (.string tx)) := fun w2 h => ⟨cell_later h hc1, cell_later h hc2⟩
        have BB : Hid (Below w6.heap.size w6 w6.drew) := ⟨rfl, rfl, rfl, Nat.le_refl _, fun _ _ => rfl⟩
        have z1 : (0 : Int) ≤ (T.size : Int) - 1 - r := by omega
        have z3 : (r : Int) ≤ (T.size : Int) - 1 := by omega
        have v1 : IntKind.i64.wrap (k : Int) = k := by rw [IntKind.wrap_i64]; omega
        have v2 : IntKind.i64.wrap (j : Int) = j := by rw [IntKind.wrap_i64]; omega
        have v3 : IntKind.i64.wrap ((T.size : Int) - 1) = (T.size : Int) - 1 := by rw [IntKind.wrap_i64]; omega
        have v4 : IntKind.i64.wrap ((tx.size : Int) + 1) = (tx.size : Int) + 1 := by rw [IntKind.wrap_i64]; omega
        have v5 : IntKind.i64.wrap ((T.size : Int) - 1 - r) = (T.size : Int) - 1 - r := by rw [IntKind.wrap_i64]; omega
        have v6 : (0 : Int) ≤ k := by omega
        have v7 : (k : Int) < k + 1 := by omega
        have v8 : (0 : Int) ≤ j := by omega
        have v9 : (j : Int) < j + 1 := by omega
        have z2 : (T.size : Int) - 1 - r ≤ T.size := by omega
        clear hc1 hc2
        refine wp_region_held_drew (S := fun w' => w'.cell? ⟨b, off + k * 3 + 2, none⟩ = some (.slice (some ⟨bm, om, none⟩) (j + 1) cm) ∧ w'.cell? ⟨bm, om + j * 2 + 1, none⟩ = some (.string tx)) (by kernel_rfl) ?_ (fun hHeld => ?_)
        · exact CC.out _ BB.out
        refine wpAnyH_take (i := 0) (v := ?_) rfl (by kernel_rfl) (by kernel_rfl) (by kernel_rfl) (fun _ _ _ h => h) (Or.inl ⟨by rfl, ?_⟩) (by assumption) ?_
        rotate_left
        · intro w' hSw
          (try dsimp only at hSw)
          go_simp
          try with_reducible rfl
        simp only [Act.put, List.getElem_toArray, List.getElem_cons_zero, List.setIfInBounds_toArray, List.set_cons_zero, List.set_cons_succ]
        refine wpAnyH_take (i := 1) (v := ?_) rfl (by kernel_rfl) (by kernel_rfl) (by kernel_rfl) (fun _ _ _ h => h) (Or.inl ⟨by rfl, ?_⟩) (by assumption) ?_
        rotate_left
        · intro w' hSw
          (try dsimp only at hSw)
          go_simp
          try with_reducible rfl
        simp only [Act.put, List.getElem_toArray, List.getElem_cons_zero, List.getElem_cons_succ, List.setIfInBounds_toArray, List.set_cons_zero, List.set_cons_succ]
        refine wpAnyH_take (i := 2) (v := ?_) rfl (by kernel_rfl) (by kernel_rfl) (by kernel_rfl) (fun _ _ _ h => h) (Or.inl ⟨by rfl, ?_⟩) (by assumption) ?_
        rotate_left
        · intro w' hSw
          (try dsimp only at hSw)
          go_simp
          try with_reducible rfl
        simp only [Act.put, List.getElem_toArray, List.getElem_cons_zero, List.getElem_cons_succ, List.setIfInBounds_toArray, List.set_cons_zero, List.set_cons_succ]
        refine wpAnyH_take (i := 3) (v := ?_) rfl (by kernel_rfl) (by kernel_rfl) (by kernel_rfl) (fun _ _ _ h => h) (Or.inl ⟨by rfl, ?_⟩) (by assumption) ?_
        rotate_left
        · intro w' hSw
          (try dsimp only at hSw)
          go_simp
          try with_reducible rfl
        simp only [Act.put, List.getElem_toArray, List.getElem_cons_zero, List.getElem_cons_succ, List.setIfInBounds_toArray, List.set_cons_zero, List.set_cons_succ]
        refine wpAnyH_take (i := 4) (v := ?_) rfl (by kernel_rfl) (by kernel_rfl) (by kernel_rfl) (fun _ _ _ h => h) (Or.inl ⟨by rfl, ?_⟩) (by assumption) ?_
        rotate_left
        · intro w' hSw
          (try dsimp only at hSw)
          go_simp
          try with_reducible rfl
        simp only [Act.put, List.getElem_toArray, List.getElem_cons_zero, List.getElem_cons_succ, List.setIfInBounds_toArray, List.set_cons_zero, List.set_cons_succ]
        refine wpAnyH_take (i := 5) (v := ?_) rfl (by kernel_rfl) (by kernel_rfl) (by kernel_rfl) (fun _ _ _ h => h) (Or.inl ⟨by rfl, ?_⟩) (by assumption) ?_
        rotate_left
        · intro w' hSw
          (try dsimp only at hSw)
          go_simp
          try with_reducible rfl
        simp only [Act.put, List.getElem_toArray, List.getElem_cons_zero, List.getElem_cons_succ, List.setIfInBounds_toArray, List.set_cons_zero, List.set_cons_succ]
        refine wpAnyH_take (i := 6) (v := ?_) rfl (by kernel_rfl) (by kernel_rfl) (by kernel_rfl) (fun _ _ _ h => h) (Or.inl ⟨by rfl, ?_⟩) (by assumption) ?_
        rotate_left
        · intro w' hSw
          (try dsimp only at hSw)
          go_simp
          try with_reducible rfl
        simp only [Act.put, List.getElem_toArray, List.getElem_cons_zero, List.getElem_cons_succ, List.setIfInBounds_toArray, List.set_cons_zero, List.set_cons_succ]
        refine wpAnyH_take (i := 7) (v := ?_) rfl (by kernel_rfl) (by kernel_rfl) (by kernel_rfl) (fun _ _ _ h => h) (Or.inl ⟨by rfl, ?_⟩) (by assumption) ?_
        rotate_left
        · intro w' hSw
          (try dsimp only at hSw)
          go_simp
          try with_reducible rfl
        simp only [Act.put, List.getElem_toArray, List.getElem_cons_zero, List.getElem_cons_succ, List.setIfInBounds_toArray, List.set_cons_zero, List.set_cons_succ]
        refine wpAnyH_take (i := 8) (v := ?_) rfl (by kernel_rfl) (by kernel_rfl) (by kernel_rfl) (fun _ _ _ h => h) (Or.inl ⟨by rfl, ?_⟩) (by assumption) ?_
        rotate_left
        · intro w' hSw
          (try dsimp only at hSw)
          go_simp
          try with_reducible rfl
        simp only [Act.put, List.getElem_toArray, List.getElem_cons_zero, List.getElem_cons_succ, List.setIfInBounds_toArray, List.set_cons_zero, List.set_cons_succ]
        refine wpAnyH_take (i := 9) (v := ?_) rfl (by kernel_rfl) (by kernel_rfl) (by kernel_rfl) (fun _ _ _ h => h) (Or.inl ⟨by rfl, ?_⟩) (by assumption) ?_
        rotate_left
        · intro w' hSw
          (try dsimp only at hSw)
          go_simp
          try with_reducible rfl
        simp only [Act.put, List.getElem_toArray, List.getElem_cons_zero, List.getElem_cons_succ, List.setIfInBounds_toArray, List.set_cons_zero, List.set_cons_succ]
        refine wpAnyH_take (i := 10) (v := ?_) rfl (by kernel_rfl) (by kernel_rfl) (by kernel_rfl) (fun _ _ _ h => h) (Or.inl ⟨by rfl, ?_⟩) (by assumption) ?_
        rotate_left
        · intro w' hSw
          (try dsimp only at hSw)
          go_simp
          try with_reducible rfl
        simp only [Act.put, List.getElem_toArray, List.getElem_cons_zero, List.getElem_cons_succ, List.setIfInBounds_toArray, List.set_cons_zero, List.set_cons_succ]
        refine wpAnyH_take (i := 11) (v := ?_) rfl (by kernel_rfl) (by kernel_rfl) (by kernel_rfl) (fun _ _ _ h => h) (Or.inl ⟨by rfl, ?_⟩) (by assumption) ?_
        rotate_left
        · intro w' hSw
          (try dsimp only at hSw)
          go_simp
          try with_reducible rfl
        simp only [Act.put, List.getElem_toArray, List.getElem_cons_zero, List.getElem_cons_succ, List.setIfInBounds_toArray, List.set_cons_zero, List.set_cons_succ]
        refine wpAnyH_take (i := 12) (v := ?_) rfl (by kernel_rfl) (by kernel_rfl) (by kernel_rfl) (fun _ _ _ h => h) (Or.inl ⟨by rfl, ?_⟩) (by assumption) ?_
        rotate_left
        · intro w' hSw
          (try dsimp only at hSw)
          go_simp
          try with_reducible rfl
        simp only [Act.put, List.getElem_toArray, List.getElem_cons_zero, List.getElem_cons_succ, List.setIfInBounds_toArray, List.set_cons_zero, List.set_cons_succ]
        refine wpAnyH_take (i := 13) (v := ?_) rfl (by kernel_rfl) (by kernel_rfl) (by kernel_rfl) (fun _ _ _ h => h) (Or.inl ⟨by rfl, ?_⟩) (by assumption) ?_
        rotate_left
        · intro w' hSw
          (try dsimp only at hSw)
          go_simp
          try with_reducible rfl
        simp only [Act.put, List.getElem_toArray, List.getElem_cons_zero, List.getElem_cons_succ, List.setIfInBounds_toArray, List.set_cons_zero, List.set_cons_succ]
        refine wpAnyH_take (i := 14) (v := ?_) rfl (by kernel_rfl) (by kernel_rfl) (by kernel_rfl) (fun _ _ _ h => h) (Or.inl ⟨by rfl, ?_⟩) (by assumption) ?_
        rotate_left
        · intro w' hSw
          (try dsimp only at hSw)
          go_simp
          try with_reducible rfl
        simp only [Act.put, List.getElem_toArray, List.getElem_cons_zero, List.getElem_cons_succ, List.setIfInBounds_toArray, List.set_cons_zero, List.set_cons_succ]
        refine wpAnyH_take (i := 15) (v := ?_) rfl (by kernel_rfl) (by kernel_rfl) (by kernel_rfl) (fun _ _ _ h => h) (Or.inl ⟨by rfl, ?_⟩) (by assumption) ?_
        rotate_left
        · intro w' hSw
          (try dsimp only at hSw)
          go_simp
          try with_reducible rfl
        simp only [Act.put, List.getElem_toArray, List.getElem_cons_zero, List.getElem_cons_succ, List.setIfInBounds_toArray, List.set_cons_zero, List.set_cons_succ]
        refine wpAnyH_take (i := 16) (v := ?_) rfl (by kernel_rfl) (by kernel_rfl) (by kernel_rfl) (fun _ _ _ h => h) (Or.inl ⟨by rfl, ?_⟩) (by assumption) ?_
        rotate_left
        · intro w' hSw
          (try dsimp only at hSw)
          go_simp
          try with_reducible rfl
        simp only [Act.put, List.getElem_toArray, List.getElem_cons_zero, List.getElem_cons_succ, List.setIfInBounds_toArray, List.set_cons_zero, List.set_cons_succ]
        refine wpAnyH_take (i := 17) (v := ?_) rfl (by kernel_rfl) (by kernel_rfl) (by kernel_rfl) (fun _ _ _ h => h) (Or.inl ⟨by rfl, ?_⟩) (by assumption) ?_
        rotate_left
        · intro w' hSw
          (try dsimp only at hSw)
          go_simp
          try with_reducible rfl
        simp only [Act.put, List.getElem_toArray, List.getElem_cons_zero, List.getElem_cons_succ, List.setIfInBounds_toArray, List.set_cons_zero, List.set_cons_succ]
        refine wpAnyH_take (i := 18) (v := ?_) rfl (by kernel_rfl) (by kernel_rfl) (by kernel_rfl) (fun _ _ _ h => h) (Or.inl ⟨by rfl, ?_⟩) (by assumption) ?_
        rotate_left
        · intro w' hSw
          (try dsimp only at hSw)
          go_simp
          try with_reducible rfl
        simp only [Act.put, List.getElem_toArray, List.getElem_cons_zero, List.getElem_cons_succ, List.setIfInBounds_toArray, List.set_cons_zero, List.set_cons_succ]
        refine wpAnyH_take (i := 19) (v := ?_) rfl (by kernel_rfl) (by kernel_rfl) (by kernel_rfl) (fun _ _ _ h => h) (Or.inl ⟨by rfl, ?_⟩) (by assumption) ?_
        rotate_left
        · intro w' hSw
          (try dsimp only at hSw)
          go_simp
          try with_reducible rfl
        simp only [Act.put, List.getElem_toArray, List.getElem_cons_zero, List.getElem_cons_succ, List.setIfInBounds_toArray, List.set_cons_zero, List.set_cons_succ]
        refine wpAnyH_take (i := 20) (v := ?_) rfl (by kernel_rfl) (by kernel_rfl) (by kernel_rfl) (fun _ _ _ h => h) (Or.inl ⟨by rfl, ?_⟩) (by assumption) ?_
        rotate_left
        · intro w' hSw
          (try dsimp only at hSw)
          go_simp
          try with_reducible rfl
        simp only [Act.put, List.getElem_toArray, List.getElem_cons_zero, List.getElem_cons_succ, List.setIfInBounds_toArray, List.set_cons_zero, List.set_cons_succ]
        refine wpAnyH_take (i := 21) (v := ?_) rfl (by kernel_rfl) (by kernel_rfl) (by kernel_rfl) (fun _ _ _ h => h) (Or.inl ⟨by rfl, ?_⟩) (by assumption) ?_
        rotate_left
        · intro w' hSw
          (try dsimp only at hSw)
          go_simp
          try with_reducible rfl
        simp only [Act.put, List.getElem_toArray, List.getElem_cons_zero, List.getElem_cons_succ, List.setIfInBounds_toArray, List.set_cons_zero, List.set_cons_succ]
        refine wpAnyH_take (i := 22) (v := ?_) rfl (by kernel_rfl) (by kernel_rfl) (by kernel_rfl) (fun _ _ _ h => h) (Or.inl ⟨by rfl, ?_⟩) (by assumption) ?_
        rotate_left
        · intro w' hSw
          (try dsimp only at hSw)
          go_simp
          try with_reducible rfl
        simp only [Act.put, List.getElem_toArray, List.getElem_cons_zero, List.getElem_cons_succ, List.setIfInBounds_toArray, List.set_cons_zero, List.set_cons_succ]
        refine wpAnyH_take (i := 23) (v := ?_) rfl (by kernel_rfl) (by kernel_rfl) (by kernel_rfl) (fun _ _ _ h => h) (Or.inl ⟨by rfl, ?_⟩) (by assumption) ?_
        rotate_left
        · intro w' hSw
          (try dsimp only at hSw)
          go_simp
          try with_reducible rfl
        simp only [Act.put, List.getElem_toArray, List.getElem_cons_zero, List.getElem_cons_succ, List.setIfInBounds_toArray, List.set_cons_zero, List.set_cons_succ]
        refine wpAnyH_take (i := 24) (v := ?_) rfl (by kernel_rfl) (by kernel_rfl) (by kernel_rfl) (fun _ _ _ h => h) (Or.inl ⟨by rfl, ?_⟩) (by assumption) ?_
        rotate_left
        · intro w' hSw
          (try dsimp only at hSw)
          go_simp
          try with_reducible rfl
        simp only [Act.put, List.getElem_toArray, List.getElem_cons_zero, List.getElem_cons_succ, List.setIfInBounds_toArray, List.set_cons_zero, List.set_cons_succ]
        refine wpAnyH_take (i := 25) (v := ?_) rfl (by kernel_rfl) (by kernel_rfl) (by kernel_rfl) (fun _ _ _ h => h) (Or.inl ⟨by rfl, ?_⟩) (by assumption) ?_
        rotate_left
        · intro w' hSw
          (try dsimp only at hSw)
          go_simp
          try with_reducible rfl
        simp only [Act.put, List.getElem_toArray, List.getElem_cons_zero, List.getElem_cons_succ, List.setIfInBounds_toArray, List.set_cons_zero, List.set_cons_succ]
        refine wpAnyH_ready (rs := [26]) (by kernel_rfl) (by simp) ?_
        refine AllReadyH.cons rfl (fun K hK => ?_) AllReadyH.nil
        go_simp
        go_at_call 13; refine (hpk _).mono ?_; rintro e w7 ⟨rfl, hw7⟩; rw [hw7]; clear hw7
        go_wp2_with fail
        refine hK.out _ _ ?_ (fun hHeld => ?_)
        · exact CC.out _ BB.out
        clear hK K
        refine wpAnyH_take (i := 27) (v := ?_) rfl (by kernel_rfl) (by kernel_rfl) (by kernel_rfl) (fun _ _ _ h => h) (Or.inl ⟨by rfl, ?_⟩) (by assumption) ?_
        rotate_left
        · intro w' hSw
          (try dsimp only at hSw)
          go_simp
          try with_reducible rfl
        simp only [Act.put, List.getElem_toArray, List.getElem_cons_zero, List.getElem_cons_succ, List.setIfInBounds_toArray, List.set_cons_zero, List.set_cons_succ]
        refine wpAnyH_take (i := 28) (v := ?_) rfl (by kernel_rfl) (by kernel_rfl) (by kernel_rfl) (fun _ _ _ h => h) (Or.inl ⟨by rfl, ?_⟩) (by assumption) ?_
        rotate_left
        · intro w' hSw
          (try dsimp only at hSw)
          go_simp
          try with_reducible rfl
        simp only [Act.put, List.getElem_toArray, List.getElem_cons_zero, List.getElem_cons_succ, List.setIfInBounds_toArray, List.set_cons_zero, List.set_cons_succ]
        have hX : (T.extract 0 (T.size - 1 - r)).data.toList = (prt l).take (T.size - 1 - r) := by rw [Lib.extract_data, HTd.out]; simp
        obtain ⟨i, hi, hi0⟩ := HCUT.out r hrt
        have hxs : (T.extract 0 (T.size - 1 - r)).size ≤ maxLen := by
          rw [ByteArray.size_extract]
          exact Nat.le_trans (by omega) (show 14760 ≤ maxLen by decide)
        have hpx := parse_any (T.extract 0 (T.size - 1 - r)) w6.drew (HG.out.below (hb6.trans (BB.out.mono hb6.size))) hxs
        rw [hX, hi] at hpx
        dsimp only at hpx
        rw [errV_not (show (5 : Int) ≠ 0 by decide)] at hpx
        have hi0' : (0 : Int) < i := by omega
        clear hX hi hxs
        refine wpAnyH_ready (rs := [29]) (by kernel_rfl) (by simp) ?_
        refine AllReadyH.cons rfl (fun K hK => ?_) AllReadyH.nil
        go_simp
        go_at_call 11; refine hpx.mono ?_; rintro e w8 ⟨za, zc, rfl, _, _, hb8⟩
        go_wp2_with fail
        refine hK.out _ _ ?_ (fun hHeld => ?_)
        · exact CC.out _ (BB.out.trans hb8)
        clear hK K
        refine wpAnyH_take (i := 30) (v := ?_) rfl (by kernel_rfl) (by kernel_rfl) (by kernel_rfl) (fun _ _ _ h => h) (Or.inl ⟨by rfl, ?_⟩) (by assumption) ?_
        rotate_left
        · intro w' hSw
          (try dsimp only at hSw)
          go_simp
          try with_reducible rfl
        simp only [Act.put, List.getElem_toArray, List.getElem_cons_zero, List.getElem_cons_succ, List.setIfInBounds_toArray, List.set_cons_zero, List.set_cons_succ]
        refine wpAnyH_take (i := 31) (v := ?_) rfl (by kernel_rfl) (by kernel_rfl) (by kernel_rfl) (fun _ _ _ h => h) (Or.inl ⟨by rfl, ?_⟩) (by assumption) ?_
        rotate_left
        · intro w' hSw
          (try dsimp only at hSw)
          go_simp
          try with_reducible rfl
        simp only [Act.put, List.getElem_toArray, List.getElem_cons_zero, List.getElem_cons_succ, List.setIfInBounds_toArray, List.set_cons_zero, List.set_cons_succ]
        refine wpAnyH_take (i := 32) (v := ?_) rfl (by kernel_rfl) (by kernel_rfl) (by kernel_rfl) (fun _ _ _ h => h) (Or.inl ⟨by rfl, ?_⟩) (by assumption) ?_
        rotate_left
        · intro w' hSw
          (try dsimp only at hSw)
          go_simp
          try with_reducible rfl
        simp only [Act.put, List.getElem_toArray, List.getElem_cons_zero, List.getElem_cons_succ, List.setIfInBounds_toArray, List.set_cons_zero, List.set_cons_succ]
        refine wpAnyH_take (i := 33) (v := ?_) rfl (by kernel_rfl) (by kernel_rfl) (by kernel_rfl) (fun _ _ _ h => h) (Or.inl ⟨by rfl, ?_⟩) (by assumption) ?_
        rotate_left
        · intro w' hSw
          (try dsimp only at hSw)
          go_simp
          try with_reducible rfl
        simp only [Act.put, List.getElem_toArray, List.getElem_cons_zero, List.getElem_cons_succ, List.setIfInBounds_toArray, List.set_cons_zero, List.set_cons_succ]
        refine wpAnyH_take (i := 34) (v := ?_) rfl (by kernel_rfl) (by kernel_rfl) (by kernel_rfl) (fun _ _ _ h => h) (Or.inl ⟨by rfl, ?_⟩) (by assumption) ?_
        rotate_left
        · intro w' hSw
          (try dsimp only at hSw)
          go_simp
          try with_reducible rfl
        simp only [Act.put, List.getElem_toArray, List.getElem_cons_zero, List.getElem_cons_succ, List.setIfInBounds_toArray, List.set_cons_zero, List.set_cons_succ]
        refine wpAnyH_take (i := 35) (v := ?_) rfl (by kernel_rfl) (by kernel_rfl) (by kernel_rfl) (fun _ _ _ h => h) (Or.inl ⟨by rfl, ?_⟩) (by assumption) ?_
        rotate_left
        · intro w' hSw
          (try dsimp only at hSw)
          go_simp
          try with_reducible rfl
        simp only [Act.put, List.getElem_toArray, List.getElem_cons_zero, List.getElem_cons_succ, List.setIfInBounds_toArray, List.set_cons_zero, List.set_cons_succ]
        refine wpAnyH_take (i := 36) (v := ?_) rfl (by kernel_rfl) (by kernel_rfl) (by kernel_rfl) (fun _ _ _ h => h) (Or.inl ⟨by rfl, ?_⟩) (by assumption) ?_
        rotate_left
        · intro w' hSw
          (try dsimp only at hSw)
          go_simp
          try with_reducible rfl
        simp only [Act.put, List.getElem_toArray, List.getElem_cons_zero, List.getElem_cons_succ, List.setIfInBounds_toArray, List.set_cons_zero, List.set_cons_succ]
        refine wpAnyH_done (by kernel_rfl) ?_ _
        have hb8 : Below w.heap.size w w8 := hb6.trans ((BB.out.trans hb8).mono hb6.size)
        have her := error_err 5 5 w8 (HT.out.below hb8)
        clear hpx hHeld
        go_wp2_with (go_at_call 9; refine her.mono ?_)
        rintro e w9 ⟨rfl, hb9⟩
        have hb9 := hb8.trans (hb9.mono hb8.size)
        clear her
        go_wp2
        go_ret
        exact ⟨rfl, hb9⟩

end Go.Proofs.YtjgdicghmkfohacGreatDoor
