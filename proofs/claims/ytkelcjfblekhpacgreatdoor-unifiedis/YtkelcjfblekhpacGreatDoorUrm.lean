/-
  Walk of the reader's takeMark.
-/
import Derived.Test.YtkelcjfblekhpacGreatDoorUrd

namespace Go.Proofs.YtkelcjfblekhpacGreatDoor
open Go.RowKit Dist

attribute [local go_sem] Go.wp_at_zero Go.wp_at_succ

/-- What is wanted behind a line that is a mark's. -/
def tmk (s : List UInt8) (b a : Nat) : Option (Nat × Nat) := match s with
  | [] => none
  | c :: _ => wnt c b a

theorem head_byte (s : ByteArray) (c : UInt8) (t : List UInt8) (h : s.data.toList = c :: t) : ∃ h0 : 0 < s.size, s[0]'h0 = c ∧ s.extract 1 s.size = bar t := by
  have h0 : 0 < s.size := by rw [Lib.size_eq, h]; simp
  refine ⟨h0, ?_, ?_⟩
  · have := Lib.getD_at s 0 h0
    rw [h] at this
    exact this
  · have e : (s.extract 1 s.size).data.toList = t := by
      rw [Lib.extract_data, h, List.drop_succ_cons, List.drop_zero, List.take_of_length_le (by rw [Lib.size_eq, h]; simp)]
    rw [← data_bar (s.extract 1 s.size), e]

set_option maxRecDepth 100000 in
set_option maxHeartbeats 2000000 in
theorem takeMark_empty (B r : Nat) (s : ByteArray) (w : World) (h : s.data.toList = []) :
    Calls Tryz.prog 59 #[.pointer (some ⟨r, 0, none⟩), .string s] w fun e w' => e = .returned (.bool false) ∧ Below B w w' := by
  have he : s.toList.isEmpty = true := by rw [Lib.toList_data, h]; rfl
  clear h
  go_enter Tryz.func59, Tryz.ntmps59
  go_wp2
  go_ret
  exact ⟨rfl, Below.refl _ _⟩

set_option maxRecDepth 100000 in
set_option maxHeartbeats 2000000 in
theorem takeMark_some (B r : Nat) (hs : List Uk) (o p : Int) (cur : List (Int × ByteArray)) (b a : Nat) (v : Value) (s : ByteArray) (c : UInt8) (t : List UInt8) (w : World) (hrb : Rsb w r v b a) (hrp : Rop w B v hs o p cur) (hBr : B ≤ r) (hBw : B ≤ w.heap.size) (hlen : hs.length ≤ 400000) (hcur : cur.length ≤ 400000) (hsz : s.size ≤ 400000) (hb9 : b ≤ 999) (ha9 : a ≤ 999) (hs0 : s.data.toList = c :: t) :
    Calls Tryz.prog 59 #[.pointer (some ⟨r, 0, none⟩), .string s] w fun e w' => e = .returned (.bool (wnt c b a).isSome) ∧ Below B w w' ∧ ∀ b' a', wnt c b a = some (b', a') → Rst w' B r (hs ++ [(o, p, cur ++ [((c.toNat : Int), bar t)])], b', a') := by
  have he : s.toList.isEmpty = false := by rw [Lib.toList_data, hs0]; rfl
  obtain ⟨h0, hc0, ht0⟩ := head_byte s c t hs0
  have h01 : (1 : Int) ≤ s.size := by omega
  obtain ⟨k0, k1, k2, f0, f1, f2⟩ := hrb.cells
  obtain ⟨xs, vl, hh1, hh2, hh3⟩ := hrp
  obtain ⟨g, cp, rfl, hg1, hg2⟩ := hh1.form (Nat.succ_pos _)
  obtain ⟨j0, hj0, hy0, hy1, hy2⟩ := info_parts Tryz.infoMark
  have HRB : Hid (Rsb w r (.slice (some ⟨g, 0, none⟩) (hs.length + 1) cp) b a) := hrb
  have HRP : Hid (Rop w B (.slice (some ⟨g, 0, none⟩) (hs.length + 1) cp) hs o p cur) := ⟨xs, vl, hh1, hh2, hh3⟩
  clear hh1 hh2 hh3 hg1 hg2 hrb hs0
  by_cases h1 : c = 32
  case' pos =>
    have e1 : (((c.toNat : Nat) : Int) == 32) = true := by rw [h1]; rfl
    have FL : Hid ((wnt c b a).isSome = (decide (0 ≤ (b : Int) - 1) && decide (0 ≤ (a : Int) - 1)) ∧ ∀ b' a', wnt c b a = some (b', a') → (b : Int) - 1 = b' ∧ (a : Int) - 1 = a') := by
      unfold wnt
      rw [if_pos h1]
      by_cases hx : 0 < b ∧ 0 < a
      · rw [if_pos hx]
        refine ⟨?_, fun b' a' h => ?_⟩
        · rw [decide_eq_true (by omega), decide_eq_true (by omega)]; rfl
        · simp only [Option.some.injEq, Prod.mk.injEq] at h; omega
      · rw [if_neg hx]
        refine ⟨?_, fun b' a' h => by cases h⟩
        symm
        show (decide (0 ≤ (b : Int) - 1) && decide (0 ≤ (a : Int) - 1)) = false
        rw [Bool.and_eq_false_iff]
        simp only [decide_eq_false_iff_not]
        omega
    clear h1
    go_enter Tryz.func59, Tryz.ntmps59
    go_wp2_with fail
    have hb1 : -1 ≤ (b : Int) - 1 ∧ (b : Int) - 1 ≤ 1000 := by omega
    have ha1 : -1 ≤ (a : Int) - 1 ∧ (a : Int) - 1 ≤ 1000 := by omega
    have hr1 : Rsb (w.setCell ⟨r, 1, none⟩ (.int .i64 ((b : Int) - 1))) r (.slice (some ⟨g, 0, none⟩) (hs.length + 1) cp) ((b : Int) - 1) a := by
      have := blk_set (i := 1) HRB.out (.int .i64 ((b : Int) - 1))
      unfold Rsb; simpa using this
    have hr2 : Rsb ((w.setCell ⟨r, 1, none⟩ (.int .i64 ((b : Int) - 1))).setCell ⟨r, 2, none⟩ (.int .i64 ((a : Int) - 1))) r (.slice (some ⟨g, 0, none⟩) (hs.length + 1) cp) ((b : Int) - 1) ((a : Int) - 1) := by
      have := blk_set (i := 2) hr1 (.int .i64 ((a : Int) - 1))
      unfold Rsb; simpa using this
    have hp2 := (HRP.out.set HRB.out (i := 1) (by decide) (by decide) (.int .i64 ((b : Int) - 1))).set hr1 (i := 2) (by decide) (by decide) (.int .i64 ((a : Int) - 1))
    have hbW : Below B w ((w.setCell ⟨r, 1, none⟩ (.int .i64 ((b : Int) - 1))).setCell ⟨r, 2, none⟩ (.int .i64 ((a : Int) - 1))) := ((Below.refl B w).setCell (show B ≤ r from hBr) _).setCell (show B ≤ r from hBr) _
    generalize (w.setCell ⟨r, 1, none⟩ (.int .i64 ((b : Int) - 1))).setCell ⟨r, 2, none⟩ (.int .i64 ((a : Int) - 1)) = W at hr2 hp2 hbW ⊢
    generalize (b : Int) - 1 = b1 at *
    generalize (a : Int) - 1 = a1 at *
  case' neg =>
    have e1 : (((c.toNat : Nat) : Int) == 32) = false := by
      rw [beq_eq_false_iff_ne]; intro e; apply h1; apply UInt8.toNat_inj.1; show c.toNat = 32; omega
    by_cases h2 : c = 45
    case' pos =>
      have e2 : (((c.toNat : Nat) : Int) == 45) = true := by rw [h2]; rfl
      have FL : Hid ((wnt c b a).isSome = (decide (0 ≤ (b : Int) - 1) && decide (0 ≤ (a : Int))) ∧ ∀ b' a', wnt c b a = some (b', a') → (b : Int) - 1 = b' ∧ (a : Int) = a') := by
        unfold wnt
        rw [if_neg h1, if_pos h2, decide_eq_true (show 0 ≤ (a : Int) by omega), Bool.and_true]
        by_cases hx : 0 < b
        · rw [if_pos hx]
          refine ⟨?_, fun b' a' h => ?_⟩
          · rw [decide_eq_true (by omega)]; rfl
          · simp only [Option.some.injEq, Prod.mk.injEq] at h; omega
        · rw [if_neg hx]
          refine ⟨?_, fun b' a' h => by cases h⟩
          symm
          simp only [decide_eq_false_iff_not, Option.isSome_none]
          omega
      clear h1 h2
      go_enter Tryz.func59, Tryz.ntmps59
      go_wp2_with fail
      have hb1 : -1 ≤ (b : Int) - 1 ∧ (b : Int) - 1 ≤ 1000 := by omega
      have ha1 : -1 ≤ (a : Int) ∧ (a : Int) ≤ 1000 := by omega
      have hr2 : Rsb (w.setCell ⟨r, 1, none⟩ (.int .i64 ((b : Int) - 1))) r (.slice (some ⟨g, 0, none⟩) (hs.length + 1) cp) ((b : Int) - 1) a := by
        have := blk_set (i := 1) HRB.out (.int .i64 ((b : Int) - 1))
        unfold Rsb; simpa using this
      have hp2 := HRP.out.set HRB.out (i := 1) (by decide) (by decide) (.int .i64 ((b : Int) - 1))
      have hbW : Below B w (w.setCell ⟨r, 1, none⟩ (.int .i64 ((b : Int) - 1))) := (Below.refl B w).setCell (show B ≤ r from hBr) _
      generalize w.setCell ⟨r, 1, none⟩ (.int .i64 ((b : Int) - 1)) = W at hr2 hp2 hbW ⊢
      generalize (b : Int) - 1 = b1 at *
      generalize (a : Int) = a1 at *
    case' neg =>
      have e2 : (((c.toNat : Nat) : Int) == 45) = false := by
        rw [beq_eq_false_iff_ne]; intro e; apply h2; apply UInt8.toNat_inj.1; show c.toNat = 45; omega
      by_cases h3 : c = 43
      case' pos =>
        have e3 : (((c.toNat : Nat) : Int) == 43) = true := by rw [h3]; rfl
        have FL : Hid ((wnt c b a).isSome = (decide (0 ≤ (b : Int)) && decide (0 ≤ (a : Int) - 1)) ∧ ∀ b' a', wnt c b a = some (b', a') → (b : Int) = b' ∧ (a : Int) - 1 = a') := by
          unfold wnt
          rw [if_neg h1, if_neg h2, if_pos h3, decide_eq_true (show 0 ≤ (b : Int) by omega), Bool.true_and]
          by_cases hx : 0 < a
          · rw [if_pos hx]
            refine ⟨?_, fun b' a' h => ?_⟩
            · rw [decide_eq_true (by omega)]; rfl
            · simp only [Option.some.injEq, Prod.mk.injEq] at h; omega
          · rw [if_neg hx]
            refine ⟨?_, fun b' a' h => by cases h⟩
            symm
            simp only [decide_eq_false_iff_not, Option.isSome_none]
            omega
        clear h1 h2 h3
        go_enter Tryz.func59, Tryz.ntmps59
        go_wp2_with fail
        have hb1 : -1 ≤ (b : Int) ∧ (b : Int) ≤ 1000 := by omega
        have ha1 : -1 ≤ (a : Int) - 1 ∧ (a : Int) - 1 ≤ 1000 := by omega
        have hr2 : Rsb (w.setCell ⟨r, 2, none⟩ (.int .i64 ((a : Int) - 1))) r (.slice (some ⟨g, 0, none⟩) (hs.length + 1) cp) b ((a : Int) - 1) := by
          have := blk_set (i := 2) HRB.out (.int .i64 ((a : Int) - 1))
          unfold Rsb; simpa using this
        have hp2 := HRP.out.set HRB.out (i := 2) (by decide) (by decide) (.int .i64 ((a : Int) - 1))
        have hbW : Below B w (w.setCell ⟨r, 2, none⟩ (.int .i64 ((a : Int) - 1))) := (Below.refl B w).setCell (show B ≤ r from hBr) _
        generalize w.setCell ⟨r, 2, none⟩ (.int .i64 ((a : Int) - 1)) = W at hr2 hp2 hbW ⊢
        generalize (b : Int) = b1 at *
        generalize (a : Int) - 1 = a1 at *
      case' neg =>
        have e3 : (((c.toNat : Nat) : Int) == 43) = false := by
          rw [beq_eq_false_iff_ne]; intro e; apply h3; apply UInt8.toNat_inj.1; show c.toNat = 43; omega
        have HW : Hid (wnt c b a = none) := by show wnt c b a = none; unfold wnt; rw [if_neg h1, if_neg h2, if_neg h3]
        rw [HW.out]
        clear h1 h2 h3
        go_enter Tryz.func59, Tryz.ntmps59
        go_wp2
        go_ret
        exact ⟨rfl, Below.refl _ _, fun _ _ h => by cases h⟩
  all_goals
    clear k0 k1 k2 f0 f1 f2 HRB HRP
    obtain ⟨k0, k1, k2, f0, f1, f2⟩ := hr2.cells
    have HR2 : Hid (Rsb W r (.slice (some ⟨g, 0, none⟩) (hs.length + 1) cp) b1 a1) := hr2
    have HP2 : Hid (Rop W B (.slice (some ⟨g, 0, none⟩) (hs.length + 1) cp) hs o p cur) := hp2
    have HBW : Hid (Below B w W) := hbW
    clear hr2 hp2 hbW
    go_quiet (fail)
    go_wp2_with fail
    have hbV : Below W.heap.size W (W.drewN nq) := below_drawn (Below.refl _ _)
    have HRV : Hid (Rsb (W.drewN nq) r (.slice (some ⟨g, 0, none⟩) (hs.length + 1) cp) b1 a1) := HR2.out.below hbV
    have hpV := HP2.out.below hbV
    have hBW : B ≤ W.heap.size := Nat.le_trans hBw HBW.out.size
    have HBV : Hid (Below B w (W.drewN nq)) := HBW.out.trans (hbV.mono hBW)
    have hBV : B ≤ (W.drewN nq).heap.size := Nat.le_trans hBw HBV.out.size
    clear hbV
    generalize W.drewN nq = V at HRV hpV HBV hBV ⊢
    clear k0 k1 k2 f0 f1 f2
    obtain ⟨xs, vl, hh1, hh2, hh3⟩ := hpV
    obtain ⟨al, nl, el, rfl⟩ := own_slc hh2
    have hxl := hh3.1
    have d2 := hh1.cellAt (hs.length * 3 + 2) (by omega)
    rw [List.getElem?_append_right (by omega), hxl, show hs.length * 3 + 2 - hs.length * 3 = 2 by omega] at d2
    simp only [List.getElem?_cons_succ, List.getElem?_cons_zero] at d2
    have hb7 : Below V.heap.size V (V.alloc (.cells #[.int .u8 (c.toNat : Int), .string (bar t)] 39)).drew := (below_alloc V _).trans ⟨rfl, rfl, rfl, Nat.le_refl _, fun _ _ => rfl⟩
    have V1 : Hid (((V.alloc (.cells #[.int .u8 (c.toNat : Int), .string (bar t)] 39)).drew).ownsRow B 42 3 (.slice (some ⟨g, 0, none⟩) (hs.length + 1) cp) (hs.length + 1) (xs ++ [.int .i64 o, .int .i64 p, .slice al nl el])) := own_later hh1 hb7
    have V2 : Hid (((V.alloc (.cells #[.int .u8 (c.toNat : Int), .string (bar t)] 39)).drew).ownsRow B 39 2 (.slice al nl el) cur.length (mcells cur)) := own_later hh2 hb7
    have V3 : Hid (Olds ((V.alloc (.cells #[.int .u8 (c.toNat : Int), .string (bar t)] 39)).drew) B hs xs (Value.slice al nl el).ownBlock) := hh3.below hb7
    have HR7 : Hid (Rsb ((V.alloc (.cells #[.int .u8 (c.toNat : Int), .string (bar t)] 39)).drew) r (.slice (some ⟨g, 0, none⟩) (hs.length + 1) cp) b1 a1) := HRV.out.below hb7
    have HNEWS : Hid (∀ j u, ([.int .u8 (c.toNat : Int), .string (bar t)] : List Value)[j]? = some u → ((V.alloc (.cells #[.int .u8 (c.toNat : Int), .string (bar t)] 39)).drew).cell? ((⟨V.heap.size, 0, none⟩ : Addr).add j) = some u) := cell_two_new V (.int .u8 (c.toNat : Int)) (.string (bar t)) 39
    have HS7 : Hid (((V.alloc (.cells #[.int .u8 (c.toNat : Int), .string (bar t)] 39)).drew).heap.size = V.heap.size + 1) := by show ((V.alloc (.cells #[.int .u8 (c.toNat : Int), .string (bar t)] 39)).drew).heap.size = V.heap.size + 1; simp
    have HB7 : Hid (Below B w ((V.alloc (.cells #[.int .u8 (c.toNat : Int), .string (bar t)] 39)).drew)) := HBV.out.trans (hb7.mono hBV)
    have D2 : Hid (V.cell? ⟨g, hs.length * 3 + 2, none⟩ = some (.slice al nl el)) := d2
    have D2' : Hid ((V.alloc (.cells #[.int .u8 (c.toNat : Int), .string (bar t)] 39)).cell? ⟨g, hs.length * 3 + 2, none⟩ = some (.slice al nl el)) := cell_later (below_alloc V _) d2
    clear hh1 hh2 hh3 d2 hb7
    refine wp_region_held_drew (S := fun _ => True) (by kernel_rfl) ?_ (fun hHeld => ?_)
    · trivial
    refine wpAnyH_take (i := 0) (v := ?_) rfl (by kernel_rfl) (by kernel_rfl) (by kernel_rfl) (fun _ _ _ h => h) (Or.inl ⟨by rfl, ?_⟩) (by assumption) ?_
    rotate_left
    · intro w' hSw
      (try dsimp only at hSw)
      go_simp
      try with_reducible rfl
    simp only [Act.put, List.getElem_toArray, List.getElem_cons_zero, List.setIfInBounds_toArray, List.set_cons_zero, List.set_cons_succ]
    refine wpAnyH_take (i := 1) (v := ?_) rfl (by kernel_rfl) (by kernel_rfl) (by kernel_rfl) (fun _ _ _ h => h) (Or.inl ⟨by rfl, ?_⟩) (by assumption) ?_
    rotate_left
    · intro w' hSw
      (try dsimp only at hSw)
      go_simp
      try with_reducible rfl
    simp only [Act.put, List.getElem_toArray, List.getElem_cons_zero, List.getElem_cons_succ, List.setIfInBounds_toArray, List.set_cons_zero, List.set_cons_succ]
    refine wpAnyH_take (i := 2) (v := ?_) rfl (by kernel_rfl) (by kernel_rfl) (by kernel_rfl) (fun _ _ _ h => h) (Or.inl ⟨by rfl, ?_⟩) (by assumption) ?_
    rotate_left
    · intro w' hSw
      (try dsimp only at hSw)
      go_simp
      try with_reducible rfl
    simp only [Act.put, List.getElem_toArray, List.getElem_cons_zero, List.getElem_cons_succ, List.setIfInBounds_toArray, List.set_cons_zero, List.set_cons_succ]
    refine wpAnyH_take (i := 3) (v := ?_) rfl (by kernel_rfl) (by kernel_rfl) (by kernel_rfl) (fun _ _ _ h => h) (Or.inl ⟨by rfl, ?_⟩) (by assumption) ?_
    rotate_left
    · intro w' hSw
      (try dsimp only at hSw)
      go_simp
      try with_reducible rfl
    simp only [Act.put, List.getElem_toArray, List.getElem_cons_zero, List.getElem_cons_succ, List.setIfInBounds_toArray, List.set_cons_zero, List.set_cons_succ]
    refine wpAnyH_take (i := 5) (v := ?_) rfl (by kernel_rfl) (by kernel_rfl) (by kernel_rfl) (fun _ _ _ h => h) (Or.inl ⟨by rfl, ?_⟩) (by assumption) ?_
    rotate_left
    · intro w' hSw
      (try dsimp only at hSw)
      go_simp
      try with_reducible rfl
    simp only [Act.put, List.getElem_toArray, List.getElem_cons_zero, List.getElem_cons_succ, List.setIfInBounds_toArray, List.set_cons_zero, List.set_cons_succ]
    refine wpAnyH_take (i := 6) (v := ?_) rfl (by kernel_rfl) (by kernel_rfl) (by kernel_rfl) (fun _ _ _ h => h) (Or.inl ⟨by rfl, ?_⟩) (by assumption) ?_
    rotate_left
    · intro w' hSw
      (try dsimp only at hSw)
      go_simp
      try with_reducible rfl
    simp only [Act.put, List.getElem_toArray, List.getElem_cons_zero, List.getElem_cons_succ, List.setIfInBounds_toArray, List.set_cons_zero, List.set_cons_succ]
    refine wpAnyH_take (i := 7) (v := ?_) rfl (by kernel_rfl) (by kernel_rfl) (by kernel_rfl) (fun _ _ _ h => h) (Or.inl ⟨by rfl, ?_⟩) (by assumption) ?_
    rotate_left
    · intro w' hSw
      (try dsimp only at hSw)
      go_simp
      try with_reducible rfl
    simp only [Act.put, List.getElem_toArray, List.getElem_cons_zero, List.getElem_cons_succ, List.setIfInBounds_toArray, List.set_cons_zero, List.set_cons_succ]
    refine wpAnyH_take (i := 8) (v := ?_) rfl (by kernel_rfl) (by kernel_rfl) (by kernel_rfl) (fun _ _ _ h => h) (Or.inl ⟨by rfl, ?_⟩) (by assumption) ?_
    rotate_left
    · intro w' hSw
      (try dsimp only at hSw)
      go_simp
      try with_reducible rfl
    simp only [Act.put, List.getElem_toArray, List.getElem_cons_zero, List.getElem_cons_succ, List.setIfInBounds_toArray, List.set_cons_zero, List.set_cons_succ]
    refine wpAnyH_take (i := 9) (v := ?_) rfl (by kernel_rfl) (by kernel_rfl) (by kernel_rfl) (fun _ _ _ h => h) (Or.inl ⟨by rfl, ?_⟩) (by assumption) ?_
    rotate_left
    · intro w' hSw
      (try dsimp only at hSw)
      go_simp
      try with_reducible rfl
    simp only [Act.put, List.getElem_toArray, List.getElem_cons_zero, List.getElem_cons_succ, List.setIfInBounds_toArray, List.set_cons_zero, List.set_cons_succ]
    refine wpAnyH_ready (rs := [4, 10]) (by kernel_rfl) (by simp) ?_
    refine AllReadyH.cons rfl (fun K hK => ?_) (AllReadyH.cons rfl (fun K hK => ?_) AllReadyH.nil)
    case' refine_1 =>
      have d2 := D2.out
      go_simp
      refine hK.out _ _ ?_ (fun hHeld => ?_)
      · trivial
      clear hK K
      refine wpAnyH_ready (rs := [10]) (by kernel_rfl) (by simp) ?_
      refine AllReadyH.cons rfl (fun K hK => ?_) AllReadyH.nil
      go_simp
      refine hK.out _ _ ?_ (fun hHeld => ?_)
      · trivial
      clear hK K
    case' refine_2 =>
      go_simp
      refine hK.out _ _ ?_ (fun hHeld => ?_)
      · trivial
      clear hK K
      have d2 := D2'.out
      refine wpAnyH_ready (rs := [4]) (by kernel_rfl) (by simp) ?_
      refine AllReadyH.cons rfl (fun K hK => ?_) AllReadyH.nil
      go_simp
      refine hK.out _ _ ?_ (fun hHeld => ?_)
      · trivial
      clear hK K
    all_goals
      refine wpAnyH_ready (rs := [11]) (by kernel_rfl) (by simp) ?_
      refine AllReadyH.cons rfl (fun K hK => ?_) AllReadyH.nil
      refine step_append_lies _ (by rfl) _ _ 40 (by rfl) B 39 j0 (.agg #[.int .u8 0, .string ByteArray.empty]) 2 24 Tryz.underlying40 hj0 hy0 hy1 hy2 rfl (by decide) _ _ _ (by rfl) V2.out ⟨V.heap.size, 0, none⟩ 1 1 [.int .u8 (c.toNat : Int), .string (bar t)] (by rfl) rfl HNEWS.out (fun x hx => by simp at hx; rcases hx with rfl | rfl <;> rfl) (by decide) (by unfold maxLen; omega) (by omega) (by rw [HS7.out]; omega) (V.heap.size + 1) HS7.out ?_; intro g8 c8 w8 hown8 hgrow8 hat8 hlt8
      refine hK.out _ _ ?_ (fun hHeld => ?_)
      · trivial
      clear hK K
      simp only [Act.put, List.getElem_toArray, List.getElem_cons_zero, List.getElem_cons_succ, List.setIfInBounds_toArray, List.set_cons_zero, List.set_cons_succ]
      refine wpAnyH_take (i := 12) (v := ?_) rfl (by kernel_rfl) (by kernel_rfl) (by kernel_rfl) (fun _ _ _ h => h) (Or.inl ⟨by rfl, ?_⟩) (by assumption) ?_
      rotate_left
      · intro w' hSw
        (try dsimp only at hSw)
        go_simp
        try with_reducible rfl
      simp only [Act.put, List.getElem_toArray, List.getElem_cons_zero, List.getElem_cons_succ, List.setIfInBounds_toArray, List.set_cons_zero, List.set_cons_succ]
      refine wpAnyH_take (i := 13) (v := ?_) rfl (by kernel_rfl) (by kernel_rfl) (by kernel_rfl) (fun _ _ _ h => h) (Or.inl ⟨by rfl, ?_⟩) (by assumption) ?_
      rotate_left
      · intro w' hSw
        (try dsimp only at hSw)
        go_simp
        try with_reducible rfl
      simp only [Act.put, List.getElem_toArray, List.getElem_cons_zero, List.getElem_cons_succ, List.setIfInBounds_toArray, List.set_cons_zero, List.set_cons_succ]
      have hrow8 := V1.out.kept hgrow8 (own_two V1.out V2.out (by decide))
      have q2 := hrow8.cellAt (hs.length * 3 + 2) (by omega)
      have fq := hrow8.frozenAt (hs.length * 3 + 2)
      rw [List.getElem?_append_right (by omega), hxl, show hs.length * 3 + 2 - hs.length * 3 = 2 by omega] at q2
      simp only [List.getElem?_cons_succ, List.getElem?_cons_zero] at q2
      refine wpAnyH_ready (rs := [14]) (by kernel_rfl) (by simp) ?_
      refine AllReadyH.cons rfl (fun K hK => ?_) AllReadyH.nil
      go_simp
      refine hK.out _ _ ?_ (fun hHeld => ?_)
      · trivial
      clear hK K
      refine wpAnyH_done (by kernel_rfl) ?_ _
      have HROP : Hid (Rop (w8.setCell ⟨g, hs.length * 3 + 2, none⟩ (.slice (some ⟨g8, 0, none⟩) (cur.length + 1) c8)) B (.slice (some ⟨g, 0, none⟩) (hs.length + 1) cp) hs o p (cur ++ [((c.toNat : Int), bar t)])) := Rop.push V1.out V2.out V3.out hgrow8 hown8 (by rcases hat8 with h | h; exact .inl (by rw [h]; rfl); exact .inr (by rw [h, HS7.out]; rfl))
      obtain ⟨cg, fg, hgb⟩ := own_type hrow8 (g := g) rfl
      have hgr : g ≠ r := fun e => by
        have h2 := HR7.out
        obtain ⟨c7, f7, h7⟩ := own_type V1.out (g := g) rfl
        unfold Rsb at h2
        rw [← e, h7] at h2
        simp at h2
      have hr8 : Rsb w8 r (.slice (some ⟨g, 0, none⟩) (hs.length + 1) cp) b1 a1 := by
        unfold Rsb
        rw [hgrow8.block r HR7.out.lt (fun e => by
          obtain ⟨c7, f7, h7⟩ := own_type V2.out e.symm
          have h2 := HR7.out
          unfold Rsb at h2
          rw [h7] at h2
          simp at h2)]
        exact HR7.out
      have hr9 : Rsb (w8.setCell ⟨g, hs.length * 3 + 2, none⟩ (.slice (some ⟨g8, 0, none⟩) (cur.length + 1) c8)) r (.slice (some ⟨g, 0, none⟩) (hs.length + 1) cp) b1 a1 := by
        unfold Rsb
        rw [Below.heap_setCell _ _ _ _ (show r ≠ g from fun e => hgr e.symm)]
        exact hr8
      have hb9 : Below B w (w8.setCell ⟨g, hs.length * 3 + 2, none⟩ (.slice (some ⟨g8, 0, none⟩) (cur.length + 1) c8)) := (HB7.out.grown hgrow8 (by rw [HS7.out]; omega) (fun k hk => (V2.out.lt k hk).1)).setCell (show B ≤ g from (V1.out.lt g rfl).1) _
      generalize w8.setCell ⟨g, hs.length * 3 + 2, none⟩ (.slice (some ⟨g8, 0, none⟩) (cur.length + 1) c8) = W9 at HROP hr9 hb9 ⊢
      obtain ⟨k0, k1, k2, _⟩ := hr9.cells
      have FIN : Hid (∀ b' a', wnt c b a = some (b', a') → Rst W9 B r (hs ++ [(o, p, cur ++ [((c.toNat : Int), bar t)])], b', a')) := fun b' a' h => by
        obtain ⟨x1, x2⟩ := FL.out.2 b' a' h
        rw [x1, x2] at hr9
        exact Rst.of hBr hr9 HROP.out
      clear hr9 hr8 hgb hrow8 q2 fq hown8 hgrow8 hat8 hlt8 hHeld d2
      by_cases hz : 0 ≤ b1
      all_goals
        go_wp2
        go_ret
        refine ⟨?_, hb9, FIN.out⟩
        rw [FL.out.1]
        first | (simp [hz]; done) | (simp; intro h; omega)

end Go.Proofs.YtkelcjfblekhpacGreatDoor
