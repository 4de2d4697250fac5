/-
  Walk of the reader's takeMark.
-/
import Derived.Test.YtjgdicghmkfohacGreatDoorUrd

namespace Go.Proofs.YtjgdicghmkfohacGreatDoor
open Go.RowKit Dist

attribute [local go_sem] Go.wp_at_zero Go.wp_at_succ

theorem head_byte (s : ByteArray) (c : UInt8) (t : List UInt8) (h : s.data.toList = c :: t) : ∃ h0 : 0 < s.size, s[0]'h0 = c ∧ s.extract 1 s.size = bar t := by
  have h0 : 0 < s.size := by rw [Lib.size_eq, h]; simp
  refine ⟨h0, ?_, ?_⟩
  · have := Lib.getD_at s 0 h0
    rw [h] at this
    exact this
  · have e : (s.extract 1 s.size).data.toList = t := by
      rw [Lib.extract_data, h, List.drop_succ_cons, List.drop_zero, List.take_of_length_le (by rw [Lib.size_eq, h]; simp)]
    rw [← data_bar (s.extract 1 s.size), e]

theorem wnt_eq (c : UInt8) (b a : Nat) (t : ByteArray) : wnt c b a = if (ob [((c.toNat : Int), t)] + nb [((c.toNat : Int), t)] = 0 ∨ b < ob [((c.toNat : Int), t)]) ∨ a < nb [((c.toNat : Int), t)] then none else some (b - ob [((c.toNat : Int), t)], a - nb [((c.toNat : Int), t)]) := by
  unfold wnt
  rw [ob_one, nb_one]
  by_cases h1 : c = 32
  · subst h1
    rw [if_pos rfl]
    by_cases h : 0 < b ∧ 0 < a
    · rw [if_pos h, if_neg (by simp; omega)]; simp
    · rw [if_neg h, if_pos (by simp; omega)]
  · rw [if_neg h1]
    have e1 : ¬ ((c.toNat : Int) = 32) := fun e => h1 (by apply UInt8.toNat_inj.1; show c.toNat = 32; omega)
    by_cases h2 : c = 45
    · subst h2
      rw [if_pos rfl]
      by_cases h : 0 < b
      · rw [if_pos h, if_neg (by simp; omega)]; simp
      · rw [if_neg h, if_pos (by simp; omega)]
    · rw [if_neg h2]
      have e2 : ¬ ((c.toNat : Int) = 45) := fun e => h2 (by apply UInt8.toNat_inj.1; show c.toNat = 45; omega)
      by_cases h3 : c = 43
      · subst h3
        rw [if_pos rfl]
        by_cases h : 0 < a
        · rw [if_pos h, if_neg (by simp; omega)]; simp
        · rw [if_neg h, if_pos (by simp; omega)]
      · rw [if_neg h3]
        have e3 : ¬ ((c.toNat : Int) = 43) := fun e => h3 (by apply UInt8.toNat_inj.1; show c.toNat = 43; omega)
        rw [if_pos (by simp [e1, e2, e3])]

theorem obnb_one (c : UInt8) (t : ByteArray) : ob [((c.toNat : Int), t)] ≤ 1 ∧ nb [((c.toNat : Int), t)] ≤ 1 := by
  rw [ob_one, nb_one]; constructor <;> split <;> omega

theorem mks_one (w : World) (c : Int) (t : ByteArray) : Mks (w.alloc (.cells #[.int .u8 c, .string t] 39)) (some ⟨w.heap.size, 0, none⟩) [(c, t)] := by
  have h := heap_alloc_new w (.cells #[.int .u8 c, .string t] 39)
  intro i hi
  obtain rfl : i = 0 := by simpa using hi
  exact ⟨_, 0, rfl, Lib.cell_of_heap h 0, Lib.cell_of_heap h 1⟩

set_option maxRecDepth 100000 in
set_option maxHeartbeats 2000000 in
theorem takeMark_empty (B r : Nat) (s : ByteArray) (w : World) (h : s.data.toList = []) :
    Calls Tryz.prog 97 #[.pointer (some ⟨r, 0, none⟩), .string s] w fun e w' => e = .returned (.bool false) ∧ Below B w w' := by
  have he : s.toList.isEmpty = true := by rw [Lib.toList_data, h]; rfl
  clear h
  go_enter Tryz.func97, Tryz.ntmps97
  go_wp2
  go_ret
  exact ⟨rfl, Below.refl _ _⟩

set_option maxRecDepth 100000 in
set_option maxHeartbeats 2000000 in
theorem takeMark_flaw (r b a : Nat) (v : Value) (s : ByteArray) (c : UInt8) (t : List UInt8) (w : World) (hrb : Rsb w r v b a) (hs0 : s.data.toList = c :: t) (hw : wnt c b a = none) :
    Calls Tryz.prog 97 #[.pointer (some ⟨r, 0, none⟩), .string s] w fun e w' => e = .returned (.bool false) ∧ Below w.heap.size w w' := by
  have he : s.toList.isEmpty = false := by rw [Lib.toList_data, hs0]; rfl
  obtain ⟨h0, hc0, ht0⟩ := head_byte s c t hs0
  have hb0 := below_alloc w (.cells #[.int .u8 (c.toNat : Int), .string ByteArray.empty] 39)
  have hsize := hunkSz 0 0 (some ⟨w.heap.size, 0, none⟩) [((c.toNat : Int), ByteArray.empty)] 1 _ (mks_one w (c.toNat : Int) ByteArray.empty) (by unfold maxLen; simp)
  rw [wnt_eq c b a ByteArray.empty] at hw
  obtain ⟨x1, y1⟩ := obnb_one c ByteArray.empty
  obtain ⟨x, hx⟩ : ∃ x, ob [((c.toNat : Int), ByteArray.empty)] = x := ⟨_, rfl⟩
  obtain ⟨y, hy⟩ : ∃ y, nb [((c.toNat : Int), ByteArray.empty)] = y := ⟨_, rfl⟩
  rw [hx] at hsize hw x1
  rw [hy] at hsize hw y1
  rw [List.length_singleton] at hsize
  have hno : (x + y = 0 ∨ b < x) ∨ a < y := by
    by_cases h : (x + y = 0 ∨ b < x) ∨ a < y
    · exact h
    · rw [if_neg h] at hw; cases hw
  have HB0 : Hid (Below w.heap.size w (w.alloc (.cells #[.int .u8 (c.toNat : Int), .string ByteArray.empty] 39))) := hb0
  have HRB : Hid (Rsb w r v b a) := hrb
  clear hw hx hy hrb hb0 hs0
  go_enter Tryz.func97, Tryz.ntmps97
  go_wp2_with (go_at_call 56; refine hsize.mono ?_)
  rintro e w1 ⟨rfl, hb1⟩
  have hb1 := HB0.out.trans (hb1.mono HB0.out.size)
  obtain ⟨k0, k1, k2, f0, f1, f2⟩ := (HRB.out.below hb1).cells
  clear hsize HB0
  by_cases hz : x + y = 0
  · obtain rfl : x = 0 := by omega
    obtain rfl : y = 0 := by omega
    clear hno hz
    go_wp2
    go_ret
    exact ⟨rfl, hb1⟩
  have hz' : ((x : Int) + y == 0) = false := by rw [beq_eq_false_iff_ne]; omega
  by_cases hbx : b < x
  · clear hno hz
    go_wp2
    go_ret
    exact ⟨rfl, hb1⟩
  have hay : a < y := by omega
  clear hno hz
  go_wp2
  go_ret
  exact ⟨rfl, hb1⟩

set_option maxRecDepth 100000 in
set_option maxHeartbeats 2000000 in
theorem takeMark_good (B r : Nat) (hs : List Uk) (o p : Int) (cur : List (Int × ByteArray)) (b a b' a' : Nat) (v : Value) (s : ByteArray) (c : UInt8) (t : List UInt8) (w : World) (hrb : Rsb w r v b a) (hrp : Rop w B v hs o p cur) (hBr : B ≤ r) (hBw : B ≤ w.heap.size) (hlen : hs.length ≤ 400000) (hcur : cur.length ≤ 400000) (hsz : s.size ≤ 400000) (hb9 : b ≤ 999) (ha9 : a ≤ 999) (hs0 : s.data.toList = c :: t) (hw : wnt c b a = some (b', a')) :
    Calls Tryz.prog 97 #[.pointer (some ⟨r, 0, none⟩), .string s] w fun e w' => e = .returned (.bool true) ∧ Below B w w' ∧ Rst w' B r (hs ++ [(o, p, cur ++ [((c.toNat : Int), bar t)])], b', a') := by
  have he : s.toList.isEmpty = false := by rw [Lib.toList_data, hs0]; rfl
  obtain ⟨h0, hc0, ht0⟩ := head_byte s c t hs0
  have h01 : (1 : Int) ≤ s.size := by omega
  have htz : (bar t).size ≤ 400000 := by rw [bar_size]; have := congrArg List.length hs0; rw [List.length_cons, ← Lib.size_eq] at this; omega
  have hb0 := below_alloc w (.cells #[.int .u8 (c.toNat : Int), .string ByteArray.empty] 39)
  have hsize := hunkSz 0 0 (some ⟨w.heap.size, 0, none⟩) [((c.toNat : Int), ByteArray.empty)] 1 _ (mks_one w (c.toNat : Int) ByteArray.empty) (by unfold maxLen; simp)
  rw [wnt_eq c b a ByteArray.empty] at hw
  obtain ⟨x1, y1⟩ := obnb_one c ByteArray.empty
  obtain ⟨x, hx⟩ : ∃ x, ob [((c.toNat : Int), ByteArray.empty)] = x := ⟨_, rfl⟩
  obtain ⟨y, hy⟩ : ∃ y, nb [((c.toNat : Int), ByteArray.empty)] = y := ⟨_, rfl⟩
  rw [hx] at hsize hw x1
  rw [hy] at hsize hw y1
  rw [List.length_singleton] at hsize
  have hyes : ¬ ((x + y = 0 ∨ b < x) ∨ a < y) := fun h => by rw [if_pos h] at hw; cases hw
  rw [if_neg hyes] at hw
  simp only [Option.some.injEq, Prod.mk.injEq] at hw
  obtain ⟨hw1, hw2⟩ := hw
  have hz' : ((x : Int) + y == 0) = false := by rw [beq_eq_false_iff_ne]; omega
  have hbx : ¬ b < x := by omega
  have hay : ¬ a < y := by omega
  have HW1 : Hid ((b : Int) - x = b') := by show (b : Int) - x = b'; omega
  have HW2 : Hid ((a : Int) - y = a') := by show (a : Int) - y = a'; omega
  obtain ⟨xs, vl, hh1, hh2, hh3⟩ := hrp
  obtain ⟨g, cp, rfl, hg1, hg2⟩ := hh1.form (Nat.succ_pos _)
  obtain ⟨j0, hj0, hy0, hy1, hy2⟩ := info_parts Tryz.infoMark
  have HB0 : Hid (Below w.heap.size w (w.alloc (.cells #[.int .u8 (c.toNat : Int), .string ByteArray.empty] 39))) := hb0
  have HRB : Hid (Rsb w r (.slice (some ⟨g, 0, none⟩) (hs.length + 1) cp) b a) := hrb
  have HRP : Hid (Rop w B (.slice (some ⟨g, 0, none⟩) (hs.length + 1) cp) hs o p cur) := ⟨xs, vl, hh1, hh2, hh3⟩
  clear hh1 hh2 hh3 hg1 hg2 hrb hs0 hx hy hyes hw1 hw2 hb0
  go_enter Tryz.func97, Tryz.ntmps97
  go_wp2_with (go_at_call 56; refine hsize.mono ?_)
  rintro e w1 ⟨rfl, hb1⟩
  have hb1 := HB0.out.trans (hb1.mono HB0.out.size)
  have hr1 := HRB.out.below hb1
  have HR1 : Hid (Rsb w1 r (.slice (some ⟨g, 0, none⟩) (hs.length + 1) cp) b a) := hr1
  have HP1 : Hid (Rop w1 B (.slice (some ⟨g, 0, none⟩) (hs.length + 1) cp) hs o p cur) := HRP.out.below hb1
  have HB1 : Hid (Below B w w1) := hb1.mono hBw
  obtain ⟨k0, k1, k2, f0, f1, f2⟩ := hr1.cells
  clear hsize HB0 HRB HRP hb1 hr1
  go_wp2_with fail
  have hr1 : Rsb (w1.setCell ⟨r, 1, none⟩ (.int .i64 ((b : Int) - x))) r (.slice (some ⟨g, 0, none⟩) (hs.length + 1) cp) ((b : Int) - x) a := by
    have := blk_set (i := 1) HR1.out (.int .i64 ((b : Int) - x))
    unfold Rsb; simpa using this
  have hr2 : Rsb ((w1.setCell ⟨r, 1, none⟩ (.int .i64 ((b : Int) - x))).setCell ⟨r, 2, none⟩ (.int .i64 ((a : Int) - y))) r (.slice (some ⟨g, 0, none⟩) (hs.length + 1) cp) ((b : Int) - x) ((a : Int) - y) := by
    have := blk_set (i := 2) hr1 (.int .i64 ((a : Int) - y))
    unfold Rsb; simpa using this
  have hp2 := (HP1.out.set HR1.out (i := 1) (by decide) (by decide) (.int .i64 ((b : Int) - x))).set hr1 (i := 2) (by decide) (by decide) (.int .i64 ((a : Int) - y))
  have hbW : Below B w ((w1.setCell ⟨r, 1, none⟩ (.int .i64 ((b : Int) - x))).setCell ⟨r, 2, none⟩ (.int .i64 ((a : Int) - y))) := (HB1.out.setCell (show B ≤ r from hBr) _).setCell (show B ≤ r from hBr) _
  generalize (w1.setCell ⟨r, 1, none⟩ (.int .i64 ((b : Int) - x))).setCell ⟨r, 2, none⟩ (.int .i64 ((a : Int) - y)) = W at hr2 hp2 hbW ⊢
  rw [HW1.out, HW2.out] at hr2
  clear k0 k1 k2 f0 f1 f2 HR1 HP1 hr1 HW1 HW2 hz' hbx hay
  obtain ⟨k0, k1, k2, f0, f1, f2⟩ := hr2.cells
  have HR2 : Hid (Rsb W r (.slice (some ⟨g, 0, none⟩) (hs.length + 1) cp) b' a') := hr2
  have HP2 : Hid (Rop W B (.slice (some ⟨g, 0, none⟩) (hs.length + 1) cp) hs o p cur) := hp2
  have HBW : Hid (Below B w W) := hbW
  clear hr2 hp2 hbW
  go_quiet (fail)
  go_wp2_with fail
  have hbV : Below W.heap.size W (W.drewN nq) := below_drawn (Below.refl _ _)
  have HRV : Hid (Rsb (W.drewN nq) r (.slice (some ⟨g, 0, none⟩) (hs.length + 1) cp) b' a') := HR2.out.below hbV
  have hpV := HP2.out.below hbV
  have hBW : B ≤ W.heap.size := Nat.le_trans hBw HBW.out.size
  have HBV : Hid (Below B w (W.drewN nq)) := HBW.out.trans (hbV.mono hBW)
  have hBV : B ≤ (W.drewN nq).heap.size := Nat.le_trans hBw HBV.out.size
  clear hbV
  generalize W.drewN nq = V at HRV hpV HBV hBV ⊢
  clear k0 k1 k2 f0 f1 f2
  obtain ⟨xs, vl, hh1, hh2, hh3⟩ := hpV
  obtain ⟨al, nl, el, rfl⟩ := own_slc hh2
  have hxl := hh3.1
  have d2 := hh1.cellAt (hs.length * 3 + 2) (by omega)
  rw [List.getElem?_append_right (by omega), hxl, show hs.length * 3 + 2 - hs.length * 3 = 2 by omega] at d2
  simp only [List.getElem?_cons_succ, List.getElem?_cons_zero] at d2
  have D2 : Hid (V.cell? ⟨g, hs.length * 3 + 2, none⟩ = some (.slice al nl el)) := d2
  have VB : Hid (Below V.heap.size V V.drew) := ⟨rfl, rfl, rfl, Nat.le_refl _, fun _ _ => rfl⟩
  have HH1 : Hid (V.ownsRow B 42 3 (.slice (some ⟨g, 0, none⟩) (hs.length + 1) cp) (hs.length + 1) (xs ++ [.int .i64 o, .int .i64 p, .slice al nl el])) := hh1
  have HH2 : Hid (V.ownsRow B 39 2 (.slice al nl el) cur.length (mcells cur)) := hh2
  have HH3 : Hid (Olds V B hs xs (Value.slice al nl el).ownBlock) := hh3
  have HCL := clone (bar t) V.drew (by omega)
  clear hh1 hh2 hh3 d2
  refine wp_region_held_drew (S := fun _ => True) (by kernel_rfl) ?_ (fun hHeld => ?_)
  · trivial
  refine wpAnyH_take (i := 0) (v := ?_) rfl (by kernel_rfl) (by kernel_rfl) (by kernel_rfl) (fun _ _ _ h => h) (Or.inl ⟨by rfl, ?_⟩) (by assumption) ?_
  rotate_left
  · intro w' hSw
    (try dsimp only at hSw)
    go_simp
    try with_reducible rfl
  simp only [Act.put, List.getElem_toArray, List.getElem_cons_zero, List.setIfInBounds_toArray, List.set_cons_zero, List.set_cons_succ]
  refine wpAnyH_take (i := 1) (v := ?_) rfl (by kernel_rfl) (by kernel_rfl) (by kernel_rfl) (fun _ _ _ h => h) (Or.inl ⟨by rfl, ?_⟩) (by assumption) ?_
  rotate_left
  · intro w' hSw
    (try dsimp only at hSw)
    go_simp
    try with_reducible rfl
  simp only [Act.put, List.getElem_toArray, List.getElem_cons_zero, List.getElem_cons_succ, List.setIfInBounds_toArray, List.set_cons_zero, List.set_cons_succ]
  refine wpAnyH_take (i := 2) (v := ?_) rfl (by kernel_rfl) (by kernel_rfl) (by kernel_rfl) (fun _ _ _ h => h) (Or.inl ⟨by rfl, ?_⟩) (by assumption) ?_
  rotate_left
  · intro w' hSw
    (try dsimp only at hSw)
    go_simp
    try with_reducible rfl
  simp only [Act.put, List.getElem_toArray, List.getElem_cons_zero, List.getElem_cons_succ, List.setIfInBounds_toArray, List.set_cons_zero, List.set_cons_succ]
  refine wpAnyH_take (i := 3) (v := ?_) rfl (by kernel_rfl) (by kernel_rfl) (by kernel_rfl) (fun _ _ _ h => h) (Or.inl ⟨by rfl, ?_⟩) (by assumption) ?_
  rotate_left
  · intro w' hSw
    (try dsimp only at hSw)
    go_simp
    try with_reducible rfl
  simp only [Act.put, List.getElem_toArray, List.getElem_cons_zero, List.getElem_cons_succ, List.setIfInBounds_toArray, List.set_cons_zero, List.set_cons_succ]
  refine wpAnyH_take (i := 5) (v := ?_) rfl (by kernel_rfl) (by kernel_rfl) (by kernel_rfl) (fun _ _ _ h => h) (Or.inl ⟨by rfl, ?_⟩) (by assumption) ?_
  rotate_left
  · intro w' hSw
    (try dsimp only at hSw)
    go_simp
    try with_reducible rfl
  simp only [Act.put, List.getElem_toArray, List.getElem_cons_zero, List.getElem_cons_succ, List.setIfInBounds_toArray, List.set_cons_zero, List.set_cons_succ]
  refine wpAnyH_take (i := 6) (v := ?_) rfl (by kernel_rfl) (by kernel_rfl) (by kernel_rfl) (fun _ _ _ h => h) (Or.inl ⟨by rfl, ?_⟩) (by assumption) ?_
  rotate_left
  · intro w' hSw
    (try dsimp only at hSw)
    go_simp
    try with_reducible rfl
  simp only [Act.put, List.getElem_toArray, List.getElem_cons_zero, List.getElem_cons_succ, List.setIfInBounds_toArray, List.set_cons_zero, List.set_cons_succ]
  refine wpAnyH_take (i := 7) (v := ?_) rfl (by kernel_rfl) (by kernel_rfl) (by kernel_rfl) (fun _ _ _ h => h) (Or.inl ⟨by rfl, ?_⟩) (by assumption) ?_
  rotate_left
  · intro w' hSw
    (try dsimp only at hSw)
    go_simp
    try with_reducible rfl
  simp only [Act.put, List.getElem_toArray, List.getElem_cons_zero, List.getElem_cons_succ, List.setIfInBounds_toArray, List.set_cons_zero, List.set_cons_succ]
  refine wpAnyH_take (i := 8) (v := ?_) rfl (by kernel_rfl) (by kernel_rfl) (by kernel_rfl) (fun _ _ _ h => h) (Or.inl ⟨by rfl, ?_⟩) (by assumption) ?_
  rotate_left
  · intro w' hSw
    (try dsimp only at hSw)
    go_simp
    try with_reducible rfl
  simp only [Act.put, List.getElem_toArray, List.getElem_cons_zero, List.getElem_cons_succ, List.setIfInBounds_toArray, List.set_cons_zero, List.set_cons_succ]
  refine wpAnyH_ready (rs := [4, 9]) (by kernel_rfl) (by simp) ?_
  refine AllReadyH.cons rfl (fun K hK => ?_) (AllReadyH.cons rfl (fun K hK => ?_) AllReadyH.nil)
  case' refine_1 =>
    have d2 := D2.out
    go_simp
    refine hK.out _ _ ?_ (fun hHeld => ?_)
    · trivial
    clear hK K
    clear d2
    refine wpAnyH_ready (rs := [9]) (by kernel_rfl) (by simp) ?_
    refine AllReadyH.cons rfl (fun K hK => ?_) AllReadyH.nil
    go_simp
    go_at_call 41; refine HCL.mono ?_; rintro e w2 ⟨rfl, hb2⟩
    go_wp2_with fail
    refine hK.out _ _ ?_ (fun hHeld => ?_)
    · trivial
    clear hK K HCL
    refine wpAnyH_take (i := 10) (v := ?_) rfl (by kernel_rfl) (by kernel_rfl) (by kernel_rfl) (fun _ _ _ h => h) (Or.inl ⟨by rfl, ?_⟩) (by assumption) ?_
    rotate_left
    · intro w' hSw
      (try dsimp only at hSw)
      go_simp
      try with_reducible rfl
    simp only [Act.put, List.getElem_toArray, List.getElem_cons_zero, List.getElem_cons_succ, List.setIfInBounds_toArray, List.set_cons_zero, List.set_cons_succ]
    refine wpAnyH_ready (rs := [11]) (by kernel_rfl) (by simp) ?_
    refine AllReadyH.cons rfl (fun K hK => ?_) AllReadyH.nil
    go_simp
    refine hK.out _ _ ?_ (fun hHeld => ?_)
    · trivial
    clear hK K
  case' refine_2 =>
    go_simp
    go_at_call 41; refine HCL.mono ?_; rintro e w2 ⟨rfl, hb2⟩
    go_wp2_with fail
    refine hK.out _ _ ?_ (fun hHeld => ?_)
    · trivial
    clear hK K HCL
    refine wpAnyH_take (i := 10) (v := ?_) rfl (by kernel_rfl) (by kernel_rfl) (by kernel_rfl) (fun _ _ _ h => h) (Or.inl ⟨by rfl, ?_⟩) (by assumption) ?_
    rotate_left
    · intro w' hSw
      (try dsimp only at hSw)
      go_simp
      try with_reducible rfl
    simp only [Act.put, List.getElem_toArray, List.getElem_cons_zero, List.getElem_cons_succ, List.setIfInBounds_toArray, List.set_cons_zero, List.set_cons_succ]
    have d2 := cell_later (VB.out.trans hb2) D2.out
    refine wpAnyH_ready (rs := [4, 11]) (by kernel_rfl) (by simp) ?_
    refine AllReadyH.cons rfl (fun K hK => ?_) (AllReadyH.cons rfl (fun K hK => ?_) AllReadyH.nil)
    case' refine_1 =>
      go_simp
      refine hK.out _ _ ?_ (fun hHeld => ?_)
      · trivial
      clear hK K
      clear d2
      refine wpAnyH_ready (rs := [11]) (by kernel_rfl) (by simp) ?_
      refine AllReadyH.cons rfl (fun K hK => ?_) AllReadyH.nil
      go_simp
      refine hK.out _ _ ?_ (fun hHeld => ?_)
      · trivial
      clear hK K
    case' refine_2 =>
      go_simp
      refine hK.out _ _ ?_ (fun hHeld => ?_)
      · trivial
      clear hK K
      replace d2 := cell_later (below_alloc w2 (.cells #[.int .u8 (c.toNat : Int), .string (bar t)] 39)) d2
      refine wpAnyH_ready (rs := [4]) (by kernel_rfl) (by simp) ?_
      refine AllReadyH.cons rfl (fun K hK => ?_) AllReadyH.nil
      go_simp
      refine hK.out _ _ ?_ (fun hHeld => ?_)
      · trivial
      clear hK K
      clear d2
  all_goals
    have hb2 := VB.out.trans hb2
    have hb7 : Below V.heap.size V (w2.alloc (.cells #[.int .u8 (c.toNat : Int), .string (bar t)] 39)) := hb2.trans ((below_alloc w2 _).mono hb2.size)
    have V1 : Hid ((w2.alloc (.cells #[.int .u8 (c.toNat : Int), .string (bar t)] 39)).ownsRow B 42 3 (.slice (some ⟨g, 0, none⟩) (hs.length + 1) cp) (hs.length + 1) (xs ++ [.int .i64 o, .int .i64 p, .slice al nl el])) := own_later HH1.out hb7
    have V2 : Hid ((w2.alloc (.cells #[.int .u8 (c.toNat : Int), .string (bar t)] 39)).ownsRow B 39 2 (.slice al nl el) cur.length (mcells cur)) := own_later HH2.out hb7
    have V3 : Hid (Olds (w2.alloc (.cells #[.int .u8 (c.toNat : Int), .string (bar t)] 39)) B hs xs (Value.slice al nl el).ownBlock) := HH3.out.below hb7
    have HR7 : Hid (Rsb (w2.alloc (.cells #[.int .u8 (c.toNat : Int), .string (bar t)] 39)) r (.slice (some ⟨g, 0, none⟩) (hs.length + 1) cp) b' a') := HRV.out.below hb7
    have HNEWS : Hid (∀ j u, ([.int .u8 (c.toNat : Int), .string (bar t)] : List Value)[j]? = some u → (w2.alloc (.cells #[.int .u8 (c.toNat : Int), .string (bar t)] 39)).cell? ((⟨w2.heap.size, 0, none⟩ : Addr).add j) = some u) := cell_two_new w2 (.int .u8 (c.toNat : Int)) (.string (bar t)) 39
    have HS7 : Hid ((w2.alloc (.cells #[.int .u8 (c.toNat : Int), .string (bar t)] 39)).heap.size = w2.heap.size + 1) := by show (w2.alloc (.cells #[.int .u8 (c.toNat : Int), .string (bar t)] 39)).heap.size = w2.heap.size + 1; simp
    have HB7 : Hid (Below B w (w2.alloc (.cells #[.int .u8 (c.toNat : Int), .string (bar t)] 39))) := HBV.out.trans (hb7.mono hBV)
    have hBw2 : B ≤ w2.heap.size := Nat.le_trans hBV hb2.size
    clear hb7 hb2
    refine wpAnyH_ready (rs := [12]) (by kernel_rfl) (by simp) ?_
    refine AllReadyH.cons rfl (fun K hK => ?_) AllReadyH.nil
    refine step_append_lies _ (by rfl) _ _ 40 (by rfl) B 39 j0 (.agg #[.int .u8 0, .string ByteArray.empty]) 2 24 Tryz.underlying40 hj0 hy0 hy1 hy2 rfl (by decide) _ _ _ (by rfl) V2.out ⟨w2.heap.size, 0, none⟩ 1 1 [.int .u8 (c.toNat : Int), .string (bar t)] (by rfl) rfl HNEWS.out (fun x hx => by simp at hx; rcases hx with rfl | rfl <;> rfl) (by decide) (by unfold maxLen; omega) (by omega) (by rw [HS7.out]; omega) (w2.heap.size + 1) HS7.out ?_; intro g8 c8 w8 hown8 hgrow8 hat8 hlt8
    refine hK.out _ _ ?_ (fun hHeld => ?_)
    · trivial
    clear hK K
    simp only [Act.put, List.getElem_toArray, List.getElem_cons_zero, List.getElem_cons_succ, List.setIfInBounds_toArray, List.set_cons_zero, List.set_cons_succ]
    refine wpAnyH_take (i := 13) (v := ?_) rfl (by kernel_rfl) (by kernel_rfl) (by kernel_rfl) (fun _ _ _ h => h) (Or.inl ⟨by rfl, ?_⟩) (by assumption) ?_
    rotate_left
    · intro w' hSw
      (try dsimp only at hSw)
      go_simp
      try with_reducible rfl
    simp only [Act.put, List.getElem_toArray, List.getElem_cons_zero, List.getElem_cons_succ, List.setIfInBounds_toArray, List.set_cons_zero, List.set_cons_succ]
    refine wpAnyH_take (i := 14) (v := ?_) rfl (by kernel_rfl) (by kernel_rfl) (by kernel_rfl) (fun _ _ _ h => h) (Or.inl ⟨by rfl, ?_⟩) (by assumption) ?_
    rotate_left
    · intro w' hSw
      (try dsimp only at hSw)
      go_simp
      try with_reducible rfl
    simp only [Act.put, List.getElem_toArray, List.getElem_cons_zero, List.getElem_cons_succ, List.setIfInBounds_toArray, List.set_cons_zero, List.set_cons_succ]
    have hrow8 := V1.out.kept hgrow8 (own_two V1.out V2.out (by decide))
    have q2 := hrow8.cellAt (hs.length * 3 + 2) (by omega)
    have fq := hrow8.frozenAt (hs.length * 3 + 2)
    rw [List.getElem?_append_right (by omega), hxl, show hs.length * 3 + 2 - hs.length * 3 = 2 by omega] at q2
    simp only [List.getElem?_cons_succ, List.getElem?_cons_zero] at q2
    refine wpAnyH_ready (rs := [15]) (by kernel_rfl) (by simp) ?_
    refine AllReadyH.cons rfl (fun K hK => ?_) AllReadyH.nil
    go_simp
    refine hK.out _ _ ?_ (fun hHeld => ?_)
    · trivial
    clear hK K
    refine wpAnyH_done (by kernel_rfl) ?_ _
    have HROP : Hid (Rop (w8.setCell ⟨g, hs.length * 3 + 2, none⟩ (.slice (some ⟨g8, 0, none⟩) (cur.length + 1) c8)) B (.slice (some ⟨g, 0, none⟩) (hs.length + 1) cp) hs o p (cur ++ [((c.toNat : Int), bar t)])) := Rop.push V1.out V2.out V3.out hgrow8 hown8 (by rcases hat8 with h | h; exact .inl (by rw [h]; rfl); exact .inr (by rw [h, HS7.out]; rfl))
    have hgr : g ≠ r := fun e => by
      have h2 := HR7.out
      obtain ⟨c7, f7, h7⟩ := own_type V1.out (g := g) rfl
      unfold Rsb at h2
      rw [← e, h7] at h2
      simp at h2
    have hr8 : Rsb w8 r (.slice (some ⟨g, 0, none⟩) (hs.length + 1) cp) b' a' := by
      unfold Rsb
      rw [hgrow8.block r HR7.out.lt (fun e => by
        obtain ⟨c7, f7, h7⟩ := own_type V2.out e.symm
        have h2 := HR7.out
        unfold Rsb at h2
        rw [h7] at h2
        simp at h2)]
      exact HR7.out
    have hr9 : Rsb (w8.setCell ⟨g, hs.length * 3 + 2, none⟩ (.slice (some ⟨g8, 0, none⟩) (cur.length + 1) c8)) r (.slice (some ⟨g, 0, none⟩) (hs.length + 1) cp) b' a' := by
      unfold Rsb
      rw [Below.heap_setCell _ _ _ _ (show r ≠ g from fun e => hgr e.symm)]
      exact hr8
    have hb9 : Below B w (w8.setCell ⟨g, hs.length * 3 + 2, none⟩ (.slice (some ⟨g8, 0, none⟩) (cur.length + 1) c8)) := (HB7.out.grown hgrow8 (by rw [HS7.out]; omega) (fun k hk => (V2.out.lt k hk).1)).setCell (show B ≤ g from (V1.out.lt g rfl).1) _
    generalize w8.setCell ⟨g, hs.length * 3 + 2, none⟩ (.slice (some ⟨g8, 0, none⟩) (cur.length + 1) c8) = W9 at HROP hr9 hb9 ⊢
    have FIN : Hid (Rst W9 B r (hs ++ [(o, p, cur ++ [((c.toNat : Int), bar t)])], b', a')) := Rst.of hBr hr9 HROP.out
    clear hr9 hr8 hrow8 q2 fq hown8 hgrow8 hat8 hlt8 hHeld
    go_wp2
    go_ret
    exact ⟨rfl, hb9, FIN.out⟩

end Go.Proofs.YtjgdicghmkfohacGreatDoor
