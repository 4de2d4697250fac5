/-
  Walks of patch.checkDiff, patch.isAhead and patch.change: what keeps two trees from being compared; which tree's first file comes first; a change between two files.
-/
import Derived.Test.YtnkdmgekpajfhaeDoorPjn
import Derived.Test.YtnkdmgekpajfhaeDoorDrw
import Derived.Test.YtnkdmgekpajfhaeDoorXw
namespace Go.Proofs.YtnkdmgekpajfhaeDoor
open Go.RowKit Dist

/-- The first file of the one tree is not in the other. -/
def iaB : List Fl → List Fl → Bool
  | _, [] => true
  | [], _ :: _ => false
  | x :: _, y :: _ => bl x.1 y.1

set_option maxHeartbeats 1000000 in
theorem isAheadOf (a b : Option Addr) (l m : List Fl) (ca cb : Nat) (w : World) (ha : Fls w a l) (hb : Fls w b m) :
    Calls Tryd.prog 47 #[.slice a l.length ca, .slice b m.length cb] w fun e w' => e = .returned (.bool (iaB l m)) ∧ Below w.heap.size w w' := by
  cases m with
  | nil =>
    obtain ⟨n, hn⟩ : ∃ n, l.length = n := ⟨_, rfl⟩
    rw [hn, List.length_nil]
    have hd0 : (((0 : Nat) : Int) == 0) = true := by simp
    clear ha hb hn
    go_enter Tryd.func47, Tryd.ntmps47
    go_wp2
    go_quiet (fail)
    go_wp2
    go_ret
    refine ⟨?_, below_drawn (Below.refl _ _)⟩
    cases l <;> rfl
  | cons y m =>
    obtain ⟨b2, o2, rfl⟩ := hb.addr (i := 0) (by simp)
    obtain ⟨_, _, y1, _⟩ := hb.at (i := 0) (by simp)
    rw [Nat.zero_mul, Nat.add_zero] at y1
    replace y1 : w.cell? ⟨b2, o2, none⟩ = some (.string y.1) := y1
    obtain ⟨k, hk⟩ : ∃ k, (y :: m).length = k := ⟨_, rfl⟩
    have hkp : 0 < k := by rw [← hk]; simp
    rw [hk]
    have hm0 : ((k : Int) == 0) = false := by simp; omega
    have hm1 : ¬ ((k : Int) = 0) := by omega
    have hm2 : ¬ (k = 0) := by omega
    cases l with
    | nil =>
      rw [List.length_nil]
      have hd0 : decide ((0 : Int) < ((0 : Nat) : Int)) = false := by simp
      clear ha hb hk
      go_enter Tryd.func47, Tryd.ntmps47
      go_wp2
      go_quiet (fail)
      go_wp2
      go_ret
      exact ⟨rfl, below_drawn (Below.refl _ _)⟩
    | cons x l =>
      obtain ⟨b1, o1, rfl⟩ := ha.addr (i := 0) (by simp)
      obtain ⟨_, _, x1, _⟩ := ha.at (i := 0) (by simp)
      rw [Nat.zero_mul, Nat.add_zero] at x1
      replace x1 : w.cell? ⟨b1, o1, none⟩ = some (.string x.1) := x1
      obtain ⟨j, hj⟩ : ∃ j, (x :: l).length = j := ⟨_, rfl⟩
      have hjp : 0 < j := by rw [← hj]; simp
      rw [hj]
      have hd0 : decide (0 < j) = true := decide_eq_true hjp
      have hd1 : decide ((0 : Int) < (j : Int)) = true := decide_eq_true (by omega)
      have HI : Hid (∀ r, Op.bytesLess x.1.toList y.1.toList = r → iaB (x :: l) (y :: m) = r) := fun r h => h
      obtain ⟨r, hr⟩ : ∃ r, Op.bytesLess x.1.toList y.1.toList = r := ⟨_, rfl⟩
      rw [HI.out r hr]
      clear ha hb hk hj HI
      go_enter Tryd.func47, Tryd.ntmps47
      go_wp2
      go_quiet (fail)
      go_wp2
      go_ret
      exact ⟨rfl, below_drawn (Below.refl _ _)⟩

set_option maxHeartbeats 400000 in
theorem makeOwn (a b : Option Addr) (xs ys : List ByteArray) (ca cb n : Nat) (w : World) (ha : Strs w a xs) (hb : Strs w b ys) (hf : ff xs ys = 0) (hn : n ≤ 1000) :
    Calls Tryd.prog 70 #[.slice a xs.length ca, .slice b ys.length cb, .int .i64 n] w fun e w' => ∃ v, e = .returned (.tuple #[v, .nilIface]) ∧ Below w.heap.size w w' ∧ HOwn w' w.heap.size v (cut (scr xs ys) n) := by
  have hsc := script_cap a b xs ys ca cb w ha hb hf
  have hcf : cf (scr xs ys) n = 0 := by
    rw [scr_cf hf]
    unfold mkf
    rw [if_neg (fun e => e hf), if_neg (by omega)]
  obtain ⟨ks, hks⟩ : ∃ ks, scr xs ys = ks := ⟨_, rfl⟩
  rw [hks] at hsc hcf ⊢
  obtain ⟨m1, hm1⟩ : ∃ m, xs.length = m := ⟨_, rfl⟩
  obtain ⟨m2, hm2⟩ : ∃ m, ys.length = m := ⟨_, rfl⟩
  obtain ⟨m3, hm3⟩ : ∃ m, ks.length = m := ⟨_, rfl⟩
  rw [hm1, hm2, hm3] at hsc
  rw [hm1, hm2]
  have HCU := fun a' cap w (h : Mks w a' ks) (hc : m3 ≤ cap) => cut_ok a' ks cap n w h (by rw [hm3]; exact hc) hcf
  rw [hm3] at HCU
  obtain ⟨C, hC⟩ : ∃ C, cut ks n = C := ⟨_, rfl⟩
  rw [hC] at HCU ⊢
  clear ha hb hf hks hm1 hm2 hm3 hcf hC hn
  go_enter Tryd.func70, Tryd.ntmps70
  go_wp2_with (go_at_call 87; refine hsc.mono ?_)
  rintro e w1 ⟨a1, c1, rfl, hk1, hb1, hc1⟩
  clear hsc
  go_wp2_with (go_at_call 88; refine (HCU a1 c1 w1 hk1 hc1).mono ?_)
  rintro e w2 ⟨v, rfl, hb2, ho⟩
  have HO : Hid (HOwn w2 w.heap.size v C) := ho.mono hb1.size
  have hb2 := hb1.trans (hb2.mono hb1.size)
  clear HCU ho
  go_wp2
  go_ret2
  exact ⟨v, rfl, hb2, HO.out⟩

theorem gr_set (w : World) (g i : Nat) (v : Value) : Gr w (w.setCell ⟨g, i, none⟩ v) (some g) := by
  refine ⟨by simp, fun k hk hne => ?_⟩
  simp only [World.setCell, Array.getElem?_modify]
  rw [if_neg (fun e => hne (by rw [e]))]

set_option maxHeartbeats 1000000 in
theorem changeOf (wh : Int) (p : ByteArray) (a b : Option Addr) (xs ys : List ByteArray) (ca cb n : Nat) (w : World) (ha : Strs w a xs) (hb : Strs w b ys) (hf : ff xs ys = 0) (hn : n ≤ 1000) (hp : p.size ≤ 20) :
    Calls Tryd.prog 48 #[.int .i64 wh, .string p, .slice a xs.length ca, .slice b ys.length cb, .int .i64 n] w fun e w' => ∃ vh, e = .returned (.agg #[.int .i64 wh, .string p, vh]) ∧ Below w.heap.size w w' ∧ HOwn w' w.heap.size vh (cut (scr xs ys) n) := by
  have hb0 := below_alloc w (.cells #[.int .i64 0, .string ByteArray.empty, .slice none 0 0] 26)
  have hmk := makeOwn a b xs ys ca cb n _ (ha.below hb0) (hb.below hb0) hf hn
  have hcl := fun w => clone p w (by omega)
  obtain ⟨C, hC⟩ : ∃ C, cut (scr xs ys) n = C := ⟨_, rfl⟩
  rw [hC] at hmk ⊢
  obtain ⟨m1, hm1⟩ : ∃ m, xs.length = m := ⟨_, rfl⟩
  obtain ⟨m2, hm2⟩ : ∃ m, ys.length = m := ⟨_, rfl⟩
  rw [hm1, hm2] at hmk
  rw [hm1, hm2]
  have HB0 : Hid (Below w.heap.size w (w.alloc (.cells #[.int .i64 0, .string ByteArray.empty, .slice none 0 0] 26))) := hb0
  have HSZ : Hid ((w.alloc (.cells #[.int .i64 0, .string ByteArray.empty, .slice none 0 0] 26)).heap.size = w.heap.size + 1) := by show _ = _; simp
  have HBK : Hid ((w.alloc (.cells #[.int .i64 0, .string ByteArray.empty, .slice none 0 0] 26)).heap[w.heap.size]? = some (.cells #[.int .i64 0, .string ByteArray.empty, .slice none 0 0] 26 (0, 0))) := heap_alloc_new w _
  clear ha hb hf hn hp hb0 hC hm1 hm2
  go_enter Tryd.func48, Tryd.ntmps48
  go_wp2_with (go_at_call 70; refine hmk.mono ?_)
  rintro e w1 ⟨vh, rfl, hb1, ho1⟩
  rw [HSZ.out] at ho1
  have hbk1 := blk_below hb1 (by rw [HSZ.out]; omega) HBK.out
  have HB1 : Hid (Below w.heap.size w w1) := HB0.out.trans (hb1.mono HB0.out.size)
  have HO1 : Hid (HOwn w1 (w.heap.size + 1) vh C) := ho1
  have HBK1 : Hid (w1.heap[w.heap.size]? = some (.cells #[.int .i64 0, .string ByteArray.empty, .slice none 0 0] 26 (0, 0))) := hbk1
  have HS1 : Hid (w.heap.size < w1.heap.size) := by show w.heap.size < w1.heap.size; have := hb1.size; rw [HSZ.out] at this; omega
  obtain ⟨av, cv, hv, _⟩ := ho1.room
  subst hv
  obtain ⟨nC, hnC⟩ : ∃ n, C.length = n := ⟨_, rfl⟩
  rw [hnC] at HO1
  rw [hnC]
  clear hmk ho1 hb1 hbk1 HB0 hnC
  go_wp2_with (go_at_call 31; refine (hcl _).mono ?_; rintro e w2 ⟨rfl, hb2⟩; have hbk2 := blk_below hb2 HS1.out HBK1.out; have z0 := Lib.cell_of_heap hbk2 0; have z1 := Lib.cell_of_heap hbk2 1; have z2 := Lib.cell_of_heap hbk2 2; have f0 := Lib.frozen_of_heap hbk2 0; have f1 := Lib.frozen_of_heap hbk2 1; have f2 := Lib.frozen_of_heap hbk2 2; simp at z0 z1 z2)
  have ho2 := HO1.out.below hb2
  have g1 := gr_set w2 w.heap.size 0 (.int .i64 wh)
  have ho3 := ho2.gr g1 (fun r hr => by have := Option.some.inj hr; omega)
  have g2 := gr_set (w2.setCell ⟨w.heap.size, 0, none⟩ (.int .i64 wh)) w.heap.size 1 (.string p)
  have ho4 := ho3.gr g2 (fun r hr => by have := Option.some.inj hr; omega)
  have g3 := gr_set ((w2.setCell ⟨w.heap.size, 0, none⟩ (.int .i64 wh)).setCell ⟨w.heap.size, 1, none⟩ (.string p)) w.heap.size 2 (.slice av nC cv)
  have ho5 := ho4.gr g3 (fun r hr => by have := Option.some.inj hr; omega)
  have hb3 := (((HB1.out.trans (hb2.mono HB1.out.size)).setCell (p := ⟨w.heap.size, 0, none⟩) (Nat.le_refl _) (.int .i64 wh)).setCell (p := ⟨w.heap.size, 1, none⟩) (Nat.le_refl _) (.string p)).setCell (p := ⟨w.heap.size, 2, none⟩) (Nat.le_refl _) (.slice av nC cv)
  have hblk3 := blk_set (i := 2) (blk_set (i := 1) (blk_set (i := 0) hbk2 (.int .i64 wh)) (.string p)) (.slice av nC cv)
  have q0 := Lib.cell_of_heap hblk3 0
  have q1 := Lib.cell_of_heap hblk3 1
  have q2 := Lib.cell_of_heap hblk3 2
  simp at q0 q1 q2
  have HO5 := ho5.mono (B' := w.heap.size) (by omega)
  go_wp2
  exact bodyPost_ret (v := .agg #[.int .i64 wh, .string p, .slice av nC cv]) (by simp [results, Tryd.results48, go_sem, q0, q1, q2]) rfl ⟨_, rfl, hb3, HO5⟩

/-- One of two slices. -/
theorem pick_first (x y : Value) (w : World) : (Instr.index 116 (.agg #[x, y]) (.int .i64 0)).run Tryd.prog w = .ok x w := by kernel_rfl
theorem pick_second (x y : Value) (w : World) : (Instr.index 116 (.agg #[x, y]) (.int .i64 1)).run Tryd.prog w = .ok y w := by kernel_rfl

/-- What keeps two trees from being compared, three numbers. -/
def dfs (a b : List Fl) (n : Int) : List Int := [(tf a).2, (tf b).2, if n < 0 ∨ 1000 < n then 1 else 0]

set_option maxRecDepth 100000 in
set_option maxHeartbeats 2000000 in
theorem checkDiffOf (aa ab : Option Addr) (l m : List Fl) (ca cb : Nat) (n : Int) (w : World) (ha : Fls w aa l) (hb : Fls w ab m) (h1 : l.length ≤ maxLen) (h2 : ∀ x ∈ l, x.2.length ≤ maxLen) (h3 : m.length ≤ maxLen) (h4 : ∀ x ∈ m, x.2.length ≤ maxLen) :
    Calls Tryd.prog 46 #[.slice aa l.length ca, .slice ab m.length cb, .int .i64 n] w fun e w' => Below w.heap.size w w' ∧ (nz (dfs l m n) = [] → e = .returned .nilIface) ∧ (nz (dfs l m n) ≠ [] → ∃ J v B, e = .returned (.iface 147 (.pointer (some ⟨J, 0, none⟩))) ∧ w'.cell? ⟨J, 0, none⟩ = some v ∧ w'.ownsRow B 28 1 v (nz (dfs l m n)).length ((nz (dfs l m n)).map errV)) := by
  have HC1 : Hid (∀ w', Below w.heap.size w w' → Calls Tryd.prog 22 #[.slice aa l.length ca] w' fun e w'' => e = .returned (.tuple #[.int .i64 (tf l).1, errV (tf l).2]) ∧ Below w'.heap.size w' w'') := fun w' h => treeCheck aa l ca w' (ha.below h) h1 h2
  have HC2 : Hid (∀ w', Below w.heap.size w w' → Calls Tryd.prog 22 #[.slice ab m.length cb] w' fun e w'' => e = .returned (.tuple #[.int .i64 (tf m).1, errV (tf m).2]) ∧ Below w'.heap.size w' w'') := fun w' h => treeCheck ab m cb w' (hb.below h) h3 h4
  have HDF : Hid (dfs l m n = [(tf l).2, (tf m).2, if n < 0 ∨ 1000 < n then 1 else 0]) := rfl
  obtain ⟨fl, hfl⟩ : ∃ f, (tf l).2 = f := ⟨_, rfl⟩
  obtain ⟨fm, hfm⟩ : ∃ f, (tf m).2 = f := ⟨_, rfl⟩
  obtain ⟨kl, hkl⟩ : ∃ f, (tf l).1 = f := ⟨_, rfl⟩
  obtain ⟨km, hkm⟩ : ∃ f, (tf m).1 = f := ⟨_, rfl⟩
  obtain ⟨nl, hnl⟩ : ∃ f, l.length = f := ⟨_, rfl⟩
  obtain ⟨nm, hnm⟩ : ∃ f, m.length = f := ⟨_, rfl⟩
  obtain ⟨D, hD⟩ : ∃ D, dfs l m n = D := ⟨_, rfl⟩
  rw [hfl, hkl, hnl] at HC1
  rw [hfm, hkm, hnm] at HC2
  rw [hfl, hfm, hD] at HDF
  rw [hD, hnl, hnm]
  have hbk := heap_alloc_new w (.cells #[.nilIface, .nilIface, .nilIface] 115)
  have hb0 := below_alloc w (.cells #[.nilIface, .nilIface, .nilIface] 115)
  obtain ⟨B, hB⟩ : ∃ B, w.heap.size = B := ⟨_, rfl⟩
  rw [hB] at hbk hb0
  have HB0 : Hid (Below B w (w.alloc (.cells #[.nilIface, .nilIface, .nilIface] 115))) := hb0
  have HBK : Hid ((w.alloc (.cells #[.nilIface, .nilIface, .nilIface] 115)).heap[B]? = some (.cells #[.nilIface, .nilIface, .nilIface] 115 (0, 0))) := hbk
  have HB : Hid (w.heap.size = B) := hB
  clear ha hb h1 h2 h3 h4 hfl hfm hkl hkm hnl hnm hD hbk hb0
  go_enter Tryd.func46, Tryd.ntmps46
  go_wp2
  clear hB
  go_loopw [13] (fun i w1 => ∃ k : Nat, k ≤ 2 ∧ i = .int .i64 k ∧ Below B w w1 ∧ w1.heap[B]? = some (.cells #[if 0 < k then errV fl else .nilIface, if 1 < k then errV fm else .nilIface, .nilIface] 115 (0, 0))) (fun i _ => 2 - (intOf i).toNat)
  case atStart => exact ⟨0, by omega, rfl, HB0.out, HBK.out⟩
  case round =>
    obtain ⟨k, hk, rfl, hbl, hbk⟩ := hrel
    rcases (show k = 0 ∨ k = 1 ∨ k = 2 by omega) with rfl | rfl | rfl
    · replace hbk : wr.heap[B]? = some (.cells #[.nilIface, .nilIface, .nilIface] 115 (0, 0)) := hbk
      have hck := HC1.out wr (by rw [HB.out]; exact hbl)
      have hlt : B < wr.heap.size := by
        by_cases e : B < wr.heap.size
        · exact e
        · rw [Array.getElem?_eq_none (by omega)] at hbk; cases hbk
      have HBL : Hid (Below B w wr) := hbl
      have HBK1 : Hid (wr.heap[B]? = some (.cells #[.nilIface, .nilIface, .nilIface] 115 (0, 0))) := hbk
      have KK : Hid (∀ w2, Below wr.heap.size wr w2 → w2.heap[B]? = some (.cells #[.nilIface, .nilIface, .nilIface] 115 (0, 0))) := fun w2 h => blk_below h hlt hbk
      have hsz : B ≤ wr.heap.size := by omega
      have hp0 := fun x y w => pick_first x y w
      have hp1 := fun x y w => pick_second x y w
      clear hbl hbk hlt
      by_cases hz : fl = 0
      · rw [hz, errV_zero] at hck
        have HEV : Hid (errV fl = .nilIface) := by show errV fl = .nilIface; rw [hz, errV_zero]
        clear hz
        go_wp2_with (go_at_call 22; refine hck.mono ?_; rintro e w2 ⟨rfl, hb2⟩; have hbk2 := KK.out w2 hb2; have z0 : w2.cell? ⟨B, 0, none⟩ = some .nilIface := (by rw [Lib.cell_of_heap hbk2]; rfl); have f0 := Lib.frozen_of_heap hbk2 0)
        have hset := blk_set (i := 0) hbk2 (.nilIface)
        have HSET : Hid ((w2.setCell ⟨B, 0, none⟩ (.nilIface)).heap[B]? = some (.cells #[errV fl, .nilIface, .nilIface] 115 (0, 0))) := by
          show (w2.setCell ⟨B, 0, none⟩ (.nilIface)).heap[B]? = some (.cells #[errV fl, .nilIface, .nilIface] 115 (0, 0))
          rw [HEV.out]
          simpa using hset
        have HB3 : Hid (Below B w (w2.setCell ⟨B, 0, none⟩ (.nilIface))) := (HBL.out.trans (hb2.mono hsz)).setCell (p := ⟨B, 0, none⟩) (Nat.le_refl _) _
        clear hset hbk2 z0 f0 hck hb2
        go_wp2
        go_roundw
        case rel => exact ⟨1, by omega, by go_num, HB3.out, HSET.out⟩
        case measure => simp [intOf]
      · rw [errV_not hz] at hck
        have HEV : Hid (errV fl = .iface 45 (.int .i64 fl)) := errV_not hz
        clear hz
        go_wp2_with (go_at_call 22; refine hck.mono ?_; rintro e w2 ⟨rfl, hb2⟩; have hbk2 := KK.out w2 hb2; have z0 : w2.cell? ⟨B, 0, none⟩ = some .nilIface := (by rw [Lib.cell_of_heap hbk2]; rfl); have f0 := Lib.frozen_of_heap hbk2 0)
        have hset := blk_set (i := 0) hbk2 (.iface 45 (.int .i64 fl))
        have HSET : Hid ((w2.setCell ⟨B, 0, none⟩ (.iface 45 (.int .i64 fl))).heap[B]? = some (.cells #[errV fl, .nilIface, .nilIface] 115 (0, 0))) := by
          show (w2.setCell ⟨B, 0, none⟩ (.iface 45 (.int .i64 fl))).heap[B]? = some (.cells #[errV fl, .nilIface, .nilIface] 115 (0, 0))
          rw [HEV.out]
          simpa using hset
        have HB3 : Hid (Below B w (w2.setCell ⟨B, 0, none⟩ (.iface 45 (.int .i64 fl)))) := (HBL.out.trans (hb2.mono hsz)).setCell (p := ⟨B, 0, none⟩) (Nat.le_refl _) _
        clear hset hbk2 z0 f0 hck hb2
        go_wp2
        go_roundw
        case rel => exact ⟨1, by omega, by go_num, HB3.out, HSET.out⟩
        case measure => simp [intOf]
    · replace hbk : wr.heap[B]? = some (.cells #[errV fl, .nilIface, .nilIface] 115 (0, 0)) := hbk
      have hck := HC2.out wr (by rw [HB.out]; exact hbl)
      have hlt : B < wr.heap.size := by
        by_cases e : B < wr.heap.size
        · exact e
        · rw [Array.getElem?_eq_none (by omega)] at hbk; cases hbk
      have HBL : Hid (Below B w wr) := hbl
      have HBK1 : Hid (wr.heap[B]? = some (.cells #[errV fl, .nilIface, .nilIface] 115 (0, 0))) := hbk
      have KK : Hid (∀ w2, Below wr.heap.size wr w2 → w2.heap[B]? = some (.cells #[errV fl, .nilIface, .nilIface] 115 (0, 0))) := fun w2 h => blk_below h hlt hbk
      have hsz : B ≤ wr.heap.size := by omega
      have hp0 := fun x y w => pick_first x y w
      have hp1 := fun x y w => pick_second x y w
      clear hbl hbk hlt
      by_cases hz : fm = 0
      · rw [hz, errV_zero] at hck
        have HEV : Hid (errV fm = .nilIface) := by show errV fm = .nilIface; rw [hz, errV_zero]
        clear hz
        go_wp2_with (go_at_call 22; refine hck.mono ?_; rintro e w2 ⟨rfl, hb2⟩; have hbk2 := KK.out w2 hb2; have z0 : w2.cell? ⟨B, 1, none⟩ = some .nilIface := (by rw [Lib.cell_of_heap hbk2]; rfl); have f0 := Lib.frozen_of_heap hbk2 1)
        have hset := blk_set (i := 1) hbk2 (.nilIface)
        have HSET : Hid ((w2.setCell ⟨B, 1, none⟩ (.nilIface)).heap[B]? = some (.cells #[errV fl, errV fm, .nilIface] 115 (0, 0))) := by
          show (w2.setCell ⟨B, 1, none⟩ (.nilIface)).heap[B]? = some (.cells #[errV fl, errV fm, .nilIface] 115 (0, 0))
          rw [HEV.out]
          simpa using hset
        have HB3 : Hid (Below B w (w2.setCell ⟨B, 1, none⟩ (.nilIface))) := (HBL.out.trans (hb2.mono hsz)).setCell (p := ⟨B, 1, none⟩) (Nat.le_refl _) _
        clear hset hbk2 z0 f0 hck hb2
        go_wp2
        go_roundw
        case rel => exact ⟨2, by omega, by go_num, HB3.out, HSET.out⟩
        case measure => simp [intOf]
      · rw [errV_not hz] at hck
        have HEV : Hid (errV fm = .iface 45 (.int .i64 fm)) := errV_not hz
        clear hz
        go_wp2_with (go_at_call 22; refine hck.mono ?_; rintro e w2 ⟨rfl, hb2⟩; have hbk2 := KK.out w2 hb2; have z0 : w2.cell? ⟨B, 1, none⟩ = some .nilIface := (by rw [Lib.cell_of_heap hbk2]; rfl); have f0 := Lib.frozen_of_heap hbk2 1)
        have hset := blk_set (i := 1) hbk2 (.iface 45 (.int .i64 fm))
        have HSET : Hid ((w2.setCell ⟨B, 1, none⟩ (.iface 45 (.int .i64 fm))).heap[B]? = some (.cells #[errV fl, errV fm, .nilIface] 115 (0, 0))) := by
          show (w2.setCell ⟨B, 1, none⟩ (.iface 45 (.int .i64 fm))).heap[B]? = some (.cells #[errV fl, errV fm, .nilIface] 115 (0, 0))
          rw [HEV.out]
          simpa using hset
        have HB3 : Hid (Below B w (w2.setCell ⟨B, 1, none⟩ (.iface 45 (.int .i64 fm)))) := (HBL.out.trans (hb2.mono hsz)).setCell (p := ⟨B, 1, none⟩) (Nat.le_refl _) _
        clear hset hbk2 z0 f0 hck hb2
        go_wp2
        go_roundw
        case rel => exact ⟨2, by omega, by go_num, HB3.out, HSET.out⟩
        case measure => simp [intOf]
    · replace hbk : wr.heap[B]? = some (.cells #[errV fl, errV fm, .nilIface] 115 (0, 0)) := hbk
      have hlt : B < wr.heap.size := by
        by_cases e : B < wr.heap.size
        · exact e
        · rw [Array.getElem?_eq_none (by omega)] at hbk; cases hbk
      have hbw : Below w.heap.size w wr := by rw [HB.out]; exact hbl
      by_cases hn : n < 0 ∨ 1000 < n
      · have hdf : D = [fl, fm, 1] := by rw [HDF.out, if_pos hn]
        have z2 := Lib.cell_of_heap hbk 2
        have f2 := Lib.frozen_of_heap hbk 2
        simp at z2
        have hset := blk_set (i := 2) hbk (.iface 45 (.int .i64 1))
        replace hset : (wr.setCell ⟨B, 2, none⟩ (.iface 45 (.int .i64 1))).heap[B]? = some (.cells #[errV fl, errV fm, errV 1] 115 (0, 0)) := hset
        have hj := joinErr B 0 [fl, fm, 1] 3 (wr.setCell ⟨B, 2, none⟩ (.iface 45 (.int .i64 1))) (fun i hi => by
          rw [Lib.cell_of_heap hset]
          match i, hi with
          | 0, _ => rfl
          | 1, _ => rfl
          | 2, _ => rfl) (by simp)
        rw [← hdf] at hj
        rw [show D.length = 3 by rw [hdf]; rfl] at hj
        have HB3 : Hid (Below w.heap.size w (wr.setCell ⟨B, 2, none⟩ (.iface 45 (.int .i64 1)))) := hbw.setCell (p := ⟨B, 2, none⟩) (by rw [HB.out]; exact Nat.le_refl _) _
        have hne : nz D ≠ [] := by
          rw [hdf]
          intro e
          have : (1 : Int) ∈ nz [fl, fm, 1] := List.mem_filter.2 ⟨by simp, by decide⟩
          rw [e] at this
          cases this
        clear hset hbk hlt hdf hbl hbw
        have HNE : Hid (nz D ≠ []) := hne
        clear hne
        rcases hn with hn | hn
        all_goals
          go_wp2_with (go_at_call 69; refine hj.mono ?_; rintro e w5 ⟨hb5, g1, g2⟩; obtain ⟨J, v, rfl, q1, q2⟩ := g2 HNE.out)
          have hb5 := HB3.out.trans (hb5.mono HB3.out.size)
          have Q1 : Hid (w5.cell? ⟨J, 0, none⟩ = some v) := q1
          have Q2 : Hid (w5.ownsRow (wr.setCell ⟨B, 2, none⟩ (.iface 45 (.int .i64 1))).heap.size 28 1 v (nz D).length ((nz D).map errV)) := q2
          clear q1 q2 g1 g2 hj
          go_wp2
          go_ret
          exact ⟨hb5, fun h => absurd h HNE.out, fun _ => ⟨J, v, _, rfl, Q1.out, Q2.out⟩⟩
      · have hdf : D = [fl, fm, 0] := by rw [HDF.out, if_neg hn]
        have hj := joinErr B 0 [fl, fm, 0] 3 wr (fun i hi => by
          rw [Lib.cell_of_heap hbk]
          match i, hi with
          | 0, _ => rfl
          | 1, _ => rfl
          | 2, _ => rfl) (by simp)
        rw [← hdf] at hj
        rw [show D.length = 3 by rw [hdf]; rfl] at hj
        have hn1 : ¬ n < 0 := fun h => hn (.inl h)
        have hn2 : ¬ 1000 < n := fun h => hn (.inr h)
        have HB3 : Hid (Below w.heap.size w wr) := hbw
        by_cases hne : nz D = []
        · have HNE : Hid (nz D = []) := hne
          clear hbk hlt hdf hbl hbw hne hn
          go_wp2_with (go_at_call 69; refine hj.mono ?_; rintro e w5 ⟨hb5, g1, g2⟩; obtain rfl := g1 HNE.out)
          have hb5 := HB3.out.trans (hb5.mono HB3.out.size)
          clear g1 g2 hj
          go_wp2
          go_ret
          exact ⟨hb5, fun _ => rfl, fun h => absurd HNE.out h⟩
        · have HNE : Hid (nz D ≠ []) := hne
          clear hbk hlt hdf hbl hbw hne hn
          go_wp2_with (go_at_call 69; refine hj.mono ?_; rintro e w5 ⟨hb5, g1, g2⟩; obtain ⟨J, v, rfl, q1, q2⟩ := g2 HNE.out)
          have hb5 := HB3.out.trans (hb5.mono HB3.out.size)
          have Q1 : Hid (w5.cell? ⟨J, 0, none⟩ = some v) := q1
          have Q2 : Hid (w5.ownsRow wr.heap.size 28 1 v (nz D).length ((nz D).map errV)) := q2
          clear q1 q2 g1 g2 hj
          go_wp2
          go_ret
          exact ⟨hb5, fun h => absurd h HNE.out, fun _ => ⟨J, v, _, rfl, Q1.out, Q2.out⟩⟩

end Go.Proofs.YtnkdmgekpajfhaeDoor
