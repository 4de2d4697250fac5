/-
  Walks of errors.Join, patch.checkDiff, patch.isAhead and patch.change: errors that are joined; what keeps two trees from being compared; which tree's first file comes first; a change between two files. Walks of patch.checkDiff, patch.isAhead and patch.change: what keeps two trees from being compared; which tree's first file comes first; a change between two files.
-/
import Derived.Test.YtnkdmgekpajfhadGreatDoorXbc
import Derived.Test.YtnkdmgekpajfhadGreatDoorXd
import Derived.Test.YtnkdmgekpajfhadGreatDoorXl
import Derived.Deep.AppendLies
import Derived.Test.YtnkdmgekpajfhadGreatDoorXp
import Derived.Test.YtnkdmgekpajfhadGreatDoorXw

namespace Go.Proofs.YtnkdmgekpajfhadGreatDoor
open Go.RowKit Dist

/-- The faults among numbers. -/
def nz (fs : List Int) : List Int := fs.filter fun f => decide (f ≠ 0)

theorem nz_snoc (fs : List Int) (k : Nat) (hk : k < fs.length) : nz (fs.take (k + 1)) = if fs.getD k 0 = 0 then nz (fs.take k) else nz (fs.take k) ++ [fs.getD k 0] := by
  have e : fs.getD k 0 = fs[k] := by simp [hk]
  unfold nz
  rw [List.take_succ_eq_append_getElem hk, List.filter_append, e]
  by_cases h : fs[k] = 0
  · rw [if_pos h]; simp [h]
  · rw [if_neg h]; simp [h]

theorem Tryz.infoError : (Tryz.prog.info? 28).map (fun i => (i.zero, i.size, i.bytes)) = some (some .nilIface, 1, 16) := by kernel_rfl

theorem run_make_errs (m : Nat) (hm : m ≤ 1000) (w : World) :
    (Instr.makeSlice 168 (.int .i64 0) (.int .i64 (m : Int))).run Tryz.prog w = .ok (.slice (some ⟨w.heap.size, 0, none⟩) 0 m) (w.alloc (.cells (madeCells #[.nilIface] m) 28)) := by
  obtain ⟨i0, hi, hz0, hz1, hz2⟩ := info_parts Tryz.infoError
  have hr := run_make (P := Tryz.prog) w 168 28 i0 _ Tryz.underlying168 hi hz0 .i64 .i64 0 m (by omega) (by omega) (by rw [hz2]; omega) (by omega)
  rw [hz1, Int.toNat_natCast, Nat.mul_one] at hr
  exact hr

set_option maxRecDepth 100000 in
set_option maxHeartbeats 4000000 in
theorem joinErr (b off : Nat) (fs : List Int) (c : Nat) (w : World) (hc : ∀ i, i < fs.length → w.cell? ⟨b, off + i, none⟩ = some (errV (fs.getD i 0))) (hl : fs.length ≤ 100) :
    Calls Tryz.prog 100 #[.slice (some ⟨b, off, none⟩) fs.length c] w fun e w' => Below w.heap.size w w' ∧ (nz fs = [] → e = .returned .nilIface) ∧ (nz fs ≠ [] → ∃ J v, e = .returned (.iface 205 (.pointer (some ⟨J, 0, none⟩))) ∧ w'.cell? ⟨J, 0, none⟩ = some v ∧ w'.ownsRow w.heap.size 28 1 v (nz fs).length ((nz fs).map errV)) := by
  obtain ⟨i0, hi0, hz0, hz1, hz2⟩ := info_parts Tryz.infoError
  obtain ⟨n, hn⟩ : ∃ n, fs.length = n := ⟨_, rfl⟩
  have HN : Hid (fs.length = n) := hn
  rw [hn] at hl ⊢
  have HC : Hid (∀ i, i < n → w.cell? ⟨b, off + i, none⟩ = some (errV (fs.getD i 0))) := fun i hi => hc i (by omega)
  have HSN : Hid (∀ k, k < n → nz (fs.take (k + 1)) = if fs.getD k 0 = 0 then nz (fs.take k) else nz (fs.take k) ++ [fs.getD k 0]) := fun k hk => nz_snoc fs k (by omega)
  have HTK : Hid (fs.take n = fs) := List.take_of_length_le (by omega)
  have HNL : Hid (∀ k, (nz (fs.take k)).length ≤ n) := fun k => by
    have h1 : (nz (fs.take k)).length ≤ (fs.take k).length := List.length_filter_le _ _
    rw [List.length_take] at h1
    omega
  clear hc hn
  go_enter Tryz.func100, Tryz.ntmps100
  go_wp2
  go_loop [3, 5, 11] (fun v3 _ i => ∃ k : Nat, k ≤ n ∧ i = .int .i64 k ∧ v3 = .int .i64 (nz (fs.take k)).length) (fun _ _ i => n - (intOf i).toNat)
  case atStart => exact ⟨0, Nat.zero_le _, rfl, rfl⟩
  case round =>
    obtain ⟨k, hk, rfl, rfl⟩ := hrel
    by_cases hlt : k < n
    · have hx := HC.out k hlt
      have hs := HSN.out k hlt
      have hnl := HNL.out k
      obtain ⟨f, hf⟩ : ∃ f, fs.getD k 0 = f := ⟨_, rfl⟩
      obtain ⟨m, hm⟩ : ∃ m, (nz (fs.take k)).length = m := ⟨_, rfl⟩
      rw [hf] at hx hs
      rw [hm] at hnl ⊢
      by_cases h0 : f = 0
      · rw [if_pos h0] at hs
        rw [h0, errV_zero] at hx
        have HS : Hid ((nz (fs.take (k + 1))).length = m) := by show _ = m; rw [hs]; exact hm
        clear hs hf hm h0
        go_wp2
        go_round
        case rel => exact ⟨k + 1, by omega, by go_num, by rw [HS.out]⟩
        case measure => simp [intOf]; omega
      · rw [if_neg h0] at hs
        rw [errV_not h0] at hx
        have HS : Hid ((nz (fs.take (k + 1))).length = m + 1) := by show _ = m + 1; rw [hs, List.length_append, hm]; rfl
        clear hs hf hm h0
        go_wp2
        go_round
        case rel => exact ⟨k + 1, by omega, by go_num, by rw [HS.out]; go_num⟩
        case measure => simp [intOf]; omega
    · obtain rfl : k = n := by omega
      rw [HTK.out]
      have hnl := HNL.out k
      rw [HTK.out] at hnl
      obtain ⟨m, hm⟩ : ∃ m, (nz fs).length = m := ⟨_, rfl⟩
      have HM : Hid ((nz fs).length = m) := hm
      rw [hm] at hnl ⊢
      clear hm
      by_cases h0 : m = 0
      · have HE : Hid (nz fs = []) := List.length_eq_zero_iff.1 (by have := HM.out; omega)
        subst h0
        go_wp2
        go_ret
        exact ⟨Below.refl _ _, fun _ => rfl, fun h => absurd HE.out h⟩
      · have HNE : Hid (nz fs ≠ []) := fun e => h0 (by rw [← HM.out, e]; rfl)
        have hmk := fun w => run_make_errs m (by omega) w
        have hm0 : ¬ ((m : Int) = 0) := by omega
        obtain ⟨B, hB⟩ : ∃ B, w.heap.size = B := ⟨_, rfl⟩
        have hb1 := (below_alloc w (.cells (madeCells #[.nilIface] m) 28))
        have hb2 := hb1.alloc (by simp) (.cells #[.slice (some ⟨w.heap.size, 0, none⟩) 0 m] 207)
        have how : ((w.alloc (.cells (madeCells #[.nilIface] m) 28)).alloc (.cells #[.slice (some ⟨w.heap.size, 0, none⟩) 0 m] 207)).ownsRow B 28 1 (.slice (some ⟨w.heap.size, 0, none⟩) 0 m) 0 [] := (World.ownsRow_made w _ m (by rw [hB]; exact Nat.le_refl _) (by unfold maxLen; omega) (by rw [size_madeCells, Nat.mul_one])).alloc _
        have hblk := heap_alloc_new (w.alloc (.cells (madeCells #[.nilIface] m) 28)) (.cells #[.slice (some ⟨w.heap.size, 0, none⟩) 0 m] 207)
        rw [show (w.alloc (.cells (madeCells #[.nilIface] m) 28)).heap.size = B + 1 by simp [hB]] at hblk
        rw [hB] at hb2 how hblk
        have HB2 : Hid (Below B w ((w.alloc (.cells (madeCells #[.nilIface] m) 28)).alloc (.cells #[.slice (some ⟨B, 0, none⟩) 0 m] 207))) := hb2
        have HOW : Hid (((w.alloc (.cells (madeCells #[.nilIface] m) 28)).alloc (.cells #[.slice (some ⟨B, 0, none⟩) 0 m] 207)).ownsRow B 28 1 (.slice (some ⟨B, 0, none⟩) 0 m) 0 []) := how
        have HBK : Hid (((w.alloc (.cells (madeCells #[.nilIface] m) 28)).alloc (.cells #[.slice (some ⟨B, 0, none⟩) 0 m] 207)).heap[B + 1]? = some (.cells #[.slice (some ⟨B, 0, none⟩) 0 m] 207 (0, 0))) := hblk
        have HSZ : Hid (w.heap.size = B) := hB
        clear hb1 hb2 how hblk h0
        go_wp2
        clear hmk hB
        go_loopw [8, 28] (fun _ i w1 => ∃ (j : Nat) (v : Value), j ≤ k ∧ i = .int .i64 j ∧ Below B w w1 ∧ w1.heap[B + 1]? = some (.cells #[v] 207 (0, 0)) ∧ v.ownBlock ≠ some (B + 1) ∧ w1.ownsRow B 28 1 v (nz (fs.take j)).length ((nz (fs.take j)).map errV)) (fun _ i _ => k - (intOf i).toNat)
        case atStart => exact ⟨0, _, Nat.zero_le _, rfl, HB2.out, HBK.out, by simp [Value.ownBlock], HOW.out⟩
        case round =>
          obtain ⟨j, v, hj, rfl, hbl, hbk, hvb, hown⟩ := hrel
          have hbw : Below w.heap.size w wr := by rw [HSZ.out]; exact hbl
          by_cases hjk : j < k
          · have hx := cell_later hbw (HC.out j hjk)
            have hs := HSN.out j hjk
            have hnl := HNL.out j
            obtain ⟨f, hf⟩ : ∃ f, fs.getD j 0 = f := ⟨_, rfl⟩
            rw [hf] at hx hs
            by_cases h0 : f = 0
            · rw [if_pos h0] at hs
              rw [h0, errV_zero] at hx
              have HOW3 : Hid (wr.ownsRow B 28 1 v (nz (fs.take (j + 1))).length ((nz (fs.take (j + 1))).map errV)) := by rw [hs]; exact hown
              have HBK3 : Hid (wr.heap[B + 1]? = some (.cells #[v] 207 (0, 0))) := hbk
              clear hs hf h0 hown hbk
              go_wp2
              go_roundw
              case rel => exact ⟨j + 1, v, by omega, by go_num, hbl, HBK3.out, hvb, HOW3.out⟩
              case measure => simp [intOf]; omega
            · rw [if_neg h0] at hs
              rw [errV_not h0] at hx
              have HFS : Hid (nz (fs.take (j + 1)) = nz (fs.take j) ++ [f]) := hs
              have HFE : Hid (errV f = .iface 23 (.int .i64 f)) := errV_not h0
              have y0 := Lib.cell_of_heap hbk 0
              simp at y0
              have hJl : B + 1 < wr.heap.size := by
                by_cases e : B + 1 < wr.heap.size
                · exact e
                · rw [Array.getElem?_eq_none (by omega)] at hbk; cases hbk
              have hown2 := hown.alloc (.cells #[.iface 23 (.int .i64 f)] 28)
              have hbk2 := blk_below (below_alloc wr (.cells #[.iface 23 (.int .i64 f)] 28)) hJl hbk
              have hb2 := hbl.alloc (by omega) (.cells #[.iface 23 (.int .i64 f)] 28)
              have hnew : ∀ i u, ([.iface 23 (.int .i64 f)] : List Value)[i]? = some u → (wr.alloc (.cells #[.iface 23 (.int .i64 f)] 28)).cell? ((⟨wr.heap.size, 0, none⟩ : Addr).add i) = some u := by
                intro i u hu
                have hh := heap_alloc_new wr (.cells #[.iface 23 (.int .i64 f)] 28)
                match i, hu with
                | 0, hu =>
                  simp at hu
                  subst hu
                  exact Lib.cell_of_heap hh 0
              have HB2 : Hid (Below B w (wr.alloc (.cells #[.iface 23 (.int .i64 f)] 28))) := hb2
              have HBK3 : Hid ((wr.alloc (.cells #[.iface 23 (.int .i64 f)] 28)).heap[B + 1]? = some (.cells #[v] 207 (0, 0))) := hbk2
              have HVB : Hid (v.ownBlock ≠ some (B + 1)) := hvb
              have HNEW := hnew
              have HLB : Hid (∀ y, v.ownBlock = some y → B ≤ y) := fun y hy => (hown2.lt y hy).1
              have KK : Hid (∀ w5, (wr.alloc (.cells #[.iface 23 (.int .i64 f)] 28)).grownBy w5 v.ownBlock → w5.heap[B + 1]? = some (.cells #[v] 207 (0, 0)) ∧ w5.cell? ⟨B + 1, 0, none⟩ = some v ∧ w5.frozen? ⟨B + 1, 0, none⟩ = false) := fun w5 hg => by
                have h := hg.block (B + 1) (by simp; omega) (fun e => hvb e.symm)
                rw [hbk2] at h
                exact ⟨h, by rw [Lib.cell_of_heap h]; rfl, Lib.frozen_of_heap h 0⟩
              have hBw : B ≤ wr.heap.size := by omega
              have HF1 := Lib.frozen_of_heap hbk2 0
              clear hs hf h0 hown hbk hb2 hbk2 hvb hnew hbl hbw
              go_wp2_with ((at_builtin; refine wpList_append_lies _ rfl _ _ 168 rfl B 28 i0 .nilIface 1 16 Tryz.underlying168 hi0 hz0 hz1 hz2 rfl (by decide) _ _ _ rfl hown2 ⟨wr.heap.size, 0, none⟩ 1 1 [.iface 23 (.int .i64 f)] rfl rfl HNEW (fun x hx => by simp at hx; rw [hx]; rfl) (by decide) (by unfold maxLen; omega) (by omega) (by simp; omega) (wr.heap.size + 1) (by simp) ?_; intro g5 c5 w5 hown' hgrow5 hblk5 hlt5; obtain ⟨hbk5, y5, f5⟩ := KK.out w5 hgrow5; clear y0 HF1 hx))
              have hset := blk_set (i := 0) hbk5 (.slice (some ⟨g5, 0, none⟩) ((nz (fs.take j)).length + 1) c5)
              have hb5 : Below B w w5 := HB2.out.grown hgrow5 (by simp; omega) (fun y hy => HLB.out y hy)
              have hv5 : (Value.slice (some ⟨g5, 0, none⟩) ((nz (fs.take j)).length + 1) c5).ownBlock ≠ some (B + 1) := by
                intro e
                obtain rfl : g5 = B + 1 := by simpa [Value.ownBlock] using e
                rcases hblk5 with h | h
                · exact HVB.out h
                · omega
              have hown6 := own_ne (i := 0) hown' hv5 (.slice (some ⟨g5, 0, none⟩) ((nz (fs.take j)).length + 1) c5)
              have HOW6 : Hid ((w5.setCell ⟨B + 1, 0, none⟩ (.slice (some ⟨g5, 0, none⟩) ((nz (fs.take j)).length + 1) c5)).ownsRow B 28 1 (.slice (some ⟨g5, 0, none⟩) ((nz (fs.take j)).length + 1) c5) (nz (fs.take (j + 1))).length ((nz (fs.take (j + 1))).map errV)) := by
                show (w5.setCell ⟨B + 1, 0, none⟩ (.slice (some ⟨g5, 0, none⟩) ((nz (fs.take j)).length + 1) c5)).ownsRow B 28 1 (.slice (some ⟨g5, 0, none⟩) ((nz (fs.take j)).length + 1) c5) (nz (fs.take (j + 1))).length ((nz (fs.take (j + 1))).map errV)
                rw [HFS.out, List.length_append, List.map_append, List.map_singleton, HFE.out]
                exact hown6
              have HSET : Hid ((w5.setCell ⟨B + 1, 0, none⟩ (.slice (some ⟨g5, 0, none⟩) ((nz (fs.take j)).length + 1) c5)).heap[B + 1]? = some (.cells #[(.slice (some ⟨g5, 0, none⟩) ((nz (fs.take j)).length + 1) c5)] 207 (0, 0))) := by
                show (w5.setCell ⟨B + 1, 0, none⟩ (.slice (some ⟨g5, 0, none⟩) ((nz (fs.take j)).length + 1) c5)).heap[B + 1]? = some (.cells #[(.slice (some ⟨g5, 0, none⟩) ((nz (fs.take j)).length + 1) c5)] 207 (0, 0))
                simpa using hset
              have HB6 : Hid (Below B w (w5.setCell ⟨B + 1, 0, none⟩ (.slice (some ⟨g5, 0, none⟩) ((nz (fs.take j)).length + 1) c5))) := hb5.setCell (by simp) _
              have HVB5 : Hid ((Value.slice (some ⟨g5, 0, none⟩) ((nz (fs.take j)).length + 1) c5).ownBlock ≠ some (B + 1)) := hv5
              clear hset hb5 hv5 hown6 hown' hgrow5 hblk5 hbk5 hown2 HNEW
              go_wp2
              go_roundw
              case rel => exact ⟨j + 1, _, by omega, by go_num, HB6.out, HSET.out, HVB5.out, HOW6.out⟩
              case measure => simp [intOf]; omega
          · obtain rfl : j = k := by omega
            rw [HTK.out] at hown
            have y0 := Lib.cell_of_heap hbk 0
            simp at y0
            have HOW9 : Hid (wr.ownsRow B 28 1 v (nz fs).length ((nz fs).map errV)) := hown
            have HY : Hid (wr.cell? ⟨B + 1, 0, none⟩ = some v) := y0
            clear hown hbk y0 hvb
            go_wp2
            go_ret
            rw [HSZ.out]
            exact ⟨hbl, fun h => absurd h HNE.out, fun _ => ⟨B + 1, v, rfl, HY.out, HOW9.out⟩⟩

end Go.Proofs.YtnkdmgekpajfhadGreatDoor

namespace Go.Proofs.YtnkdmgekpajfhadGreatDoor
open Go.RowKit Dist

/-- The first file of the one tree is not in the other. -/
def iaB : List Fl → List Fl → Bool
  | _, [] => true
  | [], _ :: _ => false
  | x :: _, y :: _ => bl x.1 y.1

set_option maxHeartbeats 1000000 in
theorem isAheadOf (a b : Option Addr) (l m : List Fl) (ca cb : Nat) (w : World) (ha : Fls w a l) (hb : Fls w b m) :
    Calls Tryz.prog 67 #[.slice a l.length ca, .slice b m.length cb] w fun e w' => e = .returned (.bool (iaB l m)) ∧ Below w.heap.size w w' := by
  cases m with
  | nil =>
    obtain ⟨n, hn⟩ : ∃ n, l.length = n := ⟨_, rfl⟩
    rw [hn, List.length_nil]
    have hd0 : (((0 : Nat) : Int) == 0) = true := by simp
    clear ha hb hn
    go_enter Tryz.func67, Tryz.ntmps67
    go_wp2
    go_quiet (fail)
    go_wp2
    go_ret
    refine ⟨?_, below_drawn (Below.refl _ _)⟩
    cases l <;> rfl
  | cons y m =>
    obtain ⟨b2, o2, rfl⟩ := hb.addr (i := 0) (by simp)
    obtain ⟨_, _, y1, _⟩ := hb.at (i := 0) (by simp)
    rw [Nat.zero_mul, Nat.add_zero] at y1
    replace y1 : w.cell? ⟨b2, o2, none⟩ = some (.string y.1) := y1
    obtain ⟨k, hk⟩ : ∃ k, (y :: m).length = k := ⟨_, rfl⟩
    have hkp : 0 < k := by rw [← hk]; simp
    rw [hk]
    have hm0 : ((k : Int) == 0) = false := by simp; omega
    have hm1 : ¬ ((k : Int) = 0) := by omega
    have hm2 : ¬ (k = 0) := by omega
    cases l with
    | nil =>
      rw [List.length_nil]
      have hd0 : decide ((0 : Int) < ((0 : Nat) : Int)) = false := by simp
      clear ha hb hk
      go_enter Tryz.func67, Tryz.ntmps67
      go_wp2
      go_quiet (fail)
      go_wp2
      go_ret
      exact ⟨rfl, below_drawn (Below.refl _ _)⟩
    | cons x l =>
      obtain ⟨b1, o1, rfl⟩ := ha.addr (i := 0) (by simp)
      obtain ⟨_, _, x1, _⟩ := ha.at (i := 0) (by simp)
      rw [Nat.zero_mul, Nat.add_zero] at x1
      replace x1 : w.cell? ⟨b1, o1, none⟩ = some (.string x.1) := x1
      obtain ⟨j, hj⟩ : ∃ j, (x :: l).length = j := ⟨_, rfl⟩
      have hjp : 0 < j := by rw [← hj]; simp
      rw [hj]
      have hd0 : decide (0 < j) = true := decide_eq_true hjp
      have hd1 : decide ((0 : Int) < (j : Int)) = true := decide_eq_true (by omega)
      have HI : Hid (∀ r, Op.bytesLess x.1.toList y.1.toList = r → iaB (x :: l) (y :: m) = r) := fun r h => h
      obtain ⟨r, hr⟩ : ∃ r, Op.bytesLess x.1.toList y.1.toList = r := ⟨_, rfl⟩
      rw [HI.out r hr]
      clear ha hb hk hj HI
      go_enter Tryz.func67, Tryz.ntmps67
      go_wp2
      go_quiet (fail)
      go_wp2
      go_ret
      exact ⟨rfl, below_drawn (Below.refl _ _)⟩

set_option maxHeartbeats 400000 in
theorem makeOwn (a b : Option Addr) (xs ys : List ByteArray) (ca cb n : Nat) (w : World) (ha : Strs w a xs) (hb : Strs w b ys) (hf : ff xs ys = 0) (hn : n ≤ 1000) :
    Calls Tryz.prog 101 #[.slice a xs.length ca, .slice b ys.length cb, .int .i64 n] w fun e w' => ∃ v, e = .returned (.tuple #[v, .nilIface]) ∧ Below w.heap.size w w' ∧ HOwn w' w.heap.size v (cut (scr xs ys) n) := by
  have hsc := script_cap a b xs ys ca cb w ha hb hf
  have hcf : cf (scr xs ys) n = 0 := by
    rw [scr_cf hf]
    unfold mkf
    rw [if_neg (fun e => e hf), if_neg (by omega)]
  obtain ⟨ks, hks⟩ : ∃ ks, scr xs ys = ks := ⟨_, rfl⟩
  rw [hks] at hsc hcf ⊢
  obtain ⟨m1, hm1⟩ : ∃ m, xs.length = m := ⟨_, rfl⟩
  obtain ⟨m2, hm2⟩ : ∃ m, ys.length = m := ⟨_, rfl⟩
  obtain ⟨m3, hm3⟩ : ∃ m, ks.length = m := ⟨_, rfl⟩
  rw [hm1, hm2, hm3] at hsc
  rw [hm1, hm2]
  have HCU := fun a' cap w (h : Mks w a' ks) (hc : m3 ≤ cap) => cut_ok a' ks cap n w h (by rw [hm3]; exact hc) hcf
  rw [hm3] at HCU
  obtain ⟨C, hC⟩ : ∃ C, cut ks n = C := ⟨_, rfl⟩
  rw [hC] at HCU ⊢
  clear ha hb hf hks hm1 hm2 hm3 hcf hC hn
  go_enter Tryz.func101, Tryz.ntmps101
  go_wp2_with (go_at_call 128; refine hsc.mono ?_)
  rintro e w1 ⟨a1, c1, rfl, hk1, hb1, hc1⟩
  clear hsc
  go_wp2_with (go_at_call 129; refine (HCU a1 c1 w1 hk1 hc1).mono ?_)
  rintro e w2 ⟨v, rfl, hb2, ho⟩
  have HO : Hid (HOwn w2 w.heap.size v C) := ho.mono hb1.size
  have hb2 := hb1.trans (hb2.mono hb1.size)
  clear HCU ho
  go_wp2
  go_ret2
  exact ⟨v, rfl, hb2, HO.out⟩

theorem gr_set (w : World) (g i : Nat) (v : Value) : Gr w (w.setCell ⟨g, i, none⟩ v) (some g) := by
  refine ⟨by simp, fun k hk hne => ?_⟩
  simp only [World.setCell, Array.getElem?_modify]
  rw [if_neg (fun e => hne (by rw [e]))]

set_option maxHeartbeats 1000000 in
theorem changeOf (wh : Int) (p : ByteArray) (a b : Option Addr) (xs ys : List ByteArray) (ca cb n : Nat) (w : World) (ha : Strs w a xs) (hb : Strs w b ys) (hf : ff xs ys = 0) (hn : n ≤ 1000) (hp : p.size ≤ 20) :
    Calls Tryz.prog 68 #[.int .i64 wh, .string p, .slice a xs.length ca, .slice b ys.length cb, .int .i64 n] w fun e w' => ∃ vh, e = .returned (.agg #[.int .i64 wh, .string p, vh]) ∧ Below w.heap.size w w' ∧ HOwn w' w.heap.size vh (cut (scr xs ys) n) := by
  have hb0 := below_alloc w (.cells #[.int .i64 0, .string ByteArray.empty, .slice none 0 0] 40)
  have hmk := makeOwn a b xs ys ca cb n _ (ha.below hb0) (hb.below hb0) hf hn
  have hcl := fun w => clone p w (by omega)
  obtain ⟨C, hC⟩ : ∃ C, cut (scr xs ys) n = C := ⟨_, rfl⟩
  rw [hC] at hmk ⊢
  obtain ⟨m1, hm1⟩ : ∃ m, xs.length = m := ⟨_, rfl⟩
  obtain ⟨m2, hm2⟩ : ∃ m, ys.length = m := ⟨_, rfl⟩
  rw [hm1, hm2] at hmk
  rw [hm1, hm2]
  have HB0 : Hid (Below w.heap.size w (w.alloc (.cells #[.int .i64 0, .string ByteArray.empty, .slice none 0 0] 40))) := hb0
  have HSZ : Hid ((w.alloc (.cells #[.int .i64 0, .string ByteArray.empty, .slice none 0 0] 40)).heap.size = w.heap.size + 1) := by show _ = _; simp
  have HBK : Hid ((w.alloc (.cells #[.int .i64 0, .string ByteArray.empty, .slice none 0 0] 40)).heap[w.heap.size]? = some (.cells #[.int .i64 0, .string ByteArray.empty, .slice none 0 0] 40 (0, 0))) := heap_alloc_new w _
  clear ha hb hf hn hp hb0 hC hm1 hm2
  go_enter Tryz.func68, Tryz.ntmps68
  go_wp2_with (go_at_call 101; refine hmk.mono ?_)
  rintro e w1 ⟨vh, rfl, hb1, ho1⟩
  rw [HSZ.out] at ho1
  have hbk1 := blk_below hb1 (by rw [HSZ.out]; omega) HBK.out
  have HB1 : Hid (Below w.heap.size w w1) := HB0.out.trans (hb1.mono HB0.out.size)
  have HO1 : Hid (HOwn w1 (w.heap.size + 1) vh C) := ho1
  have HBK1 : Hid (w1.heap[w.heap.size]? = some (.cells #[.int .i64 0, .string ByteArray.empty, .slice none 0 0] 40 (0, 0))) := hbk1
  have HS1 : Hid (w.heap.size < w1.heap.size) := by show w.heap.size < w1.heap.size; have := hb1.size; rw [HSZ.out] at this; omega
  obtain ⟨av, cv, hv, _⟩ := ho1.room
  subst hv
  obtain ⟨nC, hnC⟩ : ∃ n, C.length = n := ⟨_, rfl⟩
  rw [hnC] at HO1
  rw [hnC]
  clear hmk ho1 hb1 hbk1 HB0 hnC
  go_wp2_with (go_at_call 70; refine (hcl _).mono ?_; rintro e w2 ⟨rfl, hb2⟩; have hbk2 := blk_below hb2 HS1.out HBK1.out; have z0 := Lib.cell_of_heap hbk2 0; have z1 := Lib.cell_of_heap hbk2 1; have z2 := Lib.cell_of_heap hbk2 2; have f0 := Lib.frozen_of_heap hbk2 0; have f1 := Lib.frozen_of_heap hbk2 1; have f2 := Lib.frozen_of_heap hbk2 2; simp at z0 z1 z2)
  have ho2 := HO1.out.below hb2
  have g1 := gr_set w2 w.heap.size 0 (.int .i64 wh)
  have ho3 := ho2.gr g1 (fun r hr => by have := Option.some.inj hr; omega)
  have g2 := gr_set (w2.setCell ⟨w.heap.size, 0, none⟩ (.int .i64 wh)) w.heap.size 1 (.string p)
  have ho4 := ho3.gr g2 (fun r hr => by have := Option.some.inj hr; omega)
  have g3 := gr_set ((w2.setCell ⟨w.heap.size, 0, none⟩ (.int .i64 wh)).setCell ⟨w.heap.size, 1, none⟩ (.string p)) w.heap.size 2 (.slice av nC cv)
  have ho5 := ho4.gr g3 (fun r hr => by have := Option.some.inj hr; omega)
  have hb3 := (((HB1.out.trans (hb2.mono HB1.out.size)).setCell (p := ⟨w.heap.size, 0, none⟩) (Nat.le_refl _) (.int .i64 wh)).setCell (p := ⟨w.heap.size, 1, none⟩) (Nat.le_refl _) (.string p)).setCell (p := ⟨w.heap.size, 2, none⟩) (Nat.le_refl _) (.slice av nC cv)
  have hblk3 := blk_set (i := 2) (blk_set (i := 1) (blk_set (i := 0) hbk2 (.int .i64 wh)) (.string p)) (.slice av nC cv)
  have q0 := Lib.cell_of_heap hblk3 0
  have q1 := Lib.cell_of_heap hblk3 1
  have q2 := Lib.cell_of_heap hblk3 2
  simp at q0 q1 q2
  have HO5 := ho5.mono (B' := w.heap.size) (by omega)
  go_wp2
  exact bodyPost_ret (v := .agg #[.int .i64 wh, .string p, .slice av nC cv]) (by simp [results, Tryz.results68, go_sem, q0, q1, q2]) rfl ⟨_, rfl, hb3, HO5⟩

/-- One of two slices. -/
theorem pick_first (x y : Value) (w : World) : (Instr.index 166 (.agg #[x, y]) (.int .i64 0)).run Tryz.prog w = .ok x w := by kernel_rfl
theorem pick_second (x y : Value) (w : World) : (Instr.index 166 (.agg #[x, y]) (.int .i64 1)).run Tryz.prog w = .ok y w := by kernel_rfl

/-- What keeps two trees from being compared, three numbers. -/
def dfs (a b : List Fl) (n : Int) : List Int := [(tf a).2, (tf b).2, if n < 0 ∨ 1000 < n then 1 else 0]

set_option maxRecDepth 100000 in
set_option maxHeartbeats 2000000 in
theorem checkDiffOf (aa ab : Option Addr) (l m : List Fl) (ca cb : Nat) (n : Int) (w : World) (ha : Fls w aa l) (hb : Fls w ab m) (h1 : l.length ≤ maxLen) (h2 : ∀ x ∈ l, x.2.length ≤ maxLen) (h3 : m.length ≤ maxLen) (h4 : ∀ x ∈ m, x.2.length ≤ maxLen) :
    Calls Tryz.prog 66 #[.slice aa l.length ca, .slice ab m.length cb, .int .i64 n] w fun e w' => Below w.heap.size w w' ∧ (nz (dfs l m n) = [] → e = .returned .nilIface) ∧ (nz (dfs l m n) ≠ [] → ∃ J v B, e = .returned (.iface 205 (.pointer (some ⟨J, 0, none⟩))) ∧ w'.cell? ⟨J, 0, none⟩ = some v ∧ w'.ownsRow B 28 1 v (nz (dfs l m n)).length ((nz (dfs l m n)).map errV)) := by
  have HC1 : Hid (∀ w', Below w.heap.size w w' → Calls Tryz.prog 95 #[.slice aa l.length ca] w' fun e w'' => e = .returned (.tuple #[.int .i64 (tf l).1, errV (tf l).2]) ∧ Below w'.heap.size w' w'') := fun w' h => treeCheck aa l ca w' (ha.below h) h1 h2
  have HC2 : Hid (∀ w', Below w.heap.size w w' → Calls Tryz.prog 95 #[.slice ab m.length cb] w' fun e w'' => e = .returned (.tuple #[.int .i64 (tf m).1, errV (tf m).2]) ∧ Below w'.heap.size w' w'') := fun w' h => treeCheck ab m cb w' (hb.below h) h3 h4
  have HDF : Hid (dfs l m n = [(tf l).2, (tf m).2, if n < 0 ∨ 1000 < n then 1 else 0]) := rfl
  obtain ⟨fl, hfl⟩ : ∃ f, (tf l).2 = f := ⟨_, rfl⟩
  obtain ⟨fm, hfm⟩ : ∃ f, (tf m).2 = f := ⟨_, rfl⟩
  obtain ⟨kl, hkl⟩ : ∃ f, (tf l).1 = f := ⟨_, rfl⟩
  obtain ⟨km, hkm⟩ : ∃ f, (tf m).1 = f := ⟨_, rfl⟩
  obtain ⟨nl, hnl⟩ : ∃ f, l.length = f := ⟨_, rfl⟩
  obtain ⟨nm, hnm⟩ : ∃ f, m.length = f := ⟨_, rfl⟩
  obtain ⟨D, hD⟩ : ∃ D, dfs l m n = D := ⟨_, rfl⟩
  rw [hfl, hkl, hnl] at HC1
  rw [hfm, hkm, hnm] at HC2
  rw [hfl, hfm, hD] at HDF
  rw [hD, hnl, hnm]
  have hbk := heap_alloc_new w (.cells #[.nilIface, .nilIface, .nilIface] 165)
  have hb0 := below_alloc w (.cells #[.nilIface, .nilIface, .nilIface] 165)
  obtain ⟨B, hB⟩ : ∃ B, w.heap.size = B := ⟨_, rfl⟩
  rw [hB] at hbk hb0
  have HB0 : Hid (Below B w (w.alloc (.cells #[.nilIface, .nilIface, .nilIface] 165))) := hb0
  have HBK : Hid ((w.alloc (.cells #[.nilIface, .nilIface, .nilIface] 165)).heap[B]? = some (.cells #[.nilIface, .nilIface, .nilIface] 165 (0, 0))) := hbk
  have HB : Hid (w.heap.size = B) := hB
  clear ha hb h1 h2 h3 h4 hfl hfm hkl hkm hnl hnm hD hbk hb0
  go_enter Tryz.func66, Tryz.ntmps66
  go_wp2
  clear hB
  go_loopw [13] (fun i w1 => ∃ k : Nat, k ≤ 2 ∧ i = .int .i64 k ∧ Below B w w1 ∧ w1.heap[B]? = some (.cells #[if 0 < k then errV fl else .nilIface, if 1 < k then errV fm else .nilIface, .nilIface] 165 (0, 0))) (fun i _ => 2 - (intOf i).toNat)
  case atStart => exact ⟨0, by omega, rfl, HB0.out, HBK.out⟩
  case round =>
    obtain ⟨k, hk, rfl, hbl, hbk⟩ := hrel
    rcases (show k = 0 ∨ k = 1 ∨ k = 2 by omega) with rfl | rfl | rfl
    · replace hbk : wr.heap[B]? = some (.cells #[.nilIface, .nilIface, .nilIface] 165 (0, 0)) := hbk
      have hck := HC1.out wr (by rw [HB.out]; exact hbl)
      have hlt : B < wr.heap.size := by
        by_cases e : B < wr.heap.size
        · exact e
        · rw [Array.getElem?_eq_none (by omega)] at hbk; cases hbk
      have HBL : Hid (Below B w wr) := hbl
      have HBK1 : Hid (wr.heap[B]? = some (.cells #[.nilIface, .nilIface, .nilIface] 165 (0, 0))) := hbk
      have KK : Hid (∀ w2, Below wr.heap.size wr w2 → w2.heap[B]? = some (.cells #[.nilIface, .nilIface, .nilIface] 165 (0, 0))) := fun w2 h => blk_below h hlt hbk
      have hsz : B ≤ wr.heap.size := by omega
      have hp0 := fun x y w => pick_first x y w
      have hp1 := fun x y w => pick_second x y w
      clear hbl hbk hlt
      by_cases hz : fl = 0
      · rw [hz, errV_zero] at hck
        have HEV : Hid (errV fl = .nilIface) := by show errV fl = .nilIface; rw [hz, errV_zero]
        clear hz
        go_wp2_with (go_at_call 95; refine hck.mono ?_; rintro e w2 ⟨rfl, hb2⟩; have hbk2 := KK.out w2 hb2; have z0 : w2.cell? ⟨B, 0, none⟩ = some .nilIface := (by rw [Lib.cell_of_heap hbk2]; rfl); have f0 := Lib.frozen_of_heap hbk2 0)
        have hset := blk_set (i := 0) hbk2 (.nilIface)
        have HSET : Hid ((w2.setCell ⟨B, 0, none⟩ (.nilIface)).heap[B]? = some (.cells #[errV fl, .nilIface, .nilIface] 165 (0, 0))) := by
          show (w2.setCell ⟨B, 0, none⟩ (.nilIface)).heap[B]? = some (.cells #[errV fl, .nilIface, .nilIface] 165 (0, 0))
          rw [HEV.out]
          simpa using hset
        have HB3 : Hid (Below B w (w2.setCell ⟨B, 0, none⟩ (.nilIface))) := (HBL.out.trans (hb2.mono hsz)).setCell (p := ⟨B, 0, none⟩) (Nat.le_refl _) _
        clear hset hbk2 z0 f0 hck hb2
        go_wp2
        go_roundw
        case rel => exact ⟨1, by omega, by go_num, HB3.out, HSET.out⟩
        case measure => simp [intOf]
      · rw [errV_not hz] at hck
        have HEV : Hid (errV fl = .iface 23 (.int .i64 fl)) := errV_not hz
        clear hz
        go_wp2_with (go_at_call 95; refine hck.mono ?_; rintro e w2 ⟨rfl, hb2⟩; have hbk2 := KK.out w2 hb2; have z0 : w2.cell? ⟨B, 0, none⟩ = some .nilIface := (by rw [Lib.cell_of_heap hbk2]; rfl); have f0 := Lib.frozen_of_heap hbk2 0)
        have hset := blk_set (i := 0) hbk2 (.iface 23 (.int .i64 fl))
        have HSET : Hid ((w2.setCell ⟨B, 0, none⟩ (.iface 23 (.int .i64 fl))).heap[B]? = some (.cells #[errV fl, .nilIface, .nilIface] 165 (0, 0))) := by
          show (w2.setCell ⟨B, 0, none⟩ (.iface 23 (.int .i64 fl))).heap[B]? = some (.cells #[errV fl, .nilIface, .nilIface] 165 (0, 0))
          rw [HEV.out]
          simpa using hset
        have HB3 : Hid (Below B w (w2.setCell ⟨B, 0, none⟩ (.iface 23 (.int .i64 fl)))) := (HBL.out.trans (hb2.mono hsz)).setCell (p := ⟨B, 0, none⟩) (Nat.le_refl _) _
        clear hset hbk2 z0 f0 hck hb2
        go_wp2
        go_roundw
        case rel => exact ⟨1, by omega, by go_num, HB3.out, HSET.out⟩
        case measure => simp [intOf]
    · replace hbk : wr.heap[B]? = some (.cells #[errV fl, .nilIface, .nilIface] 165 (0, 0)) := hbk
      have hck := HC2.out wr (by rw [HB.out]; exact hbl)
      have hlt : B < wr.heap.size := by
        by_cases e : B < wr.heap.size
        · exact e
        · rw [Array.getElem?_eq_none (by omega)] at hbk; cases hbk
      have HBL : Hid (Below B w wr) := hbl
      have HBK1 : Hid (wr.heap[B]? = some (.cells #[errV fl, .nilIface, .nilIface] 165 (0, 0))) := hbk
      have KK : Hid (∀ w2, Below wr.heap.size wr w2 → w2.heap[B]? = some (.cells #[errV fl, .nilIface, .nilIface] 165 (0, 0))) := fun w2 h => blk_below h hlt hbk
      have hsz : B ≤ wr.heap.size := by omega
      have hp0 := fun x y w => pick_first x y w
      have hp1 := fun x y w => pick_second x y w
      clear hbl hbk hlt
      by_cases hz : fm = 0
      · rw [hz, errV_zero] at hck
        have HEV : Hid (errV fm = .nilIface) := by show errV fm = .nilIface; rw [hz, errV_zero]
        clear hz
        go_wp2_with (go_at_call 95; refine hck.mono ?_; rintro e w2 ⟨rfl, hb2⟩; have hbk2 := KK.out w2 hb2; have z0 : w2.cell? ⟨B, 1, none⟩ = some .nilIface := (by rw [Lib.cell_of_heap hbk2]; rfl); have f0 := Lib.frozen_of_heap hbk2 1)
        have hset := blk_set (i := 1) hbk2 (.nilIface)
        have HSET : Hid ((w2.setCell ⟨B, 1, none⟩ (.nilIface)).heap[B]? = some (.cells #[errV fl, errV fm, .nilIface] 165 (0, 0))) := by
          show (w2.setCell ⟨B, 1, none⟩ (.nilIface)).heap[B]? = some (.cells #[errV fl, errV fm, .nilIface] 165 (0, 0))
          rw [HEV.out]
          simpa using hset
        have HB3 : Hid (Below B w (w2.setCell ⟨B, 1, none⟩ (.nilIface))) := (HBL.out.trans (hb2.mono hsz)).setCell (p := ⟨B, 1, none⟩) (Nat.le_refl _) _
        clear hset hbk2 z0 f0 hck hb2
        go_wp2
        go_roundw
        case rel => exact ⟨2, by omega, by go_num, HB3.out, HSET.out⟩
        case measure => simp [intOf]
      · rw [errV_not hz] at hck
        have HEV : Hid (errV fm = .iface 23 (.int .i64 fm)) := errV_not hz
        clear hz
        go_wp2_with (go_at_call 95; refine hck.mono ?_; rintro e w2 ⟨rfl, hb2⟩; have hbk2 := KK.out w2 hb2; have z0 : w2.cell? ⟨B, 1, none⟩ = some .nilIface := (by rw [Lib.cell_of_heap hbk2]; rfl); have f0 := Lib.frozen_of_heap hbk2 1)
        have hset := blk_set (i := 1) hbk2 (.iface 23 (.int .i64 fm))
        have HSET : Hid ((w2.setCell ⟨B, 1, none⟩ (.iface 23 (.int .i64 fm))).heap[B]? = some (.cells #[errV fl, errV fm, .nilIface] 165 (0, 0))) := by
          show (w2.setCell ⟨B, 1, none⟩ (.iface 23 (.int .i64 fm))).heap[B]? = some (.cells #[errV fl, errV fm, .nilIface] 165 (0, 0))
          rw [HEV.out]
          simpa using hset
        have HB3 : Hid (Below B w (w2.setCell ⟨B, 1, none⟩ (.iface 23 (.int .i64 fm)))) := (HBL.out.trans (hb2.mono hsz)).setCell (p := ⟨B, 1, none⟩) (Nat.le_refl _) _
        clear hset hbk2 z0 f0 hck hb2
        go_wp2
        go_roundw
        case rel => exact ⟨2, by omega, by go_num, HB3.out, HSET.out⟩
        case measure => simp [intOf]
    · replace hbk : wr.heap[B]? = some (.cells #[errV fl, errV fm, .nilIface] 165 (0, 0)) := hbk
      have hlt : B < wr.heap.size := by
        by_cases e : B < wr.heap.size
        · exact e
        · rw [Array.getElem?_eq_none (by omega)] at hbk; cases hbk
      have hbw : Below w.heap.size w wr := by rw [HB.out]; exact hbl
      by_cases hn : n < 0 ∨ 1000 < n
      · have hdf : D = [fl, fm, 1] := by rw [HDF.out, if_pos hn]
        have z2 := Lib.cell_of_heap hbk 2
        have f2 := Lib.frozen_of_heap hbk 2
        simp at z2
        have hset := blk_set (i := 2) hbk (.iface 23 (.int .i64 1))
        replace hset : (wr.setCell ⟨B, 2, none⟩ (.iface 23 (.int .i64 1))).heap[B]? = some (.cells #[errV fl, errV fm, errV 1] 165 (0, 0)) := hset
        have hj := joinErr B 0 [fl, fm, 1] 3 (wr.setCell ⟨B, 2, none⟩ (.iface 23 (.int .i64 1))) (fun i hi => by
          rw [Lib.cell_of_heap hset]
          match i, hi with
          | 0, _ => rfl
          | 1, _ => rfl
          | 2, _ => rfl) (by simp)
        rw [← hdf] at hj
        rw [show D.length = 3 by rw [hdf]; rfl] at hj
        have HB3 : Hid (Below w.heap.size w (wr.setCell ⟨B, 2, none⟩ (.iface 23 (.int .i64 1)))) := hbw.setCell (p := ⟨B, 2, none⟩) (by rw [HB.out]; exact Nat.le_refl _) _
        have hne : nz D ≠ [] := by
          rw [hdf]
          intro e
          have : (1 : Int) ∈ nz [fl, fm, 1] := List.mem_filter.2 ⟨by simp, by decide⟩
          rw [e] at this
          cases this
        clear hset hbk hlt hdf hbl hbw
        have HNE : Hid (nz D ≠ []) := hne
        clear hne
        rcases hn with hn | hn
        all_goals
          go_wp2_with (go_at_call 100; refine hj.mono ?_; rintro e w5 ⟨hb5, g1, g2⟩; obtain ⟨J, v, rfl, q1, q2⟩ := g2 HNE.out)
          have hb5 := HB3.out.trans (hb5.mono HB3.out.size)
          have Q1 : Hid (w5.cell? ⟨J, 0, none⟩ = some v) := q1
          have Q2 : Hid (w5.ownsRow (wr.setCell ⟨B, 2, none⟩ (.iface 23 (.int .i64 1))).heap.size 28 1 v (nz D).length ((nz D).map errV)) := q2
          clear q1 q2 g1 g2 hj
          go_wp2
          go_ret
          exact ⟨hb5, fun h => absurd h HNE.out, fun _ => ⟨J, v, _, rfl, Q1.out, Q2.out⟩⟩
      · have hdf : D = [fl, fm, 0] := by rw [HDF.out, if_neg hn]
        have hj := joinErr B 0 [fl, fm, 0] 3 wr (fun i hi => by
          rw [Lib.cell_of_heap hbk]
          match i, hi with
          | 0, _ => rfl
          | 1, _ => rfl
          | 2, _ => rfl) (by simp)
        rw [← hdf] at hj
        rw [show D.length = 3 by rw [hdf]; rfl] at hj
        have hn1 : ¬ n < 0 := fun h => hn (.inl h)
        have hn2 : ¬ 1000 < n := fun h => hn (.inr h)
        have HB3 : Hid (Below w.heap.size w wr) := hbw
        by_cases hne : nz D = []
        · have HNE : Hid (nz D = []) := hne
          clear hbk hlt hdf hbl hbw hne hn
          go_wp2_with (go_at_call 100; refine hj.mono ?_; rintro e w5 ⟨hb5, g1, g2⟩; obtain rfl := g1 HNE.out)
          have hb5 := HB3.out.trans (hb5.mono HB3.out.size)
          clear g1 g2 hj
          go_wp2
          go_ret
          exact ⟨hb5, fun _ => rfl, fun h => absurd HNE.out h⟩
        · have HNE : Hid (nz D ≠ []) := hne
          clear hbk hlt hdf hbl hbw hne hn
          go_wp2_with (go_at_call 100; refine hj.mono ?_; rintro e w5 ⟨hb5, g1, g2⟩; obtain ⟨J, v, rfl, q1, q2⟩ := g2 HNE.out)
          have hb5 := HB3.out.trans (hb5.mono HB3.out.size)
          have Q1 : Hid (w5.cell? ⟨J, 0, none⟩ = some v) := q1
          have Q2 : Hid (w5.ownsRow wr.heap.size 28 1 v (nz D).length ((nz D).map errV)) := q2
          clear q1 q2 g1 g2 hj
          go_wp2
          go_ret
          exact ⟨hb5, fun h => absurd h HNE.out, fun _ => ⟨J, v, _, rfl, Q1.out, Q2.out⟩⟩

end Go.Proofs.YtnkdmgekpajfhadGreatDoor
