/-
  Walks of errors.Join, patch.checkDiff, patch.isAhead and patch.change: errors that are joined; what keeps two trees from being compared; which tree's first file comes first; a change between two files.
-/
import Derived.Test.YtnkdmgekpajfhaeDoorPtn
import Derived.Test.YtnkdmgekpajfhaeDoorXd
import Derived.Test.YtnkdmgekpajfhaeDoorHMk
import Derived.Deep.AppendLies
namespace Go.Proofs.YtnkdmgekpajfhaeDoor
open Go.RowKit Dist

/-- The faults among numbers. -/
def nz (fs : List Int) : List Int := fs.filter fun f => decide (f ≠ 0)

theorem nz_snoc (fs : List Int) (k : Nat) (hk : k < fs.length) : nz (fs.take (k + 1)) = if fs.getD k 0 = 0 then nz (fs.take k) else nz (fs.take k) ++ [fs.getD k 0] := by
  have e : fs.getD k 0 = fs[k] := by simp [hk]
  unfold nz
  rw [List.take_succ_eq_append_getElem hk, List.filter_append, e]
  by_cases h : fs[k] = 0
  · rw [if_pos h]; simp [h]
  · rw [if_neg h]; simp [h]

theorem Tryd.infoError : (Tryd.prog.info? 28).map (fun i => (i.zero, i.size, i.bytes)) = some (some .nilIface, 1, 16) := by kernel_rfl

theorem run_make_errs (m : Nat) (hm : m ≤ 1000) (w : World) :
    (Instr.makeSlice 118 (.int .i64 0) (.int .i64 (m : Int))).run Tryd.prog w = .ok (.slice (some ⟨w.heap.size, 0, none⟩) 0 m) (w.alloc (.cells (madeCells #[.nilIface] m) 28)) := by
  obtain ⟨i0, hi, hz0, hz1, hz2⟩ := info_parts Tryd.infoError
  have hr := run_make (P := Tryd.prog) w 118 28 i0 _ Tryd.underlying118 hi hz0 .i64 .i64 0 m (by omega) (by omega) (by rw [hz2]; omega) (by omega)
  rw [hz1, Int.toNat_natCast, Nat.mul_one] at hr
  exact hr

theorem errV_one (f : Int) : (errV f).oneCell' = true := by
  unfold errV
  split <;> rfl

set_option maxRecDepth 100000 in
set_option maxHeartbeats 4000000 in
theorem joinErr (b off : Nat) (fs : List Int) (c : Nat) (w : World) (hc : ∀ i, i < fs.length → w.cell? ⟨b, off + i, none⟩ = some (errV (fs.getD i 0))) (hl : fs.length ≤ 100) :
    Calls Tryd.prog 69 #[.slice (some ⟨b, off, none⟩) fs.length c] w fun e w' => Below w.heap.size w w' ∧ (nz fs = [] → e = .returned .nilIface) ∧ (nz fs ≠ [] → ∃ J v, e = .returned (.iface 147 (.pointer (some ⟨J, 0, none⟩))) ∧ w'.cell? ⟨J, 0, none⟩ = some v ∧ w'.ownsRow w.heap.size 28 1 v (nz fs).length ((nz fs).map errV)) := by
  obtain ⟨i0, hi0, hz0, hz1, hz2⟩ := info_parts Tryd.infoError
  obtain ⟨n, hn⟩ : ∃ n, fs.length = n := ⟨_, rfl⟩
  have HN : Hid (fs.length = n) := hn
  rw [hn] at hl ⊢
  have HC : Hid (∀ i, i < n → w.cell? ⟨b, off + i, none⟩ = some (errV (fs.getD i 0))) := fun i hi => hc i (by omega)
  have HSN : Hid (∀ k, k < n → nz (fs.take (k + 1)) = if fs.getD k 0 = 0 then nz (fs.take k) else nz (fs.take k) ++ [fs.getD k 0]) := fun k hk => nz_snoc fs k (by omega)
  have HTK : Hid (fs.take n = fs) := List.take_of_length_le (by omega)
  have HNL : Hid (∀ k, (nz (fs.take k)).length ≤ n) := fun k => by
    have h1 : (nz (fs.take k)).length ≤ (fs.take k).length := List.length_filter_le _ _
    rw [List.length_take] at h1
    omega
  clear hc hn
  go_enter Tryd.func69, Tryd.ntmps69
  go_wp2
  go_loop [3, 5, 11] (fun v3 _ i => ∃ k : Nat, k ≤ n ∧ i = .int .i64 k ∧ v3 = .int .i64 (nz (fs.take k)).length) (fun _ _ i => n - (intOf i).toNat)
  case atStart => exact ⟨0, Nat.zero_le _, rfl, rfl⟩
  case round =>
    obtain ⟨k, hk, rfl, rfl⟩ := hrel
    by_cases hlt : k < n
    · have hx := HC.out k hlt
      have hs := HSN.out k hlt
      have hnl := HNL.out k
      obtain ⟨f, hf⟩ : ∃ f, fs.getD k 0 = f := ⟨_, rfl⟩
      obtain ⟨m, hm⟩ : ∃ m, (nz (fs.take k)).length = m := ⟨_, rfl⟩
      rw [hf] at hx hs
      rw [hm] at hnl ⊢
      by_cases h0 : f = 0
      · rw [if_pos h0] at hs
        rw [h0, errV_zero] at hx
        have HS : Hid ((nz (fs.take (k + 1))).length = m) := by show _ = m; rw [hs]; exact hm
        clear hs hf hm h0
        go_wp2
        go_round
        case rel => exact ⟨k + 1, by omega, by go_num, by rw [HS.out]⟩
        case measure => simp [intOf]; omega
      · rw [if_neg h0] at hs
        rw [errV_not h0] at hx
        have HS : Hid ((nz (fs.take (k + 1))).length = m + 1) := by show _ = m + 1; rw [hs, List.length_append, hm]; rfl
        clear hs hf hm h0
        go_wp2
        go_round
        case rel => exact ⟨k + 1, by omega, by go_num, by rw [HS.out]; go_num⟩
        case measure => simp [intOf]; omega
    · obtain rfl : k = n := by omega
      rw [HTK.out]
      have hnl := HNL.out k
      rw [HTK.out] at hnl
      obtain ⟨m, hm⟩ : ∃ m, (nz fs).length = m := ⟨_, rfl⟩
      have HM : Hid ((nz fs).length = m) := hm
      rw [hm] at hnl ⊢
      clear hm
      by_cases h0 : m = 0
      · have HE : Hid (nz fs = []) := List.length_eq_zero_iff.1 (by have := HM.out; omega)
        subst h0
        go_wp2
        go_ret
        exact ⟨Below.refl _ _, fun _ => rfl, fun h => absurd HE.out h⟩
      · have HNE : Hid (nz fs ≠ []) := fun e => h0 (by rw [← HM.out, e]; rfl)
        have hmk := fun w => run_make_errs m (by omega) w
        have hm0 : ¬ ((m : Int) = 0) := by omega
        obtain ⟨B, hB⟩ : ∃ B, w.heap.size = B := ⟨_, rfl⟩
        have hb1 := (below_alloc w (.cells (madeCells #[.nilIface] m) 28))
        have hb2 := hb1.alloc (by simp) (.cells #[.slice (some ⟨w.heap.size, 0, none⟩) 0 m] 149)
        have how : ((w.alloc (.cells (madeCells #[.nilIface] m) 28)).alloc (.cells #[.slice (some ⟨w.heap.size, 0, none⟩) 0 m] 149)).ownsRow B 28 1 (.slice (some ⟨w.heap.size, 0, none⟩) 0 m) 0 [] := (World.ownsRow_made w _ m (by rw [hB]; exact Nat.le_refl _) (by unfold maxLen; omega) (by rw [size_madeCells, Nat.mul_one])).alloc _
        have hblk := heap_alloc_new (w.alloc (.cells (madeCells #[.nilIface] m) 28)) (.cells #[.slice (some ⟨w.heap.size, 0, none⟩) 0 m] 149)
        rw [show (w.alloc (.cells (madeCells #[.nilIface] m) 28)).heap.size = B + 1 by simp [hB]] at hblk
        rw [hB] at hb2 how hblk
        have HB2 : Hid (Below B w ((w.alloc (.cells (madeCells #[.nilIface] m) 28)).alloc (.cells #[.slice (some ⟨B, 0, none⟩) 0 m] 149))) := hb2
        have HOW : Hid (((w.alloc (.cells (madeCells #[.nilIface] m) 28)).alloc (.cells #[.slice (some ⟨B, 0, none⟩) 0 m] 149)).ownsRow B 28 1 (.slice (some ⟨B, 0, none⟩) 0 m) 0 []) := how
        have HBK : Hid (((w.alloc (.cells (madeCells #[.nilIface] m) 28)).alloc (.cells #[.slice (some ⟨B, 0, none⟩) 0 m] 149)).heap[B + 1]? = some (.cells #[.slice (some ⟨B, 0, none⟩) 0 m] 149 (0, 0))) := hblk
        have HSZ : Hid (w.heap.size = B) := hB
        clear hb1 hb2 how hblk h0
        go_wp2
        clear hmk hB
        go_loopw [8, 28] (fun _ i w1 => ∃ (j : Nat) (v : Value), j ≤ k ∧ i = .int .i64 j ∧ Below B w w1 ∧ w1.heap[B + 1]? = some (.cells #[v] 149 (0, 0)) ∧ v.ownBlock ≠ some (B + 1) ∧ w1.ownsRow B 28 1 v (nz (fs.take j)).length ((nz (fs.take j)).map errV)) (fun _ i _ => k - (intOf i).toNat)
        case atStart => exact ⟨0, _, Nat.zero_le _, rfl, HB2.out, HBK.out, by simp [Value.ownBlock], HOW.out⟩
        case round =>
          obtain ⟨j, v, hj, rfl, hbl, hbk, hvb, hown⟩ := hrel
          have hbw : Below w.heap.size w wr := by rw [HSZ.out]; exact hbl
          by_cases hjk : j < k
          · have hx := cell_later hbw (HC.out j hjk)
            have hs := HSN.out j hjk
            have hnl := HNL.out j
            obtain ⟨f, hf⟩ : ∃ f, fs.getD j 0 = f := ⟨_, rfl⟩
            rw [hf] at hx hs
            by_cases h0 : f = 0
            · rw [if_pos h0] at hs
              rw [h0, errV_zero] at hx
              have HOW3 : Hid (wr.ownsRow B 28 1 v (nz (fs.take (j + 1))).length ((nz (fs.take (j + 1))).map errV)) := by rw [hs]; exact hown
              have HBK3 : Hid (wr.heap[B + 1]? = some (.cells #[v] 149 (0, 0))) := hbk
              clear hs hf h0 hown hbk
              go_wp2
              go_roundw
              case rel => exact ⟨j + 1, v, by omega, by go_num, hbl, HBK3.out, hvb, HOW3.out⟩
              case measure => simp [intOf]; omega
            · rw [if_neg h0] at hs
              rw [errV_not h0] at hx
              have HFS : Hid (nz (fs.take (j + 1)) = nz (fs.take j) ++ [f]) := hs
              have HFE : Hid (errV f = .iface 45 (.int .i64 f)) := errV_not h0
              have y0 := Lib.cell_of_heap hbk 0
              simp at y0
              have hJl : B + 1 < wr.heap.size := by
                by_cases e : B + 1 < wr.heap.size
                · exact e
                · rw [Array.getElem?_eq_none (by omega)] at hbk; cases hbk
              have hown2 := hown.alloc (.cells #[.iface 45 (.int .i64 f)] 28)
              have hbk2 := blk_below (below_alloc wr (.cells #[.iface 45 (.int .i64 f)] 28)) hJl hbk
              have hb2 := hbl.alloc (by omega) (.cells #[.iface 45 (.int .i64 f)] 28)
              have hnew : ∀ i u, ([.iface 45 (.int .i64 f)] : List Value)[i]? = some u → (wr.alloc (.cells #[.iface 45 (.int .i64 f)] 28)).cell? ((⟨wr.heap.size, 0, none⟩ : Addr).add i) = some u := by
                intro i u hu
                have hh := heap_alloc_new wr (.cells #[.iface 45 (.int .i64 f)] 28)
                match i, hu with
                | 0, hu =>
                  simp at hu
                  subst hu
                  exact Lib.cell_of_heap hh 0
              have HB2 : Hid (Below B w (wr.alloc (.cells #[.iface 45 (.int .i64 f)] 28))) := hb2
              have HBK3 : Hid ((wr.alloc (.cells #[.iface 45 (.int .i64 f)] 28)).heap[B + 1]? = some (.cells #[v] 149 (0, 0))) := hbk2
              have HVB : Hid (v.ownBlock ≠ some (B + 1)) := hvb
              have HNEW := hnew
              have HLB : Hid (∀ y, v.ownBlock = some y → B ≤ y) := fun y hy => (hown2.lt y hy).1
              have KK : Hid (∀ w5, (wr.alloc (.cells #[.iface 45 (.int .i64 f)] 28)).grownBy w5 v.ownBlock → w5.heap[B + 1]? = some (.cells #[v] 149 (0, 0)) ∧ w5.cell? ⟨B + 1, 0, none⟩ = some v ∧ w5.frozen? ⟨B + 1, 0, none⟩ = false) := fun w5 hg => by
                have h := hg.block (B + 1) (by simp; omega) (fun e => hvb e.symm)
                rw [hbk2] at h
                exact ⟨h, by rw [Lib.cell_of_heap h]; rfl, Lib.frozen_of_heap h 0⟩
              have hBw : B ≤ wr.heap.size := by omega
              have HF1 := Lib.frozen_of_heap hbk2 0
              clear hs hf h0 hown hbk hb2 hbk2 hvb hnew hbl hbw
              go_wp2_with ((at_builtin; refine wpList_append_lies _ rfl _ _ 118 rfl B 28 i0 .nilIface 1 16 Tryd.underlying118 hi0 hz0 hz1 hz2 rfl (by decide) _ _ _ rfl hown2 ⟨wr.heap.size, 0, none⟩ 1 1 [.iface 45 (.int .i64 f)] rfl rfl HNEW (fun x hx => by simp at hx; rw [hx]; rfl) (by decide) (by unfold maxLen; omega) (by omega) (by simp; omega) (wr.heap.size + 1) (by simp) ?_; intro g5 c5 w5 hown' hgrow5 hblk5 hlt5; obtain ⟨hbk5, y5, f5⟩ := KK.out w5 hgrow5; clear y0 HF1 hx))
              have hset := blk_set (i := 0) hbk5 (.slice (some ⟨g5, 0, none⟩) ((nz (fs.take j)).length + 1) c5)
              have hb5 : Below B w w5 := HB2.out.grown hgrow5 (by simp; omega) (fun y hy => HLB.out y hy)
              have hv5 : (Value.slice (some ⟨g5, 0, none⟩) ((nz (fs.take j)).length + 1) c5).ownBlock ≠ some (B + 1) := by
                intro e
                obtain rfl : g5 = B + 1 := by simpa [Value.ownBlock] using e
                rcases hblk5 with h | h
                · exact HVB.out h
                · omega
              have hown6 := own_ne (i := 0) hown' hv5 (.slice (some ⟨g5, 0, none⟩) ((nz (fs.take j)).length + 1) c5)
              have HOW6 : Hid ((w5.setCell ⟨B + 1, 0, none⟩ (.slice (some ⟨g5, 0, none⟩) ((nz (fs.take j)).length + 1) c5)).ownsRow B 28 1 (.slice (some ⟨g5, 0, none⟩) ((nz (fs.take j)).length + 1) c5) (nz (fs.take (j + 1))).length ((nz (fs.take (j + 1))).map errV)) := by
                show (w5.setCell ⟨B + 1, 0, none⟩ (.slice (some ⟨g5, 0, none⟩) ((nz (fs.take j)).length + 1) c5)).ownsRow B 28 1 (.slice (some ⟨g5, 0, none⟩) ((nz (fs.take j)).length + 1) c5) (nz (fs.take (j + 1))).length ((nz (fs.take (j + 1))).map errV)
                rw [HFS.out, List.length_append, List.map_append, List.map_singleton, HFE.out]
                exact hown6
              have HSET : Hid ((w5.setCell ⟨B + 1, 0, none⟩ (.slice (some ⟨g5, 0, none⟩) ((nz (fs.take j)).length + 1) c5)).heap[B + 1]? = some (.cells #[(.slice (some ⟨g5, 0, none⟩) ((nz (fs.take j)).length + 1) c5)] 149 (0, 0))) := by
                show (w5.setCell ⟨B + 1, 0, none⟩ (.slice (some ⟨g5, 0, none⟩) ((nz (fs.take j)).length + 1) c5)).heap[B + 1]? = some (.cells #[(.slice (some ⟨g5, 0, none⟩) ((nz (fs.take j)).length + 1) c5)] 149 (0, 0))
                simpa using hset
              have HB6 : Hid (Below B w (w5.setCell ⟨B + 1, 0, none⟩ (.slice (some ⟨g5, 0, none⟩) ((nz (fs.take j)).length + 1) c5))) := hb5.setCell (by simp) _
              have HVB5 : Hid ((Value.slice (some ⟨g5, 0, none⟩) ((nz (fs.take j)).length + 1) c5).ownBlock ≠ some (B + 1)) := hv5
              clear hset hb5 hv5 hown6 hown' hgrow5 hblk5 hbk5 hown2 HNEW
              go_wp2
              go_roundw
              case rel => exact ⟨j + 1, _, by omega, by go_num, HB6.out, HSET.out, HVB5.out, HOW6.out⟩
              case measure => simp [intOf]; omega
          · obtain rfl : j = k := by omega
            rw [HTK.out] at hown
            have y0 := Lib.cell_of_heap hbk 0
            simp at y0
            have HOW9 : Hid (wr.ownsRow B 28 1 v (nz fs).length ((nz fs).map errV)) := hown
            have HY : Hid (wr.cell? ⟨B + 1, 0, none⟩ = some v) := y0
            clear hown hbk y0 hvb
            go_wp2
            go_ret
            rw [HSZ.out]
            exact ⟨hbl, fun h => absurd h HNE.out, fun _ => ⟨B + 1, v, rfl, HY.out, HOW9.out⟩⟩

end Go.Proofs.YtnkdmgekpajfhaeDoor
