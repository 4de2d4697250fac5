/-
  Walk of the document's own answer for all lines of a file as one hunk.
-/
import Derived.Test.YtmidbhikhbbpbacDoorXd
import Derived.Test.YtmidbhikhbbpbacDoorRefX
namespace Go.Proofs.YtmidbhikhbbpbacDoor
open Go.RowKit Dist

attribute [local go_sem] Go.wp_at_zero Go.wp_at_succ

theorem whl_snoc (xs : List ByteArray) (k : Nat) (hk : k < xs.length) {t : ByteArray} (ht : xs.getD k ByteArray.empty = t) (sg : Int) : (xs.take (k + 1)).map (fun s => (sg, s)) = (xs.take k).map (fun s => (sg, s)) ++ [(sg, t)] := by
  have e : xs.getD k ByteArray.empty = xs[k] := by simp [hk]
  rw [List.take_succ_eq_append_getElem hk, List.map_append, ← ht, e]; rfl

set_option maxRecDepth 100000 in
set_option maxHeartbeats 4000000 in
theorem refWhole (a : Option Addr) (xs : List ByteArray) (ca : Nat) (sg : Int) (w : World) (ha : Strs w a xs) (hl : xs.length ≤ 60) :
    Calls Tryd.prog 31 #[.slice a xs.length ca, .int .u8 sg] w fun e w' => ∃ v, e = .returned v ∧ Below w.heap.size w w' ∧ HOwn w' w.heap.size v (whl xs sg) := by
  obtain ⟨j0, hj0, hy0, hy1, hy2⟩ := info_parts Tryd.infoMark
  have hb1 := below_alloc w (.cells #[.int .i64 0, .int .i64 0, .slice none 0 0] 80)
  have hblk := heap_alloc_new w (.cells #[.int .i64 0, .int .i64 0, .slice none 0 0] 80)
  obtain ⟨q, hq⟩ : ∃ q, xs.length = q := ⟨_, rfl⟩
  rw [hq] at hl ⊢
  have HQ : Hid (xs.length = q) := hq
  have HA : Hid (Strs w a xs) := ha
  obtain ⟨G, hG⟩ : ∃ G, w.heap.size = G := ⟨_, rfl⟩
  rw [hG] at hb1 hblk
  have HG : Hid (w.heap.size = G) := hG
  have HB1 : Hid (Below G w (w.alloc (.cells #[.int .i64 0, .int .i64 0, .slice none 0 0] 80))) := hb1
  have HBK : Hid ((w.alloc (.cells #[.int .i64 0, .int .i64 0, .slice none 0 0] 80)).heap[G]? = some (.cells #[.int .i64 0, .int .i64 0, .slice none 0 0] 80 (0, 0))) := hblk
  clear ha hq hb1 hblk
  go_enter Tryd.func31, Tryd.ntmps31
  go_wp2
  clear hG
  go_loopw [6] (fun j w1 => ∃ (k : Nat) (v : Value), k ≤ q ∧ j = .int .i64 k ∧ Below G w w1 ∧ w1.heap[G]? = some (.cells #[.int .i64 0, .int .i64 0, v] 80 (0, 0)) ∧ w1.ownsRow (G + 1) 82 2 v k (mcells ((xs.take k).map fun s => (sg, s))) ∧ ∃ av nv cv, v = .slice av nv cv) (fun j _ => q - (intOf j).toNat)
  case atStart => exact ⟨0, _, Nat.zero_le _, rfl, HB1.out, HBK.out, ⟨rfl, Or.inl ⟨rfl, rfl⟩⟩, none, 0, 0, rfl⟩
  case round =>
    obtain ⟨k, v, hk, rfl, hbl, hbk, hot, av, nv, cv, rfl⟩ := hrel
    have hbw : Below w.heap.size w wr := by rw [HG.out]; exact hbl
    have hGl : G < wr.heap.size := by
      by_cases e : G < wr.heap.size
      · exact e
      · rw [Array.getElem?_eq_none (by omega)] at hbk; cases hbk
    by_cases hlt : k < q
    · have hkx : k < xs.length := by rw [HQ.out]; exact hlt
      obtain ⟨b, off, ea, hx1⟩ := HA.out k hkx
      subst ea
      have hbB : b < G := by rw [← HG.out]; exact World.block_lt_of_cell? _ _ hx1
      obtain ⟨t, ht⟩ : ∃ t, xs.getD k ByteArray.empty = t := ⟨_, rfl⟩
      have HSN : Hid ((xs.take (k + 1)).map (fun s => (sg, s)) = (xs.take k).map (fun s => (sg, s)) ++ [(sg, t)]) := whl_snoc xs k hkx ht sg
      rw [ht] at hx1
      have XX : Hid (∀ w', Below wr.heap.size wr w' → w'.cell? ⟨b, off + k, none⟩ = some (.string t)) := fun w' h => cell_later (hbw.trans (h.mono hbw.size)) hx1
      have hbd : Below wr.heap.size wr wr.drew := ⟨rfl, rfl, rfl, Nat.le_refl _, fun _ _ => rfl⟩
      have hb7 : Below wr.heap.size wr (wr.alloc (.cells #[.int .u8 sg, .string t] 82)).drew := (below_alloc wr (.cells #[.int .u8 sg, .string t] 82)).trans (⟨rfl, rfl, rfl, by simp, fun _ _ => rfl⟩)
      have BB : Hid (Below wr.heap.size wr wr.drew) := hbd
      have B7 : Hid (Below wr.heap.size wr (wr.alloc (.cells #[.int .u8 sg, .string t] 82)).drew) := hb7
      have HOWN7 : Hid ((wr.alloc (.cells #[.int .u8 sg, .string t] 82)).drew.ownsRow (G + 1) 82 2 (.slice av nv cv) k (mcells ((xs.take k).map fun s => (sg, s)))) := own_later hot hb7
      have hblk7 := blk_below hb7 hGl hbk
      have HBLK7 : Hid ((wr.alloc (.cells #[.int .u8 sg, .string t] 82)).drew.heap[G]? = some (.cells #[.int .i64 0, .int .i64 0, .slice av nv cv] 80 (0, 0))) := hblk7
      have HNEWS : Hid (∀ j u, ([.int .u8 sg, .string t] : List Value)[j]? = some u → (wr.alloc (.cells #[.int .u8 sg, .string t] 82)).drew.cell? ((⟨wr.heap.size, 0, none⟩ : Addr).add j) = some u) := cell_two_new wr (.int .u8 sg) (.string t) 82
      have HVB : Hid (∀ y, (Value.slice av nv cv).ownBlock = some y → G + 1 ≤ y ∧ y < wr.heap.size) := fun y hy => hot.lt y hy
      have KK : Hid (∀ w8, (wr.alloc (.cells #[.int .u8 sg, .string t] 82)).drew.grownBy w8 (Value.slice av nv cv).ownBlock → w8.heap[G]? = some (.cells #[.int .i64 0, .int .i64 0, .slice av nv cv] 80 (0, 0)) ∧ w8.cell? ⟨G, 2, none⟩ = some (.slice av nv cv) ∧ w8.cell? ⟨b, off + k, none⟩ = some (.string t)) := fun w8 hg => by
        have k1 : w8.heap[G]? = some (.cells #[.int .i64 0, .int .i64 0, .slice av nv cv] 80 (0, 0)) := (hg.block G (by have := hb7.size; omega) (fun e => by have := (HVB.out G e.symm).1; omega)).trans HBLK7.out
        exact ⟨k1, by rw [Lib.cell_of_heap k1]; rfl, hg.cell (XX.out _ B7.out) (fun e => by have := (HVB.out b e.symm).1; omega)⟩
      have D2 : Hid (wr.cell? ⟨G, 2, none⟩ = some (.slice av nv cv)) := by show wr.cell? ⟨G, 2, none⟩ = some (.slice av nv cv); rw [Lib.cell_of_heap hbk]; rfl
      have D2' : Hid ((wr.alloc (.cells #[.int .u8 sg, .string t] 82)).cell? ⟨G, 2, none⟩ = some (.slice av nv cv)) := by show (wr.alloc (.cells #[.int .u8 sg, .string t] 82)).cell? ⟨G, 2, none⟩ = some (.slice av nv cv); exact (show (wr.alloc (.cells #[.int .u8 sg, .string t] 82)).drew.cell? ⟨G, 2, none⟩ = some (.slice av nv cv) by rw [Lib.cell_of_heap hblk7]; rfl)
      have HBL : Hid (Below G w wr) := hbl
      have hkq : k ≤ 60 := by omega
      clear ht hkx hx1 hbl hbk hot hbw hblk7 hb7 hbd
      go_wp2
      refine wp_region_held_drew (S := fun w' => w'.cell? ⟨b, off + k, none⟩ = some (.string t)) (by kernel_rfl) ?_ (fun hHeld => ?_)
      · exact XX.out _ BB.out
      refine wpAnyH_take (i := 0) (v := ?_) rfl (by kernel_rfl) (by kernel_rfl) (by kernel_rfl) (fun _ _ _ h => h) (Or.inl ⟨by rfl, ?_⟩) (by assumption) ?_
      rotate_left
      · intro w' hSw
        (try dsimp only at hSw)
        go_simp
        try with_reducible rfl
      simp only [Act.put, List.getElem_toArray, List.getElem_cons_zero, List.setIfInBounds_toArray, List.set_cons_zero, List.set_cons_succ]
      refine wpAnyH_take (i := 2) (v := ?_) rfl (by kernel_rfl) (by kernel_rfl) (by kernel_rfl) (fun _ _ _ h => h) (Or.inl ⟨by rfl, ?_⟩) (by assumption) ?_
      rotate_left
      · intro w' hSw
        (try dsimp only at hSw)
        go_simp
        try with_reducible rfl
      simp only [Act.put, List.getElem_toArray, List.getElem_cons_zero, List.getElem_cons_succ, List.setIfInBounds_toArray, List.set_cons_zero, List.set_cons_succ]
      refine wpAnyH_take (i := 3) (v := ?_) rfl (by kernel_rfl) (by kernel_rfl) (by kernel_rfl) (fun _ _ _ h => h) (Or.inl ⟨by rfl, ?_⟩) (by assumption) ?_
      rotate_left
      · intro w' hSw
        (try dsimp only at hSw)
        go_simp
        try with_reducible rfl
      simp only [Act.put, List.getElem_toArray, List.getElem_cons_zero, List.getElem_cons_succ, List.setIfInBounds_toArray, List.set_cons_zero, List.set_cons_succ]
      refine wpAnyH_take (i := 4) (v := ?_) rfl (by kernel_rfl) (by kernel_rfl) (by kernel_rfl) (fun _ _ _ h => h) (Or.inl ⟨by rfl, ?_⟩) (by assumption) ?_
      rotate_left
      · intro w' hSw
        (try dsimp only at hSw)
        go_simp
        try with_reducible rfl
      simp only [Act.put, List.getElem_toArray, List.getElem_cons_zero, List.getElem_cons_succ, List.setIfInBounds_toArray, List.set_cons_zero, List.set_cons_succ]
      refine wpAnyH_take (i := 5) (v := ?_) rfl (by kernel_rfl) (by kernel_rfl) (by kernel_rfl) (fun _ _ _ h => h) (Or.inl ⟨by rfl, ?_⟩) (by assumption) ?_
      rotate_left
      · intro w' hSw
        (try dsimp only at hSw)
        go_simp
        try first | (rw [if_pos (by omega)]) | (with_reducible rfl)
      simp only [Act.put, List.getElem_toArray, List.getElem_cons_zero, List.getElem_cons_succ, List.setIfInBounds_toArray, List.set_cons_zero, List.set_cons_succ]
      refine wpAnyH_take (i := 6) (v := ?_) rfl (by kernel_rfl) (by kernel_rfl) (by kernel_rfl) (fun _ _ _ h => h) (Or.inl ⟨by rfl, ?_⟩) (by assumption) ?_
      rotate_left
      · intro w' hSw
        (try dsimp only at hSw)
        go_simp
        try with_reducible rfl
      simp only [Act.put, List.getElem_toArray, List.getElem_cons_zero, List.getElem_cons_succ, List.setIfInBounds_toArray, List.set_cons_zero, List.set_cons_succ]
      refine wpAnyH_take (i := 7) (v := ?_) rfl (by kernel_rfl) (by kernel_rfl) (by kernel_rfl) (fun _ _ _ h => h) (Or.inl ⟨by rfl, ?_⟩) (by assumption) ?_
      rotate_left
      · intro w' hSw
        (try dsimp only at hSw)
        go_simp
        try with_reducible rfl
      simp only [Act.put, List.getElem_toArray, List.getElem_cons_zero, List.getElem_cons_succ, List.setIfInBounds_toArray, List.set_cons_zero, List.set_cons_succ]
      refine wpAnyH_ready (rs := [1, 8]) (by kernel_rfl) (by simp) ?_
      refine AllReadyH.cons rfl (fun K hK => ?_) (AllReadyH.cons rfl (fun K hK => ?_) AllReadyH.nil)
      case' refine_1 =>
        have d2 := D2.out
        go_simp
        refine hK.out _ _ ?_ (fun hHeld => ?_)
        · exact XX.out _ BB.out
        clear hK K
        refine wpAnyH_ready (rs := [8]) (by kernel_rfl) (by simp) ?_
        refine AllReadyH.cons rfl (fun K hK => ?_) AllReadyH.nil
        go_simp
        refine hK.out _ _ ?_ (fun hHeld => ?_)
        · exact XX.out _ B7.out
        clear hK K
      case' refine_2 =>
        go_simp
        refine hK.out _ _ ?_ (fun hHeld => ?_)
        · exact XX.out _ B7.out
        clear hK K
        have d2 := D2'.out
        refine wpAnyH_ready (rs := [1]) (by kernel_rfl) (by simp) ?_
        refine AllReadyH.cons rfl (fun K hK => ?_) AllReadyH.nil
        go_simp
        refine hK.out _ _ ?_ (fun hHeld => ?_)
        · exact XX.out _ B7.out
        clear hK K
      all_goals
        refine wpAnyH_ready (rs := [9]) (by kernel_rfl) (by simp) ?_
        refine AllReadyH.cons rfl (fun K hK => ?_) AllReadyH.nil
        refine step_append_lies _ (by rfl) _ _ 66 (by rfl) (G + 1) 82 j0 (.agg #[.int .u8 0, .string ByteArray.empty]) 2 24 Tryd.underlying66 hj0 hy0 hy1 hy2 rfl (by decide) _ _ _ (by rfl) HOWN7.out ⟨wr.heap.size, 0, none⟩ 1 1 [.int .u8 sg, .string t] (by rfl) rfl HNEWS.out (fun x hx => by simp at hx; rcases hx with rfl | rfl <;> rfl) (by decide) (by unfold maxLen; omega) (by omega) (by have := B7.out.size; have : (wr.alloc (.cells #[.int .u8 sg, .string t] 82)).drew.heap.size = (wr.alloc (.cells #[.int .u8 sg, .string t] 82)).heap.size := rfl; omega) (wr.heap.size + 1) (by simp) ?_; intro g8 c8 w8 hown8 hgrow8 hat8 hlt8
        obtain ⟨hblk8, k2, k3⟩ := KK.out w8 hgrow8
        refine hK.out _ _ ?_ (fun hHeld => ?_)
        · exact k3
        clear hK K
        simp only [Act.put, List.getElem_toArray, List.getElem_cons_zero, List.getElem_cons_succ, List.setIfInBounds_toArray, List.set_cons_zero, List.set_cons_succ]
        refine wpAnyH_take (i := 10) (v := ?_) rfl (by kernel_rfl) (by kernel_rfl) (by kernel_rfl) (fun _ _ _ h => h) (Or.inl ⟨by rfl, ?_⟩) (by assumption) ?_
        rotate_left
        · intro w' hSw
          (try dsimp only at hSw)
          go_simp
          try with_reducible rfl
        simp only [Act.put, List.getElem_toArray, List.getElem_cons_zero, List.getElem_cons_succ, List.setIfInBounds_toArray, List.set_cons_zero, List.set_cons_succ]
        have f8 := Lib.frozen_of_heap hblk8 2
        have hset := blk_set (i := 2) hblk8 (.slice (some ⟨g8, 0, none⟩) (k + 1) c8)
        have HSET : Hid ((w8.setCell ⟨G, 2, none⟩ (.slice (some ⟨g8, 0, none⟩) (k + 1) c8)).heap[G]? = some (.cells #[.int .i64 0, .int .i64 0, .slice (some ⟨g8, 0, none⟩) (k + 1) c8] 80 (0, 0))) := by
          show (w8.setCell ⟨G, 2, none⟩ (.slice (some ⟨g8, 0, none⟩) (k + 1) c8)).heap[G]? = some (.cells #[.int .i64 0, .int .i64 0, .slice (some ⟨g8, 0, none⟩) (k + 1) c8] 80 (0, 0))
          simpa using hset
        have KB : Hid ((w8.setCell ⟨G, 2, none⟩ (.slice (some ⟨g8, 0, none⟩) (k + 1) c8)).cell? ⟨b, off + k, none⟩ = some (.string t)) := by
          show (w8.setCell ⟨G, 2, none⟩ (.slice (some ⟨g8, 0, none⟩) (k + 1) c8)).cell? ⟨b, off + k, none⟩ = some (.string t)
          rw [World.cell?_setCell_other]
          · exact k3
          · intro e; have := congrArg Addr.block e; simp only at this; omega
        clear hset
        refine wpAnyH_ready (rs := [11]) (by kernel_rfl) (by simp) ?_
        refine AllReadyH.cons rfl (fun K hK => ?_) AllReadyH.nil
        go_simp
        refine hK.out _ _ ?_ (fun hHeld => ?_)
        · exact KB.out
        clear hK K
        refine wpAnyH_done (by kernel_rfl) ?_ _
        have hb8 : Below G w w8 := (HBL.out.trans (B7.out.mono (by omega))).grown hgrow8 (by have := B7.out.size; omega) (fun j hj => by have := (HVB.out j hj).1; omega)
        have hg8 : g8 ≠ G := by
          rcases hat8 with h | h
          · have := (HVB.out g8 h).1; omega
          · omega
        have hown9 := own_ne (i := 2) hown8 (G := G) (by simp [Value.ownBlock]; exact hg8) (.slice (some ⟨g8, 0, none⟩) (k + 1) c8)
        have HOWN9 : Hid ((w8.setCell ⟨G, 2, none⟩ (.slice (some ⟨g8, 0, none⟩) (k + 1) c8)).ownsRow (G + 1) 82 2 (.slice (some ⟨g8, 0, none⟩) (k + 1) c8) (k + 1) (mcells ((xs.take (k + 1)).map fun s => (sg, s)))) := by
          show (w8.setCell ⟨G, 2, none⟩ (.slice (some ⟨g8, 0, none⟩) (k + 1) c8)).ownsRow (G + 1) 82 2 (.slice (some ⟨g8, 0, none⟩) (k + 1) c8) (k + 1) (mcells ((xs.take (k + 1)).map fun s => (sg, s)))
          rw [HSN.out, mcells_append, mcells_one]
          exact hown9
        have HB9 : Hid (Below G w (w8.setCell ⟨G, 2, none⟩ (.slice (some ⟨g8, 0, none⟩) (k + 1) c8))) := hb8.setCell (p := ⟨G, 2, none⟩) (Nat.le_refl _) _
        clear hb8 hg8 hown9 hown8 hgrow8 hat8 hlt8 hblk8 k2 k3 f8 KB D2 D2' KK XX HOWN7 HBLK7 HNEWS hHeld
        go_wp2
        go_roundw
        case rel => exact ⟨k + 1, _, by omega, by go_num, HB9.out, HSET.out, HOWN9.out, _, _, _, rfl⟩
        case measure => simp [intOf]; omega
    · obtain rfl : k = q := by omega
      rw [List.take_of_length_le (by have := HQ.out; omega)] at hot
      by_cases hq0 : k = 0
      · have HX : Hid (xs = []) := List.length_eq_zero_iff.1 (by have := HQ.out; omega)
        have HBX : Hid (Below w.heap.size w wr) := hbw
        subst hq0
        clear hbl hbk hot hbw
        go_wp2
        go_ret
        refine ⟨_, rfl, HBX.out, ?_⟩
        rw [HX.out]
        exact HOwn.zero _ _
      · have hq1 : ¬ ((k : Int) = 0) := by omega
        have z0 := Lib.cell_of_heap hbk 0
        have z1 := Lib.cell_of_heap hbk 1
        have z2 := Lib.cell_of_heap hbk 2
        simp at z0 z1 z2
        have HOT : Hid (wr.ownsRow (G + 1) 82 2 (.slice av nv cv) k (mcells (xs.map fun s => (sg, s)))) := hot
        have HBX : Hid (Below w.heap.size w wr) := hbw
        have HGL : Hid (G < wr.heap.size) := hGl
        clear hbl hbk hot hbw
        go_wp2
        go_ret
        have HBY := HBX.out.alloc (by have := HBX.out.size; omega) (.cells #[.int .i64 0, .int .i64 0, .slice av nv cv] 80)
        refine ⟨_, rfl, HBY, ?_⟩
        have hne : xs ≠ [] := fun e => by
          have := HQ.out
          rw [e] at this
          simp at this
          omega
        have e : whl xs sg = [(0, 0, xs.map fun s => (sg, s))] := by unfold whl; rw [if_neg hne]
        have hlen : (xs.map fun s => (sg, s)).length = k := by rw [List.length_map]; exact HQ.out
        have hot := own_later HOT.out (below_alloc wr (.cells #[.int .i64 0, .int .i64 0, .slice av nv cv] 80))
        rw [← hlen] at hot
        obtain ⟨gl, cl', ev, hg1, hg2⟩ := hot.form (by rw [hlen]; omega)
        have hcl : (xs.map fun s => (sg, s)).length ≤ cl' := by
          rcases hot.2 with ⟨e, _⟩ | ⟨_, _, _, e, _, _, h7, _⟩
          · rw [ev] at e; simp at e
          · rw [ev] at e; simp only [Value.slice.injEq] at e; omega
        obtain ⟨a', cap', ea, hmk⟩ := mks_of_own hot
        rw [ev] at ea
        simp only [Value.slice.injEq] at ea
        rw [← ea.1] at hmk
        rw [e]
        refine ⟨[.int .i64 0, .int .i64 0, .slice av nv cv], ⟨rfl, .inr ⟨wr.heap.size, 1, #[.int .i64 0, .int .i64 0, .slice av nv cv], rfl, by have := HBX.out.size; omega, heap_alloc_new wr _, Nat.le_refl _, by decide, rfl, rfl⟩⟩, fun i hi => ?_⟩
        obtain rfl : i = 0 := by simpa using hi
        refine ⟨gl, cl', rfl, rfl, by rw [ev]; rfl, ?_, hg2, hmk, hcl, by rw [HG.out]; omega⟩
        have hgw : gl < wr.heap.size := (HOT.out.lt gl (by rw [ev]; rfl)).2
        simp [Value.ownBlock]
        omega

end Go.Proofs.YtmidbhikhbbpbacDoor
