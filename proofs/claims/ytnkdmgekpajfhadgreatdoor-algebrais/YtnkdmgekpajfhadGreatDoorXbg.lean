/-
  Walk of the document's own answer for all lines of a file as one hunk. Walk of the document's own answer for what is between two trees.
-/
import Derived.Test.YtnkdmgekpajfhadGreatDoorXd
import Derived.Test.YtnkdmgekpajfhadGreatDoorXs
import Derived.Test.YtnkdmgekpajfhadGreatDoorXp
import Derived.Test.YtnkdmgekpajfhadGreatDoorXt
import Derived.Test.YtnkdmgekpajfhadGreatDoorXl
import Derived.Deep.RegionWith

namespace Go.Proofs.YtnkdmgekpajfhadGreatDoor
open Go.RowKit Dist

attribute [local go_sem] Go.wp_at_zero Go.wp_at_succ

theorem whl_snoc (xs : List ByteArray) (k : Nat) (hk : k < xs.length) {t : ByteArray} (ht : xs.getD k ByteArray.empty = t) (sg : Int) : (xs.take (k + 1)).map (fun s => (sg, s)) = (xs.take k).map (fun s => (sg, s)) ++ [(sg, t)] := by
  have e : xs.getD k ByteArray.empty = xs[k] := by simp [hk]
  rw [List.take_succ_eq_append_getElem hk, List.map_append, ← ht, e]; rfl

set_option maxRecDepth 100000 in
set_option maxHeartbeats 4000000 in
theorem refWhole (a : Option Addr) (xs : List ByteArray) (ca : Nat) (sg : Int) (w : World) (ha : Strs w a xs) (hl : xs.length ≤ 60) :
    Calls Tryz.prog 39 #[.slice a xs.length ca, .int .u8 sg] w fun e w' => ∃ v, e = .returned v ∧ Below w.heap.size w w' ∧ HOwn w' w.heap.size v (whl xs sg) := by
  obtain ⟨j0, hj0, hy0, hy1, hy2⟩ := info_parts Tryz.infoMark
  have hb1 := below_alloc w (.cells #[.int .i64 0, .int .i64 0, .slice none 0 0] 57)
  have hblk := heap_alloc_new w (.cells #[.int .i64 0, .int .i64 0, .slice none 0 0] 57)
  obtain ⟨q, hq⟩ : ∃ q, xs.length = q := ⟨_, rfl⟩
  rw [hq] at hl ⊢
  have HQ : Hid (xs.length = q) := hq
  have HA : Hid (Strs w a xs) := ha
  obtain ⟨G, hG⟩ : ∃ G, w.heap.size = G := ⟨_, rfl⟩
  rw [hG] at hb1 hblk
  have HG : Hid (w.heap.size = G) := hG
  have HB1 : Hid (Below G w (w.alloc (.cells #[.int .i64 0, .int .i64 0, .slice none 0 0] 57))) := hb1
  have HBK : Hid ((w.alloc (.cells #[.int .i64 0, .int .i64 0, .slice none 0 0] 57)).heap[G]? = some (.cells #[.int .i64 0, .int .i64 0, .slice none 0 0] 57 (0, 0))) := hblk
  clear ha hq hb1 hblk
  go_enter Tryz.func39, Tryz.ntmps39
  go_wp2
  clear hG
  go_loopw [6] (fun j w1 => ∃ (k : Nat) (v : Value), k ≤ q ∧ j = .int .i64 k ∧ Below G w w1 ∧ w1.heap[G]? = some (.cells #[.int .i64 0, .int .i64 0, v] 57 (0, 0)) ∧ w1.ownsRow (G + 1) 97 2 v k (mcells ((xs.take k).map fun s => (sg, s))) ∧ ∃ av nv cv, v = .slice av nv cv) (fun j _ => q - (intOf j).toNat)
  case atStart => exact ⟨0, _, Nat.zero_le _, rfl, HB1.out, HBK.out, ⟨rfl, Or.inl ⟨rfl, rfl⟩⟩, none, 0, 0, rfl⟩
  case round =>
    obtain ⟨k, v, hk, rfl, hbl, hbk, hot, av, nv, cv, rfl⟩ := hrel
    have hbw : Below w.heap.size w wr := by rw [HG.out]; exact hbl
    have hGl : G < wr.heap.size := by
      by_cases e : G < wr.heap.size
      · exact e
      · rw [Array.getElem?_eq_none (by omega)] at hbk; cases hbk
    by_cases hlt : k < q
    · have hkx : k < xs.length := by rw [HQ.out]; exact hlt
      obtain ⟨b, off, ea, hx1⟩ := HA.out k hkx
      subst ea
      have hbB : b < G := by rw [← HG.out]; exact World.block_lt_of_cell? _ _ hx1
      obtain ⟨t, ht⟩ : ∃ t, xs.getD k ByteArray.empty = t := ⟨_, rfl⟩
      have HSN : Hid ((xs.take (k + 1)).map (fun s => (sg, s)) = (xs.take k).map (fun s => (sg, s)) ++ [(sg, t)]) := whl_snoc xs k hkx ht sg
      rw [ht] at hx1
      have XX : Hid (∀ w', Below wr.heap.size wr w' → w'.cell? ⟨b, off + k, none⟩ = some (.string t)) := fun w' h => cell_later (hbw.trans (h.mono hbw.size)) hx1
      have hbd : Below wr.heap.size wr wr.drew := ⟨rfl, rfl, rfl, Nat.le_refl _, fun _ _ => rfl⟩
      have hb7 : Below wr.heap.size wr (wr.alloc (.cells #[.int .u8 sg, .string t] 97)).drew := (below_alloc wr (.cells #[.int .u8 sg, .string t] 97)).trans (⟨rfl, rfl, rfl, by simp, fun _ _ => rfl⟩)
      have BB : Hid (Below wr.heap.size wr wr.drew) := hbd
      have B7 : Hid (Below wr.heap.size wr (wr.alloc (.cells #[.int .u8 sg, .string t] 97)).drew) := hb7
      have HOWN7 : Hid ((wr.alloc (.cells #[.int .u8 sg, .string t] 97)).drew.ownsRow (G + 1) 97 2 (.slice av nv cv) k (mcells ((xs.take k).map fun s => (sg, s)))) := own_later hot hb7
      have hblk7 := blk_below hb7 hGl hbk
      have HBLK7 : Hid ((wr.alloc (.cells #[.int .u8 sg, .string t] 97)).drew.heap[G]? = some (.cells #[.int .i64 0, .int .i64 0, .slice av nv cv] 57 (0, 0))) := hblk7
      have HNEWS : Hid (∀ j u, ([.int .u8 sg, .string t] : List Value)[j]? = some u → (wr.alloc (.cells #[.int .u8 sg, .string t] 97)).drew.cell? ((⟨wr.heap.size, 0, none⟩ : Addr).add j) = some u) := cell_two_new wr (.int .u8 sg) (.string t) 97
      have HVB : Hid (∀ y, (Value.slice av nv cv).ownBlock = some y → G + 1 ≤ y ∧ y < wr.heap.size) := fun y hy => hot.lt y hy
      have KK : Hid (∀ w8, (wr.alloc (.cells #[.int .u8 sg, .string t] 97)).drew.grownBy w8 (Value.slice av nv cv).ownBlock → w8.heap[G]? = some (.cells #[.int .i64 0, .int .i64 0, .slice av nv cv] 57 (0, 0)) ∧ w8.cell? ⟨G, 2, none⟩ = some (.slice av nv cv) ∧ w8.cell? ⟨b, off + k, none⟩ = some (.string t)) := fun w8 hg => by
        have k1 : w8.heap[G]? = some (.cells #[.int .i64 0, .int .i64 0, .slice av nv cv] 57 (0, 0)) := (hg.block G (by have := hb7.size; omega) (fun e => by have := (HVB.out G e.symm).1; omega)).trans HBLK7.out
        exact ⟨k1, by rw [Lib.cell_of_heap k1]; rfl, hg.cell (XX.out _ B7.out) (fun e => by have := (HVB.out b e.symm).1; omega)⟩
      have D2 : Hid (wr.cell? ⟨G, 2, none⟩ = some (.slice av nv cv)) := by show wr.cell? ⟨G, 2, none⟩ = some (.slice av nv cv); rw [Lib.cell_of_heap hbk]; rfl
      have D2' : Hid ((wr.alloc (.cells #[.int .u8 sg, .string t] 97)).cell? ⟨G, 2, none⟩ = some (.slice av nv cv)) := by show (wr.alloc (.cells #[.int .u8 sg, .string t] 97)).cell? ⟨G, 2, none⟩ = some (.slice av nv cv); exact (show (wr.alloc (.cells #[.int .u8 sg, .string t] 97)).drew.cell? ⟨G, 2, none⟩ = some (.slice av nv cv) by rw [Lib.cell_of_heap hblk7]; rfl)
      have HBL : Hid (Below G w wr) := hbl
      have hkq : k ≤ 60 := by omega
      clear ht hkx hx1 hbl hbk hot hbw hblk7 hb7 hbd
      go_wp2
      refine wp_region_held_drew (S := fun w' => w'.cell? ⟨b, off + k, none⟩ = some (.string t)) (by kernel_rfl) ?_ (fun hHeld => ?_)
      · exact XX.out _ BB.out
      refine wpAnyH_take (i := 0) (v := ?_) rfl (by kernel_rfl) (by kernel_rfl) (by kernel_rfl) (fun _ _ _ h => h) (Or.inl ⟨by rfl, ?_⟩) (by assumption) ?_
      rotate_left
      · intro w' hSw
        (try dsimp only at hSw)
        go_simp
        try with_reducible rfl
      simp only [Act.put, List.getElem_toArray, List.getElem_cons_zero, List.setIfInBounds_toArray, List.set_cons_zero, List.set_cons_succ]
      refine wpAnyH_take (i := 2) (v := ?_) rfl (by kernel_rfl) (by kernel_rfl) (by kernel_rfl) (fun _ _ _ h => h) (Or.inl ⟨by rfl, ?_⟩) (by assumption) ?_
      rotate_left
      · intro w' hSw
        (try dsimp only at hSw)
        go_simp
        try with_reducible rfl
      simp only [Act.put, List.getElem_toArray, List.getElem_cons_zero, List.getElem_cons_succ, List.setIfInBounds_toArray, List.set_cons_zero, List.set_cons_succ]
      refine wpAnyH_take (i := 3) (v := ?_) rfl (by kernel_rfl) (by kernel_rfl) (by kernel_rfl) (fun _ _ _ h => h) (Or.inl ⟨by rfl, ?_⟩) (by assumption) ?_
      rotate_left
      · intro w' hSw
        (try dsimp only at hSw)
        go_simp
        try with_reducible rfl
      simp only [Act.put, List.getElem_toArray, List.getElem_cons_zero, List.getElem_cons_succ, List.setIfInBounds_toArray, List.set_cons_zero, List.set_cons_succ]
      refine wpAnyH_take (i := 4) (v := ?_) rfl (by kernel_rfl) (by kernel_rfl) (by kernel_rfl) (fun _ _ _ h => h) (Or.inl ⟨by rfl, ?_⟩) (by assumption) ?_
      rotate_left
      · intro w' hSw
        (try dsimp only at hSw)
        go_simp
        try with_reducible rfl
      simp only [Act.put, List.getElem_toArray, List.getElem_cons_zero, List.getElem_cons_succ, List.setIfInBounds_toArray, List.set_cons_zero, List.set_cons_succ]
      refine wpAnyH_take (i := 5) (v := ?_) rfl (by kernel_rfl) (by kernel_rfl) (by kernel_rfl) (fun _ _ _ h => h) (Or.inl ⟨by rfl, ?_⟩) (by assumption) ?_
      rotate_left
      · intro w' hSw
        (try dsimp only at hSw)
        go_simp
        try first | (rw [if_pos (by omega)]) | (with_reducible rfl)
      simp only [Act.put, List.getElem_toArray, List.getElem_cons_zero, List.getElem_cons_succ, List.setIfInBounds_toArray, List.set_cons_zero, List.set_cons_succ]
      refine wpAnyH_take (i := 6) (v := ?_) rfl (by kernel_rfl) (by kernel_rfl) (by kernel_rfl) (fun _ _ _ h => h) (Or.inl ⟨by rfl, ?_⟩) (by assumption) ?_
      rotate_left
      · intro w' hSw
        (try dsimp only at hSw)
        go_simp
        try with_reducible rfl
      simp only [Act.put, List.getElem_toArray, List.getElem_cons_zero, List.getElem_cons_succ, List.setIfInBounds_toArray, List.set_cons_zero, List.set_cons_succ]
      refine wpAnyH_take (i := 7) (v := ?_) rfl (by kernel_rfl) (by kernel_rfl) (by kernel_rfl) (fun _ _ _ h => h) (Or.inl ⟨by rfl, ?_⟩) (by assumption) ?_
      rotate_left
      · intro w' hSw
        (try dsimp only at hSw)
        go_simp
        try with_reducible rfl
      simp only [Act.put, List.getElem_toArray, List.getElem_cons_zero, List.getElem_cons_succ, List.setIfInBounds_toArray, List.set_cons_zero, List.set_cons_succ]
      refine wpAnyH_ready (rs := [1, 8]) (by kernel_rfl) (by simp) ?_
      refine AllReadyH.cons rfl (fun K hK => ?_) (AllReadyH.cons rfl (fun K hK => ?_) AllReadyH.nil)
      case' refine_1 =>
        have d2 := D2.out
        go_simp
        refine hK.out _ _ ?_ (fun hHeld => ?_)
        · exact XX.out _ BB.out
        clear hK K
        refine wpAnyH_ready (rs := [8]) (by kernel_rfl) (by simp) ?_
        refine AllReadyH.cons rfl (fun K hK => ?_) AllReadyH.nil
        go_simp
        refine hK.out _ _ ?_ (fun hHeld => ?_)
        · exact XX.out _ B7.out
        clear hK K
      case' refine_2 =>
        go_simp
        refine hK.out _ _ ?_ (fun hHeld => ?_)
        · exact XX.out _ B7.out
        clear hK K
        have d2 := D2'.out
        refine wpAnyH_ready (rs := [1]) (by kernel_rfl) (by simp) ?_
        refine AllReadyH.cons rfl (fun K hK => ?_) AllReadyH.nil
        go_simp
        refine hK.out _ _ ?_ (fun hHeld => ?_)
        · exact XX.out _ B7.out
        clear hK K
      all_goals
        refine wpAnyH_ready (rs := [9]) (by kernel_rfl) (by simp) ?_
        refine AllReadyH.cons rfl (fun K hK => ?_) AllReadyH.nil
        refine step_append_lies _ (by rfl) _ _ 55 (by rfl) (G + 1) 97 j0 (.agg #[.int .u8 0, .string ByteArray.empty]) 2 24 Tryz.underlying55 hj0 hy0 hy1 hy2 rfl (by decide) _ _ _ (by rfl) HOWN7.out ⟨wr.heap.size, 0, none⟩ 1 1 [.int .u8 sg, .string t] (by rfl) rfl HNEWS.out (fun x hx => by simp at hx; rcases hx with rfl | rfl <;> rfl) (by decide) (by unfold maxLen; omega) (by omega) (by have := B7.out.size; have : (wr.alloc (.cells #[.int .u8 sg, .string t] 97)).drew.heap.size = (wr.alloc (.cells #[.int .u8 sg, .string t] 97)).heap.size := rfl; omega) (wr.heap.size + 1) (by simp) ?_; intro g8 c8 w8 hown8 hgrow8 hat8 hlt8
        obtain ⟨hblk8, k2, k3⟩ := KK.out w8 hgrow8
        refine hK.out _ _ ?_ (fun hHeld => ?_)
        · exact k3
        clear hK K
        simp only [Act.put, List.getElem_toArray, List.getElem_cons_zero, List.getElem_cons_succ, List.setIfInBounds_toArray, List.set_cons_zero, List.set_cons_succ]
        refine wpAnyH_take (i := 10) (v := ?_) rfl (by kernel_rfl) (by kernel_rfl) (by kernel_rfl) (fun _ _ _ h => h) (Or.inl ⟨by rfl, ?_⟩) (by assumption) ?_
        rotate_left
        · intro w' hSw
          (try dsimp only at hSw)
          go_simp
          try with_reducible rfl
        simp only [Act.put, List.getElem_toArray, List.getElem_cons_zero, List.getElem_cons_succ, List.setIfInBounds_toArray, List.set_cons_zero, List.set_cons_succ]
        have f8 := Lib.frozen_of_heap hblk8 2
        have hset := blk_set (i := 2) hblk8 (.slice (some ⟨g8, 0, none⟩) (k + 1) c8)
        have HSET : Hid ((w8.setCell ⟨G, 2, none⟩ (.slice (some ⟨g8, 0, none⟩) (k + 1) c8)).heap[G]? = some (.cells #[.int .i64 0, .int .i64 0, .slice (some ⟨g8, 0, none⟩) (k + 1) c8] 57 (0, 0))) := by
          show (w8.setCell ⟨G, 2, none⟩ (.slice (some ⟨g8, 0, none⟩) (k + 1) c8)).heap[G]? = some (.cells #[.int .i64 0, .int .i64 0, .slice (some ⟨g8, 0, none⟩) (k + 1) c8] 57 (0, 0))
          simpa using hset
        have KB : Hid ((w8.setCell ⟨G, 2, none⟩ (.slice (some ⟨g8, 0, none⟩) (k + 1) c8)).cell? ⟨b, off + k, none⟩ = some (.string t)) := by
          show (w8.setCell ⟨G, 2, none⟩ (.slice (some ⟨g8, 0, none⟩) (k + 1) c8)).cell? ⟨b, off + k, none⟩ = some (.string t)
          rw [World.cell?_setCell_other]
          · exact k3
          · intro e; have := congrArg Addr.block e; simp only at this; omega
        clear hset
        refine wpAnyH_ready (rs := [11]) (by kernel_rfl) (by simp) ?_
        refine AllReadyH.cons rfl (fun K hK => ?_) AllReadyH.nil
        go_simp
        refine hK.out _ _ ?_ (fun hHeld => ?_)
        · exact KB.out
        clear hK K
        refine wpAnyH_done (by kernel_rfl) ?_ _
        have hb8 : Below G w w8 := (HBL.out.trans (B7.out.mono (by omega))).grown hgrow8 (by have := B7.out.size; omega) (fun j hj => by have := (HVB.out j hj).1; omega)
        have hg8 : g8 ≠ G := by
          rcases hat8 with h | h
          · have := (HVB.out g8 h).1; omega
          · omega
        have hown9 := own_ne (i := 2) hown8 (G := G) (by simp [Value.ownBlock]; exact hg8) (.slice (some ⟨g8, 0, none⟩) (k + 1) c8)
        have HOWN9 : Hid ((w8.setCell ⟨G, 2, none⟩ (.slice (some ⟨g8, 0, none⟩) (k + 1) c8)).ownsRow (G + 1) 97 2 (.slice (some ⟨g8, 0, none⟩) (k + 1) c8) (k + 1) (mcells ((xs.take (k + 1)).map fun s => (sg, s)))) := by
          show (w8.setCell ⟨G, 2, none⟩ (.slice (some ⟨g8, 0, none⟩) (k + 1) c8)).ownsRow (G + 1) 97 2 (.slice (some ⟨g8, 0, none⟩) (k + 1) c8) (k + 1) (mcells ((xs.take (k + 1)).map fun s => (sg, s)))
          rw [HSN.out, mcells_append, mcells_one]
          exact hown9
        have HB9 : Hid (Below G w (w8.setCell ⟨G, 2, none⟩ (.slice (some ⟨g8, 0, none⟩) (k + 1) c8))) := hb8.setCell (p := ⟨G, 2, none⟩) (Nat.le_refl _) _
        clear hb8 hg8 hown9 hown8 hgrow8 hat8 hlt8 hblk8 k2 k3 f8 KB D2 D2' KK XX HOWN7 HBLK7 HNEWS hHeld
        go_wp2
        go_roundw
        case rel => exact ⟨k + 1, _, by omega, by go_num, HB9.out, HSET.out, HOWN9.out, _, _, _, rfl⟩
        case measure => simp [intOf]; omega
    · obtain rfl : k = q := by omega
      rw [List.take_of_length_le (by have := HQ.out; omega)] at hot
      by_cases hq0 : k = 0
      · have HX : Hid (xs = []) := List.length_eq_zero_iff.1 (by have := HQ.out; omega)
        have HBX : Hid (Below w.heap.size w wr) := hbw
        subst hq0
        clear hbl hbk hot hbw
        go_wp2
        go_ret
        refine ⟨_, rfl, HBX.out, ?_⟩
        rw [HX.out]
        exact HOwn.zero _ _
      · have hq1 : ¬ ((k : Int) = 0) := by omega
        have z0 := Lib.cell_of_heap hbk 0
        have z1 := Lib.cell_of_heap hbk 1
        have z2 := Lib.cell_of_heap hbk 2
        simp at z0 z1 z2
        have HOT : Hid (wr.ownsRow (G + 1) 97 2 (.slice av nv cv) k (mcells (xs.map fun s => (sg, s)))) := hot
        have HBX : Hid (Below w.heap.size w wr) := hbw
        have HGL : Hid (G < wr.heap.size) := hGl
        clear hbl hbk hot hbw
        go_wp2
        go_ret
        have HBY := HBX.out.alloc (by have := HBX.out.size; omega) (.cells #[.int .i64 0, .int .i64 0, .slice av nv cv] 57)
        refine ⟨_, rfl, HBY, ?_⟩
        have hne : xs ≠ [] := fun e => by
          have := HQ.out
          rw [e] at this
          simp at this
          omega
        have e : whl xs sg = [(0, 0, xs.map fun s => (sg, s))] := by unfold whl; rw [if_neg hne]
        have hlen : (xs.map fun s => (sg, s)).length = k := by rw [List.length_map]; exact HQ.out
        have hot := own_later HOT.out (below_alloc wr (.cells #[.int .i64 0, .int .i64 0, .slice av nv cv] 57))
        rw [← hlen] at hot
        obtain ⟨gl, cl', ev, hg1, hg2⟩ := hot.form (by rw [hlen]; omega)
        have hcl : (xs.map fun s => (sg, s)).length ≤ cl' := by
          rcases hot.2 with ⟨e, _⟩ | ⟨_, _, _, e, _, _, h7, _⟩
          · rw [ev] at e; simp at e
          · rw [ev] at e; simp only [Value.slice.injEq] at e; omega
        obtain ⟨a', cap', ea, hmk⟩ := mks_of_own hot
        rw [ev] at ea
        simp only [Value.slice.injEq] at ea
        rw [← ea.1] at hmk
        rw [e]
        refine ⟨[.int .i64 0, .int .i64 0, .slice av nv cv], ⟨rfl, .inr ⟨wr.heap.size, 1, #[.int .i64 0, .int .i64 0, .slice av nv cv], rfl, by have := HBX.out.size; omega, heap_alloc_new wr _, Nat.le_refl _, by decide, rfl, rfl⟩⟩, fun i hi => ?_⟩
        obtain rfl : i = 0 := by simpa using hi
        refine ⟨gl, cl', rfl, rfl, by rw [ev]; rfl, ?_, hg2, hmk, hcl, by rw [HG.out]; omega⟩
        have hgw : gl < wr.heap.size := (HOT.out.lt gl (by rw [ev]; rfl)).2
        simp [Value.ownBlock]
        omega

end Go.Proofs.YtnkdmgekpajfhadGreatDoor

namespace Go.Proofs.YtnkdmgekpajfhadGreatDoor
open Go.RowKit Dist

/-- Where a path is, and its lines. -/
theorem plc_lk {l : List Fl} (h : Ris l) (p : ByteArray) : (look l p = none → plc l p = -1) ∧ (∀ ls, look l p = some ls → ∃ i : Nat, i < l.length ∧ plc l p = i ∧ l.getD i fz = (p, ls)) := by
  have hp := h.plc p
  constructor
  · intro hn
    rw [look_none] at hn
    rw [hp, if_pos hn]
  · intro ls hs
    have hne : eqs l p ≠ [] := fun e => by rw [look_none.2 e] at hs; cases hs
    obtain ⟨_, h2, h3, h4⟩ := h.drop_more hne
    refine ⟨pl l p, h2, by rw [hp, if_neg hne], ?_⟩
    have : (l.getD (pl l p) fz).2 = ls := by
      unfold look at hs
      rw [h4] at hs
      simpa using hs
    exact Prod.ext h3 this

/-- The first changes of all. -/
def dfU (a b : List Fl) (n : Nat) (l : List Fl) : List Ch := l.filterMap fun f => dfc (look a f.1) (look b f.1) f.1 n

theorem dfU_snoc (a b : List Fl) (n : Nat) (l : List Fl) (k : Nat) (hk : k < l.length) {p : ByteArray} (hp : (l.getD k fz).1 = p) : dfU a b n (l.take (k + 1)) = dfU a b n (l.take k) ++ (dfc (look a p) (look b p) p n).toList := by
  have e : l.getD k fz = l[k] := by simp [hk]
  unfold dfU
  rw [List.take_succ_eq_append_getElem hk, List.filterMap_append, ← e]
  congr 1
  rw [← hp]
  cases h : dfc (look a (l.getD k fz).1) (look b (l.getD k fz).1) (l.getD k fz).1 n with
  | none => rw [List.filterMap_cons, h]; rfl
  | some c => rw [List.filterMap_cons, h]; rfl

theorem dfU_len (a b : List Fl) (n : Nat) (l : List Fl) : (dfU a b n l).length ≤ l.length := List.length_filterMap_le _ _

/-- All paths, one more. -/
theorem all_snoc (a m : List Fl) (k : Nat) (hk : k < m.length) {f : Fl} (hf : m.getD k fz = f) : allM a (m.take (k + 1)) = putM (allM a (m.take k)) f := by
  have e : m.getD k fz = m[k] := by simp [hk]
  unfold allM
  rw [List.take_succ_eq_append_getElem hk, List.foldl_append, ← hf, e]; rfl

set_option maxRecDepth 100000 in
set_option maxHeartbeats 8000000 in
theorem refDiff (aa ab : Option Addr) (l m : List Fl) (ca cb n : Nat) (w : World) (ha : Fls w aa l) (hb : Fls w ab m) (hca : l.length ≤ ca) (hl : (tf l).2 = 0) (hm : (tf m).2 = 0) (hn : n ≤ 1000) :
    Calls Tryz.prog 14 #[.slice aa l.length ca, .slice ab m.length cb, .int .i64 n] w fun e w' => ∃ a' c', e = .returned (.slice a' (dfP l m n).length c') ∧ Below w.heap.size w w' ∧ Chs w' a' (dfP l m n) := by
  obtain ⟨i0, hi0, hz0, hz1, hz2⟩ := info_parts Tryz.infoChange
  obtain ⟨l8, lris, lok⟩ := tf_zero hl
  obtain ⟨m8, mris, mok⟩ := tf_zero hm
  obtain ⟨nl, hnl⟩ : ∃ x, l.length = x := ⟨_, rfl⟩
  obtain ⟨nm, hnm⟩ : ∃ x, m.length = x := ⟨_, rfl⟩
  have HNL : Hid (l.length = nl) := hnl
  have HNM : Hid (m.length = nm) := hnm
  have HA : Hid (Fls w aa l) := ha
  have HBB : Hid (Fls w ab m) := hb
  have HLR : Hid (Ris l) := lris
  have HMR : Hid (Ris m) := mris
  have HLO : Hid (∀ x ∈ l, fOne x = 0) := lok
  have HMO : Hid (∀ x ∈ m, fOne x = 0) := mok
  have HL8 : Hid (l.length ≤ 8) := l8
  have HM8 : Hid (m.length ≤ 8) := m8
  have HCA : Hid (l.length ≤ ca) := hca
  have HAL : Hid (∀ k, (allM l (m.take k)).length ≤ 16) := fun k => by
    have h1 := all_length lris (m.take k)
    have h2 : (m.take k).length ≤ m.length := by rw [List.length_take]; omega
    omega
  have HAR : Hid (∀ k, Ris (allM l (m.take k))) := fun k => all_ris lris _
  rw [hnl, hnm]
  have hm8 : nm ≤ 8 := by omega
  obtain ⟨B1, hB1⟩ : ∃ B, w.heap.size = B := ⟨_, rfl⟩
  have HB1 : Hid (w.heap.size = B1) := hB1
  clear ha hb lris mris lok mok l8 m8 hca hl hm hnl hnm hB1
  go_enter Tryz.func14, Tryz.ntmps14
  go_wp2
  go_loopw [7, 8] (fun v i w1 => ∃ (k : Nat) (a1 : Option Addr) (c1 : Nat), k ≤ nm ∧ i = .int .i64 k ∧ v = .slice a1 (allM l (m.take k)).length c1 ∧ Below B1 w w1 ∧ Fls w1 a1 (allM l (m.take k)) ∧ (allM l (m.take k)).length ≤ c1) (fun _ i _ => nm - (intOf i).toNat)
  case atStart => exact ⟨0, aa, ca, Nat.zero_le _, rfl, by rw [← HNL.out]; rfl, Below.refl _ _, HA.out, HCA.out⟩
  case round =>
    obtain ⟨k, a1, c1, hk, rfl, rfl, hbl, hfl, hc1⟩ := hrel
    have hbw : Below w.heap.size w wr := by rw [HB1.out]; exact hbl
    by_cases hlt : k < nm
    · have hkm : k < m.length := by rw [HNM.out]; exact hlt
      obtain ⟨b2, o2, e2⟩ := HBB.out.addr hkm
      subst e2
      obtain ⟨am, cm, x1, x2, xs0, xcm⟩ := HBB.out.at hkm
      replace x1 := cell_later hbw x1
      replace x2 := cell_later hbw x2
      replace xs0 := xs0.below hbw
      obtain ⟨px, hpx⟩ : ∃ q, (m.getD k fz).1 = q := ⟨_, rfl⟩
      obtain ⟨ls, hls⟩ : ∃ q, (m.getD k fz).2 = q := ⟨_, rfl⟩
      have HSN : Hid (allM l (m.take (k + 1)) = putM (allM l (m.take k)) (px, ls)) := all_snoc l m k hkm (getD_eta2 m k hpx hls)
      rw [hpx] at x1
      rw [hls] at x2 xs0 xcm
      have hpu := putRefC a1 (allM l (m.take k)) c1 px am ls cm wr hfl (HAR.out k) (by have := HAL.out k; omega) xs0 xcm
      rw [← HSN.out] at hpu
      obtain ⟨nT, hnT⟩ : ∃ x, (allM l (m.take k)).length = x := ⟨_, rfl⟩
      obtain ⟨nx, hnx⟩ : ∃ x, ls.length = x := ⟨_, rfl⟩
      rw [hnT, hnx] at hpu
      rw [hnx] at x2
      rw [hnT]
      have HBL : Hid (Below B1 w wr) := hbl
      have hsz : B1 ≤ wr.heap.size := by have := hbl.size; have := HB1.out; omega
      clear hbl hbw hfl hc1 hkm hpx hls xs0 xcm hnT hnx
      go_wp2_with (go_at_call 37; refine hpu.mono ?_)
      rintro e w3 ⟨g3, c3, rfl, f3, hc3, hb3⟩
      have HB3 : Hid (Below B1 w w3) := HBL.out.trans (hb3.mono hsz)
      have HF3 : Hid (Fls w3 g3 (allM l (m.take (k + 1)))) := f3
      have HC3 : Hid ((allM l (m.take (k + 1))).length ≤ c3) := hc3
      clear hpu f3 hc3 hb3
      go_wp2
      go_roundw
      case rel => exact ⟨k + 1, g3, c3, by omega, by go_num, rfl, HB3.out, HF3.out, HC3.out⟩
      case measure => simp [intOf]; omega
    · obtain rfl : nm = k := by omega
      obtain ⟨w2, hw2⟩ : ∃ w2, w2 = wr := ⟨_, rfl⟩
      rw [← hw2] at hbl hbw hfl
      rw [← hw2]
      obtain ⟨T, hT⟩ : ∃ T, allM l (m.take nm) = T := ⟨_, rfl⟩
      have HTM : Hid (T = allM l m) := by rw [← hT, List.take_of_length_le (by have := HNM.out; omega)]; rfl
      have HTL : Hid (T.length ≤ 16) := by rw [← hT]; exact HAL.out nm
      rw [hT] at hfl hc1
      rw [hT]
      obtain ⟨nT, hnT⟩ : ∃ x, T.length = x := ⟨_, rfl⟩
      have HNT : Hid (T.length = nT) := hnT
      rw [hnT]
      have HFT : Hid (Fls w2 a1 T) := hfl
      have HA2 : Hid (Fls w2 aa l) := HA.out.below hbw
      have HB2 : Hid (Fls w2 ab m) := HBB.out.below hbw
      have HBW : Hid (Below w.heap.size w w2) := hbw
      obtain ⟨B, hB⟩ : ∃ B, w2.heap.size = B := ⟨_, rfl⟩
      have HB : Hid (w2.heap.size = B) := hB
      have hT16 : nT ≤ 16 := by have := HTL.out; omega
      clear hbl hbw hfl hc1 hw2 hT hnT hB HAL HAR HA HBB HCA hlt
      go_wp2
      go_loopw [9, 10] (fun v i w3 => ∃ j : Nat, j ≤ nT ∧ i = .int .i64 j ∧ Below B w2 w3 ∧ DOwn w3 B v (dfU l m n (T.take j))) (fun _ i _ => nT - (intOf i).toNat)
      case atStart => exact ⟨0, Nat.zero_le _, rfl, Below.refl _ _, DOwn.zero _ _⟩
      case round =>
        obtain ⟨k, hk, rfl, hbl, hdo⟩ := hrel
        have hbw : Below w2.heap.size w2 wr := by rw [HB.out]; exact hbl
        by_cases hlt : k < nT
        · have hkT : k < T.length := by rw [HNT.out]; exact hlt
          have hft := HFT.out
          obtain ⟨b1, o1, e1⟩ := hft.addr hkT
          subst e1
          obtain ⟨_, _, x1, _⟩ := hft.at hkT
          replace x1 := cell_later hbw x1
          obtain ⟨px, hpx⟩ : ∃ q, (T.getD k fz).1 = q := ⟨_, rfl⟩
          have HS0 : Hid (dfU l m n (T.take (k + 1)) = dfU l m n (T.take k) ++ (dfc (look l px) (look m px) px n).toList) := dfU_snoc l m n T k hkT hpx
          rw [hpx] at x1
          have hex : ¬ (look l px = none ∧ look m px = none) := fun e => by
            have hm : T.getD k fz ∈ eqs (allM l m) px := mem_eqs.2 ⟨by rw [← HTM.out]; exact mem_getDf hkT, hpx⟩
            rw [(all_mem HLR.out m px).2 ⟨look_none.1 e.1, look_none.1 e.2⟩] at hm
            cases hm
          have hp1 := placeRef aa l ca px wr (HA2.out.below hbw) (by have := HL8.out; unfold maxLen; omega)
          have hp2 := placeRef ab m cb px wr (HB2.out.below hbw) (by have := HM8.out; unfold maxLen; omega)
          rw [HNL.out] at hp1
          rw [HNM.out] at hp2
          have HBL : Hid (Below B w2 wr) := hbl
          have HDO : Hid (DOwn wr B u9 (dfU l m n (T.take k))) := hdo
          have HSZ : Hid (B ≤ wr.heap.size) := by show B ≤ wr.heap.size; have := hbl.size; have := HB.out; omega
          have HLL : Hid ((dfU l m n (T.take k)).length ≤ 16) := by
            show (dfU l m n (T.take k)).length ≤ 16
            have h1 := dfU_len l m n (T.take k)
            rw [List.length_take] at h1
            have := HTL.out
            omega
          clear hft hdo hbl hpx hkT
          cases hlx : look l px with
          | none =>
            cases hly : look m px with
            | none => exact absurd ⟨hlx, hly⟩ hex
            | some ys =>
              rw [(plc_lk HLR.out px).1 hlx] at hp1
              obtain ⟨j, hj, hpj, hgj⟩ := (plc_lk HMR.out px).2 ys hly
              have hfj := HB2.out
              obtain ⟨b2, o2, eaj⟩ := hfj.addr hj
              subst eaj
              obtain ⟨an, cn, _, zj, sj, cj⟩ := hfj.at hj
              rw [hgj] at zj sj cj
              replace zj : w2.cell? ⟨b2, o2 + j * 2 + 1, none⟩ = some (.slice an ys.length cn) := zj
              replace sj : Strs w2 an ys := sj
              have okj := HMO.out _ (mem_getDf hj)
              rw [hgj] at okj
              have l60j : ys.length ≤ 60 := (fOne_small okj).2.1
              have lsfj : lsf (bts ys) = 0 := (fOne_zero okj).2
              replace sj := sj.below hbw
              replace zj := cell_later hbw zj
              rw [hpj] at hp2
              have hwh := refWhole an ys cn 43 wr sj l60j
              have HSN : Hid (dfU l m n (T.take (k + 1)) = dfU l m n (T.take k) ++ [(2, px, whl ys 43)]) := by rw [HS0.out, hlx, hly]; rfl
              obtain ⟨C, hC⟩ : ∃ C, whl ys 43 = C := ⟨_, rfl⟩
              rw [hC] at HSN hwh
              obtain ⟨ny, hny⟩ : ∃ x, ys.length = x := ⟨_, rfl⟩
              rw [hny] at hwh zj
              have hjn : j < nm := by have := HNM.out; omega
              clear hC hny hfj sj cj okj l60j lsfj hgj hpj hj hlx hly hex hbw HS0
              go_wp2_with (go_at_call 38; refine hp1.mono ?_)
              rintro e wq ⟨rfl, hwq⟩
              replace hwq := hwq.symm
              subst hwq
              clear hp1
              go_wp2_with (go_at_call 38; refine hp2.mono ?_)
              rintro e wz ⟨rfl, hwz⟩
              replace hwz := hwz.symm
              subst hwz
              clear hp2
              go_wp2_with (go_at_call 39; refine hwh.mono ?_)
              rintro e w5 ⟨v, rfl, hb5, ho⟩
              clear hwh zj x1
              obtain ⟨av, cv, rfl, _, hcv⟩ := ho.room
              obtain ⟨nC, hnC⟩ : ∃ x, (C).length = x := ⟨_, rfl⟩
              rw [hnC] at ho
              rw [hnC]
              have HO : Hid (HOwn w5 wr.heap.size (.slice av nC cv) (C)) := ho
              have HCV : Hid ((C).length ≤ cv) := hcv
              have HNC : Hid ((C).length = nC) := hnC
              have HBX : Hid (Below B w2 (w5.alloc (.cells #[.int .i64 2, .string px, .slice av nC cv] 40))) := (HBL.out.trans (hb5.mono HSZ.out)).alloc (by have := hb5.size; have := HSZ.out; omega) _
              obtain ⟨xs, hown, hat⟩ := (HDO.out.below hb5).below (below_alloc w5 (.cells #[.int .i64 2, .string px, .slice av nC cv] 40))
              have HAT := hat
              have HLB : Hid (∀ y, u9.ownBlock = some y → B ≤ y ∧ y < wr.heap.size) := fun y hy => by
                obtain ⟨xs1, h1, _⟩ := HDO.out
                exact h1.lt y hy
              have hBw : B ≤ w5.heap.size := by have := hb5.size; have := HSZ.out; omega
              have hll := HLL.out
              clear hat ho hcv hnC hb5
              go_wp2_with (at_builtin; refine wpList_append_own_at _ rfl _ _ 22 rfl B 40 i0 (.agg #[.int .i64 0, .string ByteArray.empty, .slice none 0 0]) 3 48 Tryz.underlying22 hi0 hz0 hz1 hz2 rfl (by decide) _ _ _ rfl hown ⟨w5.heap.size, 0, none⟩ 1 1 [.int .i64 2, .string px, .slice av nC cv] rfl rfl (cell_three_new _ _ _ _ _) (fun x hx => by simp at hx; rcases hx with rfl | rfl | rfl <;> rfl) (by unfold maxLen; omega) (by omega) (by simp; omega) ?_; intro v' w6 hown6 hgrow6 hnil6 hblk6)
              have hb6 : Below B w2 w6 := HBX.out.grown hgrow6 (by simp; omega) (fun j hj => (HLB.out j hj).1)
              have hdo6 : DOwn w6 B v' (dfU l m n (T.take k) ++ [(2, px, C)]) := by
                refine DOwn.snoc (ah := av) (ch := cv) hown HAT (by rw [HNC.out]; exact hown6) hgrow6 hblk6 HCV.out (fun w9 hg9 => ?_)
                have hg8 : Gr w5 w9 u9.ownBlock := hg9.of_below (below_alloc w5 _)
                have h9 := HO.out.gr hg8 (fun r hr => (HLB.out r hr).2)
                obtain ⟨a9, c9, e9, k9, _⟩ := h9.room
                simp only [Value.slice.injEq] at e9
                rw [e9.1]
                exact k9
              have HD6 : Hid (DOwn w6 B v' (dfU l m n (T.take (k + 1)))) := by rw [HSN.out]; exact hdo6
              have HB6 : Hid (Below B w2 w6) := hb6
              clear hb6 hdo6 hown6 hgrow6 hnil6 hblk6 hown HAT HO HCV HNC HBX HLB
              go_wp2
              go_roundw
              case rel => exact ⟨k + 1, by omega, by go_num, HB6.out, HD6.out⟩
              case measure => simp [intOf]; omega
          | some xs =>
            cases hly : look m px with
            | none =>
              rw [(plc_lk HMR.out px).1 hly] at hp2
              obtain ⟨j, hj, hpj, hgj⟩ := (plc_lk HLR.out px).2 xs hlx
              have hfj := HA2.out
              obtain ⟨b2, o2, eaj⟩ := hfj.addr hj
              subst eaj
              obtain ⟨an, cn, _, zj, sj, cj⟩ := hfj.at hj
              rw [hgj] at zj sj cj
              replace zj : w2.cell? ⟨b2, o2 + j * 2 + 1, none⟩ = some (.slice an xs.length cn) := zj
              replace sj : Strs w2 an xs := sj
              have okj := HLO.out _ (mem_getDf hj)
              rw [hgj] at okj
              have l60j : xs.length ≤ 60 := (fOne_small okj).2.1
              have lsfj : lsf (bts xs) = 0 := (fOne_zero okj).2
              replace sj := sj.below hbw
              replace zj := cell_later hbw zj
              rw [hpj] at hp1
              have hwh := refWhole an xs cn 45 wr sj l60j
              have HSN : Hid (dfU l m n (T.take (k + 1)) = dfU l m n (T.take k) ++ [(3, px, whl xs 45)]) := by rw [HS0.out, hlx, hly]; rfl
              obtain ⟨C, hC⟩ : ∃ C, whl xs 45 = C := ⟨_, rfl⟩
              rw [hC] at HSN hwh
              obtain ⟨ny, hny⟩ : ∃ x, xs.length = x := ⟨_, rfl⟩
              rw [hny] at hwh zj
              have hjn : j < nl := by have := HNL.out; omega
              clear hC hny hfj sj cj okj l60j lsfj hgj hpj hj hlx hly hex hbw HS0
              go_wp2_with (go_at_call 38; refine hp1.mono ?_)
              rintro e wq ⟨rfl, hwq⟩
              replace hwq := hwq.symm
              subst hwq
              clear hp1
              go_wp2_with (go_at_call 38; refine hp2.mono ?_)
              rintro e wz ⟨rfl, hwz⟩
              replace hwz := hwz.symm
              subst hwz
              clear hp2
              go_wp2_with (go_at_call 39; refine hwh.mono ?_)
              rintro e w5 ⟨v, rfl, hb5, ho⟩
              clear hwh zj x1
              obtain ⟨av, cv, rfl, _, hcv⟩ := ho.room
              obtain ⟨nC, hnC⟩ : ∃ x, (C).length = x := ⟨_, rfl⟩
              rw [hnC] at ho
              rw [hnC]
              have HO : Hid (HOwn w5 wr.heap.size (.slice av nC cv) (C)) := ho
              have HCV : Hid ((C).length ≤ cv) := hcv
              have HNC : Hid ((C).length = nC) := hnC
              have HBX : Hid (Below B w2 (w5.alloc (.cells #[.int .i64 3, .string px, .slice av nC cv] 40))) := (HBL.out.trans (hb5.mono HSZ.out)).alloc (by have := hb5.size; have := HSZ.out; omega) _
              obtain ⟨xs, hown, hat⟩ := (HDO.out.below hb5).below (below_alloc w5 (.cells #[.int .i64 3, .string px, .slice av nC cv] 40))
              have HAT := hat
              have HLB : Hid (∀ y, u9.ownBlock = some y → B ≤ y ∧ y < wr.heap.size) := fun y hy => by
                obtain ⟨xs1, h1, _⟩ := HDO.out
                exact h1.lt y hy
              have hBw : B ≤ w5.heap.size := by have := hb5.size; have := HSZ.out; omega
              have hll := HLL.out
              clear hat ho hcv hnC hb5
              go_wp2_with (at_builtin; refine wpList_append_own_at _ rfl _ _ 22 rfl B 40 i0 (.agg #[.int .i64 0, .string ByteArray.empty, .slice none 0 0]) 3 48 Tryz.underlying22 hi0 hz0 hz1 hz2 rfl (by decide) _ _ _ rfl hown ⟨w5.heap.size, 0, none⟩ 1 1 [.int .i64 3, .string px, .slice av nC cv] rfl rfl (cell_three_new _ _ _ _ _) (fun x hx => by simp at hx; rcases hx with rfl | rfl | rfl <;> rfl) (by unfold maxLen; omega) (by omega) (by simp; omega) ?_; intro v' w6 hown6 hgrow6 hnil6 hblk6)
              have hb6 : Below B w2 w6 := HBX.out.grown hgrow6 (by simp; omega) (fun j hj => (HLB.out j hj).1)
              have hdo6 : DOwn w6 B v' (dfU l m n (T.take k) ++ [(3, px, C)]) := by
                refine DOwn.snoc (ah := av) (ch := cv) hown HAT (by rw [HNC.out]; exact hown6) hgrow6 hblk6 HCV.out (fun w9 hg9 => ?_)
                have hg8 : Gr w5 w9 u9.ownBlock := hg9.of_below (below_alloc w5 _)
                have h9 := HO.out.gr hg8 (fun r hr => (HLB.out r hr).2)
                obtain ⟨a9, c9, e9, k9, _⟩ := h9.room
                simp only [Value.slice.injEq] at e9
                rw [e9.1]
                exact k9
              have HD6 : Hid (DOwn w6 B v' (dfU l m n (T.take (k + 1)))) := by rw [HSN.out]; exact hdo6
              have HB6 : Hid (Below B w2 w6) := hb6
              clear hb6 hdo6 hown6 hgrow6 hnil6 hblk6 hown HAT HO HCV HNC HBX HLB
              go_wp2
              go_roundw
              case rel => exact ⟨k + 1, by omega, by go_num, HB6.out, HD6.out⟩
              case measure => simp [intOf]; omega
            | some ys =>
              obtain ⟨i, hi, hpi, hgi⟩ := (plc_lk HLR.out px).2 xs hlx
              have hfi := HA2.out
              obtain ⟨b2, o2, eai⟩ := hfi.addr hi
              subst eai
              obtain ⟨an, cn, _, zi, si, ci⟩ := hfi.at hi
              rw [hgi] at zi si ci
              replace zi : w2.cell? ⟨b2, o2 + i * 2 + 1, none⟩ = some (.slice an xs.length cn) := zi
              replace si : Strs w2 an xs := si
              have oki := HLO.out _ (mem_getDf hi)
              rw [hgi] at oki
              have l60i : xs.length ≤ 60 := (fOne_small oki).2.1
              have lsfi : lsf (bts xs) = 0 := (fOne_zero oki).2
              replace si := si.below hbw
              replace zi := cell_later hbw zi
              rw [hpi] at hp1
              obtain ⟨j, hj, hpj, hgj⟩ := (plc_lk HMR.out px).2 ys hly
              have hfj := HB2.out
              obtain ⟨b3, o3, eaj⟩ := hfj.addr hj
              subst eaj
              obtain ⟨ao, co, _, zj, sj, cj⟩ := hfj.at hj
              rw [hgj] at zj sj cj
              replace zj : w2.cell? ⟨b3, o3 + j * 2 + 1, none⟩ = some (.slice ao ys.length co) := zj
              replace sj : Strs w2 ao ys := sj
              have okj := HMO.out _ (mem_getDf hj)
              rw [hgj] at okj
              have l60j : ys.length ≤ 60 := (fOne_small okj).2.1
              have lsfj : lsf (bts ys) = 0 := (fOne_zero okj).2
              replace sj := sj.below hbw
              replace zj := cell_later hbw zj
              rw [hpj] at hp2
              have hff : ff xs ys = 0 := ff_of lsfi lsfj
              have hcf : cf (scr xs ys) n = 0 := by
                rw [scr_cf hff]
                unfold mkf
                rw [if_neg (fun e => e hff), if_neg (by omega)]
              have hdr : Below wr.heap.size wr wr.drew := ⟨rfl, rfl, rfl, Nat.le_refl _, fun _ _ => rfl⟩
              have hsc := refScriptCap an ao xs ys cn co wr.drew (si.below hdr) (sj.below hdr) l60i l60j
              have HCT : Hid (∀ w' a' c', Mks w' a' (scr xs ys) → (scr xs ys).length ≤ c' → Calls Tryz.prog 40 #[.slice a' (scr xs ys).length c', .int .i64 n] w' fun e w'' => ∃ v, e = .returned v ∧ Below w'.heap.size w' w'' ∧ HOwn w'' w'.heap.size v (cut (scr xs ys) n)) := fun w' a' c' h1 h2 => refCut a' (scr xs ys) c' n w' h1 h2 hcf
              have HSN : Hid (cut (scr xs ys) n ≠ [] → dfU l m n (T.take (k + 1)) = dfU l m n (T.take k) ++ [(1, px, cut (scr xs ys) n)]) := fun h => by rw [HS0.out, hlx, hly]; unfold dfc; simp only; rw [if_neg h]; rfl
              have HSN0 : Hid (cut (scr xs ys) n = [] → dfU l m n (T.take (k + 1)) = dfU l m n (T.take k)) := fun h => by rw [HS0.out, hlx, hly]; unfold dfc; simp only; rw [if_pos h]; simp
              obtain ⟨C, hC⟩ : ∃ C, cut (scr xs ys) n = C := ⟨_, rfl⟩
              rw [hC] at HSN HSN0 HCT
              obtain ⟨ks, hks⟩ : ∃ ks, scr xs ys = ks := ⟨_, rfl⟩
              rw [hks] at hsc HCT
              obtain ⟨n3, hn3⟩ : ∃ x, ks.length = x := ⟨_, rfl⟩
              rw [hn3] at hsc HCT
              obtain ⟨nx, hnx⟩ : ∃ x, xs.length = x := ⟨_, rfl⟩
              obtain ⟨ny, hny⟩ : ∃ x, ys.length = x := ⟨_, rfl⟩
              rw [hnx, hny] at hsc
              rw [hnx] at zi
              rw [hny] at zj
              have hin : i < nl := by have := HNL.out; omega
              have hjn : j < nm := by have := HNM.out; omega
              have KS : Hid (∀ w', Below wr.drew.heap.size wr.drew w' → w'.cell? ⟨b2, o2 + i * 2 + 1, none⟩ = some (.slice an nx cn) ∧ w'.cell? ⟨b3, o3 + j * 2 + 1, none⟩ = some (.slice ao ny co)) := fun w' h => ⟨cell_later (hdr.trans h) zi, cell_later (hdr.trans h) zj⟩
              clear hC hks hn3 hnx hny hfi si ci oki l60i lsfi hgi hpi hi hfj sj cj okj l60j lsfj hgj hpj hj hlx hly hex hbw HS0 hff hcf
              go_wp2_with (go_at_call 38; refine hp1.mono ?_)
              rintro e wq ⟨rfl, hwq⟩
              replace hwq := hwq.symm
              subst hwq
              clear hp1
              go_wp2_with (go_at_call 38; refine hp2.mono ?_)
              rintro e wz ⟨rfl, hwz⟩
              replace hwz := hwz.symm
              subst hwz
              clear hp2
              go_wp2
              refine wp_region_held_drew (S := fun w' => w'.cell? ⟨b2, o2 + i * 2 + 1, none⟩ = some (.slice an nx cn) ∧ w'.cell? ⟨b3, o3 + j * 2 + 1, none⟩ = some (.slice ao ny co)) (by kernel_rfl) ?_ (fun hHeld => ?_)
              · exact KS.out _ (Below.refl _ _)
              refine wpAnyH_take (i := 0) (v := ?_) rfl (by kernel_rfl) (by kernel_rfl) (by kernel_rfl) (fun _ _ _ h => h) (Or.inl ⟨by rfl, ?_⟩) (by assumption) ?_
              rotate_left
              · intro w' hSw
                (try dsimp only at hSw)
                go_simp
                try with_reducible rfl
              simp only [Act.put, List.getElem_toArray, List.getElem_cons_zero, List.setIfInBounds_toArray, List.set_cons_zero, List.set_cons_succ]
              refine wpAnyH_take (i := 1) (v := ?_) rfl (by kernel_rfl) (by kernel_rfl) (by kernel_rfl) (fun _ _ _ h => h) (Or.inl ⟨by rfl, ?_⟩) (by assumption) ?_
              rotate_left
              · intro w' hSw
                (try dsimp only at hSw)
                go_simp
                try with_reducible rfl
              simp only [Act.put, List.getElem_toArray, List.getElem_cons_zero, List.getElem_cons_succ, List.setIfInBounds_toArray, List.set_cons_zero, List.set_cons_succ]
              refine wpAnyH_take (i := 2) (v := ?_) rfl (by kernel_rfl) (by kernel_rfl) (by kernel_rfl) (fun _ _ _ h => h) (Or.inl ⟨by rfl, ?_⟩) (by assumption) ?_
              rotate_left
              · intro w' hSw
                (try dsimp only at hSw)
                go_simp
                try first | (rw [if_pos (by omega)]) | (with_reducible rfl)
              simp only [Act.put, List.getElem_toArray, List.getElem_cons_zero, List.getElem_cons_succ, List.setIfInBounds_toArray, List.set_cons_zero, List.set_cons_succ]
              refine wpAnyH_take (i := 3) (v := ?_) rfl (by kernel_rfl) (by kernel_rfl) (by kernel_rfl) (fun _ _ _ h => h) (Or.inl ⟨by rfl, ?_⟩) (by assumption) ?_
              rotate_left
              · intro w' hSw
                (try dsimp only at hSw)
                go_simp
                try with_reducible rfl
              simp only [Act.put, List.getElem_toArray, List.getElem_cons_zero, List.getElem_cons_succ, List.setIfInBounds_toArray, List.set_cons_zero, List.set_cons_succ]
              refine wpAnyH_take (i := 4) (v := ?_) rfl (by kernel_rfl) (by kernel_rfl) (by kernel_rfl) (fun _ _ _ h => h) (Or.inl ⟨by rfl, ?_⟩) (by assumption) ?_
              rotate_left
              · intro w' hSw
                (try dsimp only at hSw)
                go_simp
                try with_reducible rfl
              simp only [Act.put, List.getElem_toArray, List.getElem_cons_zero, List.getElem_cons_succ, List.setIfInBounds_toArray, List.set_cons_zero, List.set_cons_succ]
              refine wpAnyH_take (i := 5) (v := ?_) rfl (by kernel_rfl) (by kernel_rfl) (by kernel_rfl) (fun _ _ _ h => h) (Or.inl ⟨by rfl, ?_⟩) (by assumption) ?_
              rotate_left
              · intro w' hSw
                (try dsimp only at hSw)
                go_simp
                try with_reducible rfl
              simp only [Act.put, List.getElem_toArray, List.getElem_cons_zero, List.getElem_cons_succ, List.setIfInBounds_toArray, List.set_cons_zero, List.set_cons_succ]
              refine wpAnyH_take (i := 6) (v := ?_) rfl (by kernel_rfl) (by kernel_rfl) (by kernel_rfl) (fun _ _ _ h => h) (Or.inl ⟨by rfl, ?_⟩) (by assumption) ?_
              rotate_left
              · intro w' hSw
                (try dsimp only at hSw)
                go_simp
                try with_reducible rfl
              simp only [Act.put, List.getElem_toArray, List.getElem_cons_zero, List.getElem_cons_succ, List.setIfInBounds_toArray, List.set_cons_zero, List.set_cons_succ]
              refine wpAnyH_take (i := 7) (v := ?_) rfl (by kernel_rfl) (by kernel_rfl) (by kernel_rfl) (fun _ _ _ h => h) (Or.inl ⟨by rfl, ?_⟩) (by assumption) ?_
              rotate_left
              · intro w' hSw
                (try dsimp only at hSw)
                go_simp
                try first | (rw [if_pos (by omega)]) | (with_reducible rfl)
              simp only [Act.put, List.getElem_toArray, List.getElem_cons_zero, List.getElem_cons_succ, List.setIfInBounds_toArray, List.set_cons_zero, List.set_cons_succ]
              refine wpAnyH_take (i := 8) (v := ?_) rfl (by kernel_rfl) (by kernel_rfl) (by kernel_rfl) (fun _ _ _ h => h) (Or.inl ⟨by rfl, ?_⟩) (by assumption) ?_
              rotate_left
              · intro w' hSw
                (try dsimp only at hSw)
                go_simp
                try with_reducible rfl
              simp only [Act.put, List.getElem_toArray, List.getElem_cons_zero, List.getElem_cons_succ, List.setIfInBounds_toArray, List.set_cons_zero, List.set_cons_succ]
              refine wpAnyH_take (i := 9) (v := ?_) rfl (by kernel_rfl) (by kernel_rfl) (by kernel_rfl) (fun _ _ _ h => h) (Or.inl ⟨by rfl, ?_⟩) (by assumption) ?_
              rotate_left
              · intro w' hSw
                (try dsimp only at hSw)
                go_simp
                try with_reducible rfl
              simp only [Act.put, List.getElem_toArray, List.getElem_cons_zero, List.getElem_cons_succ, List.setIfInBounds_toArray, List.set_cons_zero, List.set_cons_succ]
              refine wpAnyH_take (i := 11) (v := ?_) rfl (by kernel_rfl) (by kernel_rfl) (by kernel_rfl) (fun _ _ _ h => h) (Or.inl ⟨by rfl, ?_⟩) (by assumption) ?_
              rotate_left
              · intro w' hSw
                (try dsimp only at hSw)
                go_simp
                try with_reducible rfl
              simp only [Act.put, List.getElem_toArray, List.getElem_cons_zero, List.getElem_cons_succ, List.setIfInBounds_toArray, List.set_cons_zero, List.set_cons_succ]
              refine wpAnyH_ready (rs := [10]) (by kernel_rfl) (by simp) ?_
              refine AllReadyH.cons rfl (fun K hK => ?_) AllReadyH.nil
              go_simp
              go_at_call 41; refine hsc.mono ?_; rintro e w4 ⟨a4, c4, rfl, hk4, hb4, hc4⟩
              go_wp2_with fail
              refine hK.out _ _ ?_ (fun hHeld => ?_)
              · exact KS.out _ hb4
              clear hK K
              have hct := HCT.out w4 a4 c4 hk4 hc4
              refine wpAnyH_ready (rs := [12]) (by kernel_rfl) (by simp) ?_
              refine AllReadyH.cons rfl (fun K hK => ?_) AllReadyH.nil
              go_simp
              go_at_call 40; refine hct.mono ?_; rintro e w5 ⟨v, rfl, hb5, ho⟩
              go_wp2_with fail
              refine hK.out _ _ ?_ (fun hHeld => ?_)
              · exact KS.out _ (hb4.trans (hb5.mono hb4.size))
              clear hK K
              refine wpAnyH_take (i := 13) (v := ?_) rfl (by kernel_rfl) (by kernel_rfl) (by kernel_rfl) (fun _ _ _ h => h) (Or.inl ⟨by rfl, ?_⟩) (by assumption) ?_
              rotate_left
              · intro w' hSw
                (try dsimp only at hSw)
                go_simp
                try with_reducible rfl
              simp only [Act.put, List.getElem_toArray, List.getElem_cons_zero, List.getElem_cons_succ, List.setIfInBounds_toArray, List.set_cons_zero, List.set_cons_succ]
              refine wpAnyH_done (by kernel_rfl) ?_ _
              replace hb5 := hdr.trans (hb4.trans (hb5.mono hb4.size))
              replace ho := ho.mono (B' := wr.heap.size) (by have := (hdr.trans hb4).size; exact this)
              clear hct hsc HCT KS hk4 hb4 hc4 hHeld zi zj x1
              obtain ⟨av, cv, rfl, _, hcv⟩ := ho.room
              obtain ⟨nC, hnC⟩ : ∃ x, (C).length = x := ⟨_, rfl⟩
              rw [hnC] at ho
              rw [hnC]
              by_cases hC0 : C = []
              · have HD6 : Hid (DOwn w5 B u9 (dfU l m n (T.take (k + 1)))) := by rw [HSN0.out hC0]; exact HDO.out.below hb5
                have HB6 : Hid (Below B w2 w5) := HBL.out.trans (hb5.mono HSZ.out)
                obtain rfl : nC = 0 := by rw [← hnC, hC0]; rfl
                clear hnC ho hcv hb5 hC0
                go_wp2
                go_roundw
                case rel => exact ⟨k + 1, by omega, by go_num, HB6.out, HD6.out⟩
                case measure => simp [intOf]; omega
              · replace HSN : Hid (dfU l m n (T.take (k + 1)) = dfU l m n (T.take k) ++ [(1, px, C)]) := HSN.out hC0
                have hn0 : (0 : Int) < nC := by
                  have := List.length_pos_iff.2 hC0
                  omega
                clear hC0
                have HO : Hid (HOwn w5 wr.heap.size (.slice av nC cv) (C)) := ho
                have HCV : Hid ((C).length ≤ cv) := hcv
                have HNC : Hid ((C).length = nC) := hnC
                have HBX : Hid (Below B w2 (w5.alloc (.cells #[.int .i64 1, .string px, .slice av nC cv] 40))) := (HBL.out.trans (hb5.mono HSZ.out)).alloc (by have := hb5.size; have := HSZ.out; omega) _
                obtain ⟨xs, hown, hat⟩ := (HDO.out.below hb5).below (below_alloc w5 (.cells #[.int .i64 1, .string px, .slice av nC cv] 40))
                have HAT := hat
                have HLB : Hid (∀ y, u9.ownBlock = some y → B ≤ y ∧ y < wr.heap.size) := fun y hy => by
                  obtain ⟨xs1, h1, _⟩ := HDO.out
                  exact h1.lt y hy
                have hBw : B ≤ w5.heap.size := by have := hb5.size; have := HSZ.out; omega
                have hll := HLL.out
                clear hat ho hcv hnC hb5
                go_wp2_with (at_builtin; refine wpList_append_own_at _ rfl _ _ 22 rfl B 40 i0 (.agg #[.int .i64 0, .string ByteArray.empty, .slice none 0 0]) 3 48 Tryz.underlying22 hi0 hz0 hz1 hz2 rfl (by decide) _ _ _ rfl hown ⟨w5.heap.size, 0, none⟩ 1 1 [.int .i64 1, .string px, .slice av nC cv] rfl rfl (cell_three_new _ _ _ _ _) (fun x hx => by simp at hx; rcases hx with rfl | rfl | rfl <;> rfl) (by unfold maxLen; omega) (by omega) (by simp; omega) ?_; intro v' w6 hown6 hgrow6 hnil6 hblk6)
                have hb6 : Below B w2 w6 := HBX.out.grown hgrow6 (by simp; omega) (fun j hj => (HLB.out j hj).1)
                have hdo6 : DOwn w6 B v' (dfU l m n (T.take k) ++ [(1, px, C)]) := by
                  refine DOwn.snoc (ah := av) (ch := cv) hown HAT (by rw [HNC.out]; exact hown6) hgrow6 hblk6 HCV.out (fun w9 hg9 => ?_)
                  have hg8 : Gr w5 w9 u9.ownBlock := hg9.of_below (below_alloc w5 _)
                  have h9 := HO.out.gr hg8 (fun r hr => (HLB.out r hr).2)
                  obtain ⟨a9, c9, e9, k9, _⟩ := h9.room
                  simp only [Value.slice.injEq] at e9
                  rw [e9.1]
                  exact k9
                have HD6 : Hid (DOwn w6 B v' (dfU l m n (T.take (k + 1)))) := by rw [HSN.out]; exact hdo6
                have HB6 : Hid (Below B w2 w6) := hb6
                clear hb6 hdo6 hown6 hgrow6 hnil6 hblk6 hown HAT HO HCV HNC HBX HLB
                go_wp2
                go_roundw
                case rel => exact ⟨k + 1, by omega, by go_num, HB6.out, HD6.out⟩
                case measure => simp [intOf]; omega
        · obtain rfl : k = nT := by omega
          have hLe : dfU l m n (T.take k) = dfP l m n := by
            rw [List.take_of_length_le (by have := HNT.out; omega), HTM.out]; rfl
          rw [hLe] at hdo
          obtain ⟨av, cv, hv, hch, hcv⟩ := hdo.chs
          subst hv
          have HCH : Hid (Chs wr av (dfP l m n)) := hch
          have HBX : Hid (Below w.heap.size w wr) := HBW.out.trans (hbw.mono HBW.out.size)
          clear hch hcv hdo hbl hbw
          go_wp2
          go_ret
          exact ⟨av, cv, rfl, HBX.out, HCH.out⟩

end Go.Proofs.YtnkdmgekpajfhadGreatDoor
