/-
  Walk of the document's own answer for hunks as a text.
-/
import Derived.Test.YtfmhapajdnmhoafGreatDoorRdc
import Derived.Test.YtfmhapajdnmhoafGreatDoorUbk
import Derived.Test.YtfmhapajdnmhoafGreatDoorRefH
import Derived.Test.YtfmhapajdnmhoafGreatDoorXv
import Derived.Laws.BytesArg
namespace Go.Proofs.YtfmhapajdnmhoafGreatDoor
open Go.RowKit Dist

attribute [local go_sem] Go.wp_at_zero Go.wp_at_succ

theorem conv_one (w : World) (u : UInt8) : (convert 85 9 (.slice (some ⟨w.heap.size, 0, none⟩) 1 1)).run Tryz.prog (w.alloc (.cells #[.int .u8 (u.toNat : Int)] 5)).drew = .ok (.string ⟨#[u]⟩) (w.alloc (.cells #[.int .u8 (u.toNat : Int)] 5)).drew := by
  have hb := heap_alloc_new w (.cells #[.int .u8 (u.toNat : Int)] 5)
  have h := run_convert_bytes_arg (P := Tryz.prog) (w.alloc (.cells #[.int .u8 (u.toNat : Int)] 5)).drew 85 5 Tryz.underlying85 Tryz.underlying5 w.heap.size 0 1 1 [(u.toNat : Int)] rfl (fun i hi => by
    obtain rfl : i = 0 := by omega
    exact Lib.cell_of_heap hb 0) 9 Tryz.underlying9
  rw [h]
  simp [strOfNums]

set_option maxRecDepth 100000 in
set_option maxHeartbeats 2000000 in
theorem refText (a : Option Addr) (l : List Uk) (ca : Nat) (w : World) (ha : Hks w a l) (hf0 : (hf l).2 = 0) :
    Calls Tryz.prog 21 #[.slice a l.length ca] w fun e w' => e = .returned (.string ⟨(prt l).toArray⟩) ∧ Below w.heap.size w w' := by
  have hl := (hf_zero hf0).1
  have hrd := hf_rd hf0
  obtain ⟨n, hn⟩ : ∃ n, l.length = n := ⟨_, rfl⟩
  rw [hn] at hl ⊢
  have HN : Hid (l.length = n) := hn
  have HA : Hid (Hks w a l) := ha
  have HR : Hid (∀ x ∈ l, Rd x ∧ 0 < chg x.2.2 ∧ sf x.2.2 = 0) := hrd
  have HLen : Hid (∀ k, (joinC 10 (lns (l.take k))).length ≤ 14760) := lns_tk_len l hf0
  have HNX : Hid (∀ k, k < l.length → joinC 10 (lns (l.take (k + 1))) = joinC 10 (lns (l.take k)) ++ (hdl (l.getD k (0, 0, [])).1.toNat (ob (l.getD k (0, 0, [])).2.2) (l.getD k (0, 0, [])).2.1.toNat (nb (l.getD k (0, 0, [])).2.2) ++ [10]) ++ joinC 10 ((l.getD k (0, 0, [])).2.2.map mkl)) := lns_tk l
  clear hn ha hrd hf0
  obtain ⟨B, hB⟩ : ∃ B, w.heap.size = B := ⟨_, rfl⟩
  have HB : Hid (w.heap.size = B) := hB
  rw [hB]
  clear hB
  go_enter Tryz.func21, Tryz.ntmps21
  go_wp2
  go_loopw [3, 4] (fun t i w1 => ∃ k : Nat, k ≤ n ∧ i = .int .i64 k ∧ t = .string ⟨(joinC 10 (lns (l.take k))).toArray⟩ ∧ Below B w w1) (fun _ i _ => n - (intOf i).toNat)
  case atStart => exact ⟨0, Nat.zero_le _, rfl, rfl, Below.refl _ _⟩
  case round =>
    obtain ⟨wa, rfl⟩ : ∃ wa, wa = wr := ⟨_, rfl⟩
    obtain ⟨k, hk, rfl, rfl, hbl⟩ := hrel
    by_cases hlt : k < n
    case' neg =>
      obtain rfl : k = n := by omega
      go_wp2
      go_ret
      refine ⟨?_, hbl⟩
      rw [List.take_of_length_le (by rw [HN.out]; exact Nat.le_refl _)]; rfl
    have ha := HA.out
    have hkl : k < l.length := by rw [HN.out]; exact hlt
    obtain ⟨b, off, am, cm, rfl, hc1, hc2, hc3, hmk⟩ := ha.at (i := k) hkl
    clear ha
    have hb' : Below w.heap.size w wa := by rw [HB.out]; exact hbl
    replace hc1 := cell_later hb' hc1
    replace hc2 := cell_later hb' hc2
    replace hc3 := cell_later hb' hc3
    have HMK : Hid (Mks w am (l.getD k (0, 0, [])).2.2) := hmk
    obtain ⟨⟨r1, r2, r3, r4, r5, r6, r7⟩, _, r8⟩ := HR.out _ (mem_getD3 hkl)
    have HSF : Hid (sf (l.getD k (0, 0, [])).2.2 = 0) := r8
    obtain ⟨r8, r9⟩ := sf_zero r8
    have hpl := HLen.out k
    have hnx := HNX.out k hkl
    obtain ⟨o, ho⟩ : ∃ o : Nat, (l.getD k (0, 0, [])).1 = o := ⟨_, (Int.toNat_of_nonneg r1).symm⟩
    obtain ⟨p, hp⟩ : ∃ p : Nat, (l.getD k (0, 0, [])).2.1 = p := ⟨_, (Int.toNat_of_nonneg r3).symm⟩
    obtain ⟨ms, hms⟩ : ∃ ms, (l.getD k (0, 0, [])).2.2 = ms := ⟨_, rfl⟩
    rw [ho] at hc1 r1 r2 hnx
    rw [hp] at hc2 r3 r4 hnx
    rw [hms] at hc3 r5 r6 r7 r8 r9 hnx HMK HSF
    rw [Int.toNat_natCast, Int.toNat_natCast] at hnx
    clear ho hp hms hmk
    have hsp1 := spn_len (a := o) (n := ob ms) (by omega) (by split <;> omega)
    have hsp2 := spn_len (a := p) (n := nb ms) (by omega) (by split <;> omega)
    have HSP1 := fun w => refSpan o (ob ms) w (by omega) (by omega)
    have HSP2 := fun w => refSpan p (nb ms) w (by omega) (by omega)
    obtain ⟨pre, hpre⟩ : ∃ pre, joinC 10 (lns (l.take k)) = pre := ⟨_, rfl⟩
    rw [hpre] at hpl hnx ⊢
    have HNX2 : Hid (joinC 10 (lns (l.take (k + 1))) = pre ++ (hdl o (ob ms) p (nb ms) ++ [10]) ++ joinC 10 (ms.map mkl)) := hnx
    have HDL : Hid (hdl o (ob ms) p (nb ms) = [64, 64, 32, 45] ++ (spn o (ob ms) ++ (32 :: 43 :: (spn p (nb ms) ++ [32, 64, 64])))) := rfl
    have HSG : Hid (∀ m ∈ ms, sgn m.1 ∧ lf m.2.data.toList = 0) := r9
    have HJL : Hid (∀ j, (joinC 10 ((ms.take j).map mkl)).length ≤ 9840) := mkl_len ms r9 r8
    have OL : ∀ w2, Below w.heap.size w w2 → Calls Tryz.prog 19 #[.slice am ms.length cm] w2 fun e w' => ∃ a' cap, e = .returned (.slice a' (ob ms) cap) ∧ Below w2.heap.size w2 w' := fun w2 h => oldC am ms cm w2 (HMK.out.below h) HSF.out
    have NW : ∀ w2, Below w.heap.size w w2 → Calls Tryz.prog 20 #[.slice am ms.length cm] w2 fun e w' => ∃ a' cap, e = .returned (.slice a' (nb ms) cap) ∧ Below w2.heap.size w2 w' := fun w2 h => newC am ms cm w2 (HMK.out.below h) HSF.out
    obtain ⟨q, hq⟩ : ∃ q, ms.length = q := ⟨_, rfl⟩
    have HQ : Hid (ms.length = q) := hq
    rw [hq] at hc3 r8 OL NW
    obtain ⟨n1, hn1⟩ : ∃ x, ob ms = x := ⟨_, rfl⟩
    obtain ⟨n2, hn2⟩ : ∃ x, nb ms = x := ⟨_, rfl⟩
    rw [hn1] at OL HSP1 hsp1 r5 HNX2 HDL
    rw [hn2] at NW HSP2 hsp2 r6 HNX2 HDL
    have hb0 := below_alloc wa (.cells #[.int .i64 o, .int .i64 p, .slice am q cm] 59)
    have hblk := heap_alloc_new wa (.cells #[.int .i64 o, .int .i64 p, .slice am q cm] 59)
    have hBa : B ≤ wa.heap.size := by have := hbl.size; have := HB.out; omega
    obtain ⟨X, hX⟩ : ∃ X, wa.heap.size = X := ⟨_, rfl⟩
    have HX : Hid (wa.heap.size = X) := hX
    obtain ⟨W, hW⟩ : ∃ W, wa.alloc (.cells #[.int .i64 o, .int .i64 p, .slice am q cm] 59) = W := ⟨_, rfl⟩
    have HW : Hid (wa.alloc (.cells #[.int .i64 o, .int .i64 p, .slice am q cm] 59) = W) := hW
    have HBW : Hid (Below B w W) := by show Below B w W; rw [← hW]; exact hbl.alloc hBa _
    have hXW : X < W.heap.size := by rw [← hW, ← hX]; simp
    rw [hW, hX] at hblk
    have HBK : Hid (W.heap[X]? = some (.cells #[.int .i64 o, .int .i64 p, .slice am q cm] 59 (0, 0))) := hblk
    clear hpre hnx hq r9 r7 hb' hkl hb0 hblk hn1 hn2 hbl hX hW
    go_upto_region 6 with fail
    rw [HW.out, HX.out]
    have CC : Hid (∀ w2, Below W.heap.size W w2 → w2.cell? ⟨X, 0, none⟩ = some (.int .i64 o) ∧ w2.cell? ⟨X, 1, none⟩ = some (.int .i64 p) ∧ w2.cell? ⟨X, 2, none⟩ = some (.slice am q cm)) := fun w2 h => by
      have := blk_below h hXW HBK.out
      exact ⟨Lib.cell_of_heap this 0, Lib.cell_of_heap this 1, Lib.cell_of_heap this 2⟩
    have BB : Hid (Below W.heap.size W W.drew) := ⟨rfl, rfl, rfl, Nat.le_refl _, fun _ _ => rfl⟩
    have hWw : w.heap.size ≤ W.heap.size := HBW.out.size
    have HBW' : Hid (∀ w2, Below W.heap.size W w2 → Below w.heap.size w w2) := fun w2 h => (by have := HBW.out; rw [← HB.out] at this; exact this.trans (h.mono hWw))
    clear hc1 hc2 hc3
    refine wp_region_held_drew (S := fun w' => w'.cell? ⟨X, 0, none⟩ = some (.int .i64 o) ∧ w'.cell? ⟨X, 1, none⟩ = some (.int .i64 p) ∧ w'.cell? ⟨X, 2, none⟩ = some (.slice am q cm)) (by kernel_rfl) ?_ (fun hHeld => ?_)
    · exact CC.out _ BB.out
    refine wpAnyH_take (i := 0) (v := ?_) rfl (by kernel_rfl) (by kernel_rfl) (by kernel_rfl) (fun _ _ _ h => h) (Or.inl ⟨by rfl, ?_⟩) (by assumption) ?_
    rotate_left
    · intro w' hSw
      (try dsimp only at hSw)
      go_simp
      try with_reducible rfl
    simp only [Act.put, List.getElem_toArray, List.getElem_cons_zero, List.setIfInBounds_toArray, List.set_cons_zero, List.set_cons_succ]
    refine wpAnyH_take (i := 1) (v := ?_) rfl (by kernel_rfl) (by kernel_rfl) (by kernel_rfl) (fun _ _ _ h => h) (Or.inl ⟨by rfl, ?_⟩) (by assumption) ?_
    rotate_left
    · intro w' hSw
      (try dsimp only at hSw)
      go_simp
      rw [if_neg (by omega)]
    simp only [Act.put, List.getElem_toArray, List.getElem_cons_zero, List.getElem_cons_succ, List.setIfInBounds_toArray, List.set_cons_zero, List.set_cons_succ]
    refine wpAnyH_take (i := 2) (v := ?_) rfl (by kernel_rfl) (by kernel_rfl) (by kernel_rfl) (fun _ _ _ h => h) (Or.inl ⟨by rfl, ?_⟩) (by assumption) ?_
    rotate_left
    · intro w' hSw
      (try dsimp only at hSw)
      go_simp
      try with_reducible rfl
    simp only [Act.put, List.getElem_toArray, List.getElem_cons_zero, List.getElem_cons_succ, List.setIfInBounds_toArray, List.set_cons_zero, List.set_cons_succ]
    refine wpAnyH_take (i := 3) (v := ?_) rfl (by kernel_rfl) (by kernel_rfl) (by kernel_rfl) (fun _ _ _ h => h) (Or.inl ⟨by rfl, ?_⟩) (by assumption) ?_
    rotate_left
    · intro w' hSw
      (try dsimp only at hSw)
      go_simp
      try with_reducible rfl
    simp only [Act.put, List.getElem_toArray, List.getElem_cons_zero, List.getElem_cons_succ, List.setIfInBounds_toArray, List.set_cons_zero, List.set_cons_succ]
    refine wpAnyH_take (i := 4) (v := ?_) rfl (by kernel_rfl) (by kernel_rfl) (by kernel_rfl) (fun _ _ _ h => h) (Or.inl ⟨by rfl, ?_⟩) (by assumption) ?_
    rotate_left
    · intro w' hSw
      (try dsimp only at hSw)
      go_simp
      try with_reducible rfl
    simp only [Act.put, List.getElem_toArray, List.getElem_cons_zero, List.getElem_cons_succ, List.setIfInBounds_toArray, List.set_cons_zero, List.set_cons_succ]
    refine wpAnyH_take (i := 5) (v := ?_) rfl (by kernel_rfl) (by kernel_rfl) (by kernel_rfl) (fun _ _ _ h => h) (Or.inl ⟨by rfl, ?_⟩) (by assumption) ?_
    rotate_left
    · intro w' hSw
      (try dsimp only at hSw)
      go_simp
      try with_reducible rfl
    simp only [Act.put, List.getElem_toArray, List.getElem_cons_zero, List.getElem_cons_succ, List.setIfInBounds_toArray, List.set_cons_zero, List.set_cons_succ]
    refine wpAnyH_take (i := 11) (v := ?_) rfl (by kernel_rfl) (by kernel_rfl) (by kernel_rfl) (fun _ _ _ h => h) (Or.inl ⟨by rfl, ?_⟩) (by assumption) ?_
    rotate_left
    · intro w' hSw
      (try dsimp only at hSw)
      go_simp
      try with_reducible rfl
    simp only [Act.put, List.getElem_toArray, List.getElem_cons_zero, List.getElem_cons_succ, List.setIfInBounds_toArray, List.set_cons_zero, List.set_cons_succ]
    refine wpAnyH_take (i := 12) (v := ?_) rfl (by kernel_rfl) (by kernel_rfl) (by kernel_rfl) (fun _ _ _ h => h) (Or.inl ⟨by rfl, ?_⟩) (by assumption) ?_
    rotate_left
    · intro w' hSw
      (try dsimp only at hSw)
      go_simp
      try with_reducible rfl
    simp only [Act.put, List.getElem_toArray, List.getElem_cons_zero, List.getElem_cons_succ, List.setIfInBounds_toArray, List.set_cons_zero, List.set_cons_succ]
    refine wpAnyH_take (i := 13) (v := ?_) rfl (by kernel_rfl) (by kernel_rfl) (by kernel_rfl) (fun _ _ _ h => h) (Or.inl ⟨by rfl, ?_⟩) (by assumption) ?_
    rotate_left
    · intro w' hSw
      (try dsimp only at hSw)
      go_simp
      try with_reducible rfl
    simp only [Act.put, List.getElem_toArray, List.getElem_cons_zero, List.getElem_cons_succ, List.setIfInBounds_toArray, List.set_cons_zero, List.set_cons_succ]
    refine wpAnyH_take (i := 14) (v := ?_) rfl (by kernel_rfl) (by kernel_rfl) (by kernel_rfl) (fun _ _ _ h => h) (Or.inl ⟨by rfl, ?_⟩) (by assumption) ?_
    rotate_left
    · intro w' hSw
      (try dsimp only at hSw)
      go_simp
      try with_reducible rfl
    simp only [Act.put, List.getElem_toArray, List.getElem_cons_zero, List.getElem_cons_succ, List.setIfInBounds_toArray, List.set_cons_zero, List.set_cons_succ]
    refine wpAnyH_ready (rs := [6]) (by kernel_rfl) (by simp) ?_
    refine AllReadyH.cons rfl (fun K hK => ?_) AllReadyH.nil
    go_simp
    go_at_call 19; refine (OL _ (HBW'.out _ BB.out)).mono ?_; rintro e w2 ⟨a2, c2, rfl, hb2⟩
    go_wp2_with fail
    refine hK.out _ _ ?_ (fun hHeld => ?_)
    · exact CC.out _ (BB.out.trans hb2)
    clear hK K
    have B2 : Hid (Below W.heap.size W w2) := BB.out.trans hb2
    clear hb2
    refine wpAnyH_take (i := 7) (v := ?_) rfl (by kernel_rfl) (by kernel_rfl) (by kernel_rfl) (fun _ _ _ h => h) (Or.inl ⟨by rfl, ?_⟩) (by assumption) ?_
    rotate_left
    · intro w' hSw
      (try dsimp only at hSw)
      go_simp
      try with_reducible rfl
    simp only [Act.put, List.getElem_toArray, List.getElem_cons_zero, List.getElem_cons_succ, List.setIfInBounds_toArray, List.set_cons_zero, List.set_cons_succ]
    refine wpAnyH_ready (rs := [8]) (by kernel_rfl) (by simp) ?_
    refine AllReadyH.cons rfl (fun K hK => ?_) AllReadyH.nil
    go_simp
    go_at_call 35; refine (HSP1 _).mono ?_; rintro e w3 ⟨rfl, hw3⟩; rw [hw3]; clear hw3
    go_wp2_with fail
    refine hK.out _ _ ?_ (fun hHeld => ?_)
    · exact CC.out _ B2.out
    clear hK K
    refine wpAnyH_take (i := 9) (v := ?_) rfl (by kernel_rfl) (by kernel_rfl) (by kernel_rfl) (fun _ _ _ h => h) (Or.inl ⟨by rfl, ?_⟩) (by assumption) ?_
    rotate_left
    · intro w' hSw
      (try dsimp only at hSw)
      go_simp
      rw [if_neg (by omega)]
    simp only [Act.put, List.getElem_toArray, List.getElem_cons_zero, List.getElem_cons_succ, List.setIfInBounds_toArray, List.set_cons_zero, List.set_cons_succ]
    refine wpAnyH_take (i := 10) (v := ?_) rfl (by kernel_rfl) (by kernel_rfl) (by kernel_rfl) (fun _ _ _ h => h) (Or.inl ⟨by rfl, ?_⟩) (by assumption) ?_
    rotate_left
    · intro w' hSw
      (try dsimp only at hSw)
      go_simp
      rw [if_neg (by omega)]
    simp only [Act.put, List.getElem_toArray, List.getElem_cons_zero, List.getElem_cons_succ, List.setIfInBounds_toArray, List.set_cons_zero, List.set_cons_succ]
    refine wpAnyH_ready (rs := [15]) (by kernel_rfl) (by simp) ?_
    refine AllReadyH.cons rfl (fun K hK => ?_) AllReadyH.nil
    go_simp
    go_at_call 20; refine (NW _ (HBW'.out _ B2.out)).mono ?_; rintro e w4 ⟨a4, c4, rfl, hb4⟩
    go_wp2_with fail
    refine hK.out _ _ ?_ (fun hHeld => ?_)
    · exact CC.out _ (B2.out.trans (hb4.mono B2.out.size))
    clear hK K
    have B4 : Hid (Below W.heap.size W w4) := B2.out.trans (hb4.mono B2.out.size)
    clear hb4
    refine wpAnyH_take (i := 16) (v := ?_) rfl (by kernel_rfl) (by kernel_rfl) (by kernel_rfl) (fun _ _ _ h => h) (Or.inl ⟨by rfl, ?_⟩) (by assumption) ?_
    rotate_left
    · intro w' hSw
      (try dsimp only at hSw)
      go_simp
      try with_reducible rfl
    simp only [Act.put, List.getElem_toArray, List.getElem_cons_zero, List.getElem_cons_succ, List.setIfInBounds_toArray, List.set_cons_zero, List.set_cons_succ]
    refine wpAnyH_ready (rs := [17]) (by kernel_rfl) (by simp) ?_
    refine AllReadyH.cons rfl (fun K hK => ?_) AllReadyH.nil
    go_simp
    go_at_call 35; refine (HSP2 _).mono ?_; rintro e w5 ⟨rfl, hw5⟩; rw [hw5]; clear hw5
    go_wp2_with fail
    refine hK.out _ _ ?_ (fun hHeld => ?_)
    · exact CC.out _ B4.out
    clear hK K
    refine wpAnyH_take (i := 18) (v := ?_) rfl (by kernel_rfl) (by kernel_rfl) (by kernel_rfl) (fun _ _ _ h => h) (Or.inl ⟨by rfl, ?_⟩) (by assumption) ?_
    rotate_left
    · intro w' hSw
      (try dsimp only at hSw)
      go_simp
      rw [if_neg (by omega)]
    simp only [Act.put, List.getElem_toArray, List.getElem_cons_zero, List.getElem_cons_succ, List.setIfInBounds_toArray, List.set_cons_zero, List.set_cons_succ]
    refine wpAnyH_take (i := 19) (v := ?_) rfl (by kernel_rfl) (by kernel_rfl) (by kernel_rfl) (fun _ _ _ h => h) (Or.inl ⟨by rfl, ?_⟩) (by assumption) ?_
    rotate_left
    · intro w' hSw
      (try dsimp only at hSw)
      go_simp
      rw [if_neg (by omega)]
    simp only [Act.put, List.getElem_toArray, List.getElem_cons_zero, List.getElem_cons_succ, List.setIfInBounds_toArray, List.set_cons_zero, List.set_cons_succ]
    refine wpAnyH_take (i := 20) (v := ?_) rfl (by kernel_rfl) (by kernel_rfl) (by kernel_rfl) (fun _ _ _ h => h) (Or.inl ⟨by rfl, ?_⟩) (by assumption) ?_
    rotate_left
    · intro w' hSw
      (try dsimp only at hSw)
      go_simp
      try with_reducible rfl
    simp only [Act.put, List.getElem_toArray, List.getElem_cons_zero, List.getElem_cons_succ, List.setIfInBounds_toArray, List.set_cons_zero, List.set_cons_succ]
    refine wpAnyH_done (by kernel_rfl) ?_ _
    go_wp2_with fail
    obtain ⟨pr, hpr⟩ : ∃ pr, pre ++ (hdl o n1 p n2 ++ [10]) = pr := ⟨_, rfl⟩
    have HPR : Hid (ByteArray.mk pre.toArray ++ ByteArray.mk #[64, 64, 32, 45] ++ ByteArray.mk (spn o n1).toArray ++ ByteArray.mk #[32, 43] ++ ByteArray.mk (spn p n2).toArray ++ ByteArray.mk #[32, 64, 64, 10] = ByteArray.mk pr.toArray) := by
      show _ = _
      rw [← hpr, HDL.out]
      apply ByteArray.ext
      apply Array.toList_inj.1
      simp
    have hprl : pr.length ≤ 14800 := by
      rw [← hpr, HDL.out]
      simp only [List.length_append, List.length_cons, List.length_nil]
      omega
    rw [hpr] at HNX2
    clear hpr HDL hHeld OL NW HSP1 HSP2
    go_loopw [3, 6] (fun s i wx => ∃ j : Nat, j ≤ q ∧ i = .int .i64 j ∧ s = .string ⟨(pr ++ joinC 10 ((ms.take j).map mkl)).toArray⟩ ∧ Below W.heap.size W wx) (fun _ i _ => q - (intOf i).toNat)
    case atStart =>
      refine ⟨0, Nat.zero_le _, rfl, ?_, B4.out⟩
      rw [HPR.out]; simp [joinC]
    case round =>
      obtain ⟨wb, rfl⟩ : ∃ wb, wb = wr := ⟨_, rfl⟩
      obtain ⟨j, hj, rfl, rfl, hbx⟩ := hrel
      have hx2 := (CC.out _ hbx).2.2
      have HBX : Hid (Below W.heap.size W wb) := hbx
      clear B4 B2 BB hbx
      by_cases hjq : j < q
      case' neg =>
        obtain rfl : j = q := by omega
        rw [List.take_of_length_le (by rw [HQ.out]; exact Nat.le_refl _), ← HNX2.out]
        go_wp2
        go_roundw
        case rel => exact ⟨k + 1, by omega, by go_num, rfl, by have := HBW'.out _ HBX.out; rw [HB.out] at this; exact this⟩
        case measure => simp [intOf]; omega
      have hjq' : (j : Int) < q := by omega
      have hjl : j < ms.length := by rw [HQ.out]; exact hjq
      obtain ⟨bm, om, rfl, hx3, hx4⟩ := HMK.out.at (i := j) hjl
      obtain ⟨g1, g2⟩ := HSG.out _ (mem_getD2 hjl)
      have hnx := mkl_tk ms j hjl
      have hjn := HJL.out j
      obtain ⟨c, hc⟩ : ∃ c, (ms.getD j (0, ByteArray.empty)).1 = c := ⟨_, rfl⟩
      obtain ⟨t, ht⟩ : ∃ t, (ms.getD j (0, ByteArray.empty)).2 = t := ⟨_, rfl⟩
      rw [getD_eta ms j hc ht] at hnx
      rw [hc] at hx3 g1
      rw [ht] at hx4 g2
      have hts : t.size ≤ 80 := by have := (lf_zero g2).2; rw [Lib.size_eq]; exact this
      have HCV : Hid (∃ u : UInt8, c = (u.toNat : Int) ∧ UInt8.ofNat c.toNat = u) := by
        rcases g1 with e | e | e
        · exact ⟨32, by rw [e]; rfl, by rw [e]; rfl⟩
        · exact ⟨45, by rw [e]; rfl, by rw [e]; rfl⟩
        · exact ⟨43, by rw [e]; rfl, by rw [e]; rfl⟩
      obtain ⟨dn, hdn⟩ : ∃ dn, joinC 10 ((ms.take j).map mkl) = dn := ⟨_, rfl⟩
      rw [hdn] at hnx hjn ⊢
      have HN3 : Hid (joinC 10 ((ms.take (j + 1)).map mkl) = dn ++ (mkl (c, t) ++ [10])) := hnx
      have X3 : Hid (w.cell? ⟨bm, om + j * 2, none⟩ = some (.int .u8 c)) := hx3
      have X4 : Hid (w.cell? ⟨bm, om + j * 2 + 1, none⟩ = some (.string t)) := hx4
      obtain ⟨st, hst⟩ : ∃ st : List UInt8, pr ++ dn = st := ⟨_, rfl⟩
      have hstl : st.length ≤ 24700 := by rw [← hst, List.length_append]; omega
      have HST : Hid (pr ++ dn = st) := hst
      rw [hst]
      have DD : Hid (∀ w2, Below wb.heap.size wb w2 → w2.cell? ⟨X, 2, none⟩ = some (.slice (some ⟨bm, om, none⟩) q cm) ∧ w2.cell? ⟨bm, om + j * 2, none⟩ = some (.int .u8 c) ∧ w2.cell? ⟨bm, om + j * 2 + 1, none⟩ = some (.string t)) := fun w2 h => by
        have h1 := HBX.out.trans (h.mono HBX.out.size)
        have h2 := HBW'.out _ h1
        exact ⟨(CC.out _ h1).2.2, cell_later h2 X3.out, cell_later h2 X4.out⟩
      have BD : Hid (Below wb.heap.size wb wb.drew) := ⟨rfl, rfl, rfl, Nat.le_refl _, fun _ _ => rfl⟩
      have B7 : Hid (Below wb.heap.size wb (wb.alloc (.cells #[.int .u8 c] 5)).drew) := (below_alloc wb _).trans ⟨rfl, rfl, rfl, Nat.le_refl _, fun _ _ => rfl⟩
      have q1 : (0 : Int) ≤ j := by omega
      clear hc ht hdn hnx hjl g1 g2 hx3 hx4 hst
      obtain ⟨u, hu, hu2⟩ := HCV.out
      subst hu
      have HU2 : Hid (UInt8.ofNat ((u.toNat : Int)).toNat = u) := hu2
      clear HCV hu2
      go_upto_region 10 with fail
      refine wp_region_held_drew (S := fun w' => w'.cell? ⟨X, 2, none⟩ = some (.slice (some ⟨bm, om, none⟩) q cm) ∧ w'.cell? ⟨bm, om + j * 2, none⟩ = some (.int .u8 (u.toNat : Int)) ∧ w'.cell? ⟨bm, om + j * 2 + 1, none⟩ = some (.string t)) (by kernel_rfl) ?_ (fun hHeld => ?_)
      · exact DD.out _ BD.out
      refine wpAnyH_take (i := 0) (v := ?_) rfl (by kernel_rfl) (by kernel_rfl) (by kernel_rfl) (fun _ _ _ h => h) (Or.inl ⟨by rfl, ?_⟩) (by assumption) ?_
      rotate_left
      · intro w' hSw
        (try dsimp only at hSw)
        go_simp
        try with_reducible rfl
      simp only [Act.put, List.getElem_toArray, List.getElem_cons_zero, List.setIfInBounds_toArray, List.set_cons_zero, List.set_cons_succ]
      refine wpAnyH_take (i := 1) (v := ?_) rfl (by kernel_rfl) (by kernel_rfl) (by kernel_rfl) (fun _ _ _ h => h) (Or.inl ⟨by rfl, ?_⟩) (by assumption) ?_
      rotate_left
      · intro w' hSw
        (try dsimp only at hSw)
        go_simp
        try with_reducible rfl
      simp only [Act.put, List.getElem_toArray, List.getElem_cons_zero, List.getElem_cons_succ, List.setIfInBounds_toArray, List.set_cons_zero, List.set_cons_succ]
      refine wpAnyH_take (i := 2) (v := ?_) rfl (by kernel_rfl) (by kernel_rfl) (by kernel_rfl) (fun _ _ _ h => h) (Or.inl ⟨by rfl, ?_⟩) (by assumption) ?_
      rotate_left
      · intro w' hSw
        (try dsimp only at hSw)
        go_simp
        try with_reducible rfl
      simp only [Act.put, List.getElem_toArray, List.getElem_cons_zero, List.getElem_cons_succ, List.setIfInBounds_toArray, List.set_cons_zero, List.set_cons_succ]
      refine wpAnyH_take (i := 3) (v := ?_) rfl (by kernel_rfl) (by kernel_rfl) (by kernel_rfl) (fun _ _ _ h => h) (Or.inl ⟨by rfl, ?_⟩) (by assumption) ?_
      rotate_left
      · intro w' hSw
        (try dsimp only at hSw)
        go_simp
        try with_reducible rfl
      simp only [Act.put, List.getElem_toArray, List.getElem_cons_zero, List.getElem_cons_succ, List.setIfInBounds_toArray, List.set_cons_zero, List.set_cons_succ]
      refine wpAnyH_take (i := 4) (v := ?_) rfl (by kernel_rfl) (by kernel_rfl) (by kernel_rfl) (fun _ _ _ h => h) (Or.inl ⟨by rfl, ?_⟩) (by assumption) ?_
      rotate_left
      · intro w' hSw
        (try dsimp only at hSw)
        go_simp
        try with_reducible rfl
      simp only [Act.put, List.getElem_toArray, List.getElem_cons_zero, List.getElem_cons_succ, List.setIfInBounds_toArray, List.set_cons_zero, List.set_cons_succ]
      refine wpAnyH_take (i := 5) (v := ?_) rfl (by kernel_rfl) (by kernel_rfl) (by kernel_rfl) (fun _ _ _ h => h) (Or.inl ⟨by rfl, ?_⟩) (by assumption) ?_
      rotate_left
      · intro w' hSw
        (try dsimp only at hSw)
        go_simp
        try with_reducible rfl
      simp only [Act.put, List.getElem_toArray, List.getElem_cons_zero, List.getElem_cons_succ, List.setIfInBounds_toArray, List.set_cons_zero, List.set_cons_succ]
      refine wpAnyH_take (i := 6) (v := ?_) rfl (by kernel_rfl) (by kernel_rfl) (by kernel_rfl) (fun _ _ _ h => h) (Or.inl ⟨by rfl, ?_⟩) (by assumption) ?_
      rotate_left
      · intro w' hSw
        (try dsimp only at hSw)
        go_simp
        try with_reducible rfl
      simp only [Act.put, List.getElem_toArray, List.getElem_cons_zero, List.getElem_cons_succ, List.setIfInBounds_toArray, List.set_cons_zero, List.set_cons_succ]
      refine wpAnyH_take (i := 10) (v := ?_) rfl (by kernel_rfl) (by kernel_rfl) (by kernel_rfl) (fun _ _ _ h => h) (Or.inl ⟨by rfl, ?_⟩) (by assumption) ?_
      rotate_left
      · intro w' hSw
        (try dsimp only at hSw)
        go_simp
        try with_reducible rfl
      simp only [Act.put, List.getElem_toArray, List.getElem_cons_zero, List.getElem_cons_succ, List.setIfInBounds_toArray, List.set_cons_zero, List.set_cons_succ]
      refine wpAnyH_take (i := 11) (v := ?_) rfl (by kernel_rfl) (by kernel_rfl) (by kernel_rfl) (fun _ _ _ h => h) (Or.inl ⟨by rfl, ?_⟩) (by assumption) ?_
      rotate_left
      · intro w' hSw
        (try dsimp only at hSw)
        go_simp
        try with_reducible rfl
      simp only [Act.put, List.getElem_toArray, List.getElem_cons_zero, List.getElem_cons_succ, List.setIfInBounds_toArray, List.set_cons_zero, List.set_cons_succ]
      refine wpAnyH_take (i := 12) (v := ?_) rfl (by kernel_rfl) (by kernel_rfl) (by kernel_rfl) (fun _ _ _ h => h) (Or.inl ⟨by rfl, ?_⟩) (by assumption) ?_
      rotate_left
      · intro w' hSw
        (try dsimp only at hSw)
        go_simp
        try with_reducible rfl
      simp only [Act.put, List.getElem_toArray, List.getElem_cons_zero, List.getElem_cons_succ, List.setIfInBounds_toArray, List.set_cons_zero, List.set_cons_succ]
      refine wpAnyH_take (i := 13) (v := ?_) rfl (by kernel_rfl) (by kernel_rfl) (by kernel_rfl) (fun _ _ _ h => h) (Or.inl ⟨by rfl, ?_⟩) (by assumption) ?_
      rotate_left
      · intro w' hSw
        (try dsimp only at hSw)
        go_simp
        try with_reducible rfl
      simp only [Act.put, List.getElem_toArray, List.getElem_cons_zero, List.getElem_cons_succ, List.setIfInBounds_toArray, List.set_cons_zero, List.set_cons_succ]
      refine wpAnyH_take (i := 14) (v := ?_) rfl (by kernel_rfl) (by kernel_rfl) (by kernel_rfl) (fun _ _ _ h => h) (Or.inl ⟨by rfl, ?_⟩) (by assumption) ?_
      rotate_left
      · intro w' hSw
        (try dsimp only at hSw)
        go_simp
        try with_reducible rfl
      simp only [Act.put, List.getElem_toArray, List.getElem_cons_zero, List.getElem_cons_succ, List.setIfInBounds_toArray, List.set_cons_zero, List.set_cons_succ]
      refine wpAnyH_take (i := 15) (v := ?_) rfl (by kernel_rfl) (by kernel_rfl) (by kernel_rfl) (fun _ _ _ h => h) (Or.inl ⟨by rfl, ?_⟩) (by assumption) ?_
      rotate_left
      · intro w' hSw
        (try dsimp only at hSw)
        go_simp
        try with_reducible rfl
      simp only [Act.put, List.getElem_toArray, List.getElem_cons_zero, List.getElem_cons_succ, List.setIfInBounds_toArray, List.set_cons_zero, List.set_cons_succ]
      refine wpAnyH_ready (rs := [7]) (by kernel_rfl) (by simp) ?_
      refine AllReadyH.cons rfl (fun K hK => ?_) AllReadyH.nil
      go_simp
      refine hK.out _ _ ?_ (fun hHeld => ?_)
      · exact DD.out _ B7.out
      clear hK K
      refine wpAnyH_ready (rs := [8]) (by kernel_rfl) (by simp) ?_
      refine AllReadyH.cons rfl (fun K hK => ?_) AllReadyH.nil
      go_simp
      rw [conv_one]
      go_simp
      refine hK.out _ _ (DD.out _ B7.out) (fun hHeld => ?_)
      clear hK K
      refine wpAnyH_take (i := 9) (v := ?_) rfl (by kernel_rfl) (by kernel_rfl) (by kernel_rfl) (fun _ _ _ h => h) (Or.inl ⟨by rfl, ?_⟩) (by assumption) ?_
      rotate_left
      · intro w' hSw
        (try dsimp only at hSw)
        go_simp
        rw [if_neg (by omega)]
      simp only [Act.put, List.getElem_toArray, List.getElem_cons_zero, List.getElem_cons_succ, List.setIfInBounds_toArray, List.set_cons_zero, List.set_cons_succ]
      refine wpAnyH_take (i := 16) (v := ?_) rfl (by kernel_rfl) (by kernel_rfl) (by kernel_rfl) (fun _ _ _ h => h) (Or.inl ⟨by rfl, ?_⟩) (by assumption) ?_
      rotate_left
      · intro w' hSw
        (try dsimp only at hSw)
        go_simp
        rw [if_neg (by omega)]
      simp only [Act.put, List.getElem_toArray, List.getElem_cons_zero, List.getElem_cons_succ, List.setIfInBounds_toArray, List.set_cons_zero, List.set_cons_succ]
      refine wpAnyH_take (i := 17) (v := ?_) rfl (by kernel_rfl) (by kernel_rfl) (by kernel_rfl) (fun _ _ _ h => h) (Or.inl ⟨by rfl, ?_⟩) (by assumption) ?_
      rotate_left
      · intro w' hSw
        (try dsimp only at hSw)
        go_simp
        rw [if_neg (by omega)]
      simp only [Act.put, List.getElem_toArray, List.getElem_cons_zero, List.getElem_cons_succ, List.setIfInBounds_toArray, List.set_cons_zero, List.set_cons_succ]
      refine wpAnyH_take (i := 18) (v := ?_) rfl (by kernel_rfl) (by kernel_rfl) (by kernel_rfl) (fun _ _ _ h => h) (Or.inl ⟨by rfl, ?_⟩) (by assumption) ?_
      rotate_left
      · intro w' hSw
        (try dsimp only at hSw)
        go_simp
        try with_reducible rfl
      simp only [Act.put, List.getElem_toArray, List.getElem_cons_zero, List.getElem_cons_succ, List.setIfInBounds_toArray, List.set_cons_zero, List.set_cons_succ]
      refine wpAnyH_done (by kernel_rfl) ?_ _
      go_wp2_with fail
      go_roundw
      case rel =>
        refine ⟨j + 1, by omega, by go_num, ?_, HBX.out.trans (B7.out.mono HBX.out.size)⟩
        rw [HN3.out, ← List.append_assoc, HST.out, mkl, HU2.out]
        congr 1
        apply ByteArray.ext
        apply Array.toList_inj.1
        simp
      case measure => simp [intOf]; omega

end Go.Proofs.YtfmhapajdnmhoafGreatDoor
