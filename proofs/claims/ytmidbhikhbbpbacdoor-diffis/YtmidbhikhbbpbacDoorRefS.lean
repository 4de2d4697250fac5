/-
  Walks of the document's own answers for two files: how far it is, and the script.
-/
import Derived.Test.YtmidbhikhbbpbacDoorRefC
import Derived.Test.YtmidbhikhbbpbacDoorScr

namespace Go.Proofs.YtmidbhikhbbpbacDoor
open Go.RowKit Dist

/-- What the document's script does next. -/
theorem ref_cases {xs ys : List ByteArray} {i j : Nat} (hi : i ≤ xs.length) (hj : j ≤ ys.length) (h : i < xs.length ∨ j < ys.length) :
    (i < xs.length ∧ j < ys.length ∧ xs.getD i ByteArray.empty = ys.getD j ByteArray.empty ∧ com (xs.drop (i + 1)) (ys.drop (j + 1)) + 1 = com (xs.drop i) (ys.drop j) ∧ scr (xs.drop i) (ys.drop j) = (32, xs.getD i ByteArray.empty) :: scr (xs.drop (i + 1)) (ys.drop (j + 1))) ∨
    (i < xs.length ∧ j = ys.length ∧ com (xs.drop (i + 1)) (ys.drop j) = com (xs.drop i) (ys.drop j) ∧ scr (xs.drop i) (ys.drop j) = (45, xs.getD i ByteArray.empty) :: scr (xs.drop (i + 1)) (ys.drop j)) ∨
    (i < xs.length ∧ j < ys.length ∧ xs.getD i ByteArray.empty ≠ ys.getD j ByteArray.empty ∧ com (xs.drop (i + 1)) (ys.drop j) = com (xs.drop i) (ys.drop j) ∧ scr (xs.drop i) (ys.drop j) = (45, xs.getD i ByteArray.empty) :: scr (xs.drop (i + 1)) (ys.drop j)) ∨
    (i = xs.length ∧ j < ys.length ∧ scr (xs.drop i) (ys.drop j) = (43, ys.getD j ByteArray.empty) :: scr (xs.drop i) (ys.drop (j + 1))) ∨
    (i < xs.length ∧ j < ys.length ∧ xs.getD i ByteArray.empty ≠ ys.getD j ByteArray.empty ∧ com (xs.drop (i + 1)) (ys.drop j) ≠ com (xs.drop i) (ys.drop j) ∧ scr (xs.drop i) (ys.drop j) = (43, ys.getD j ByteArray.empty) :: scr (xs.drop i) (ys.drop (j + 1))) := by
  by_cases e1 : i = xs.length
  · refine .inr (.inr (.inr (.inl ⟨e1, by omega, ?_⟩)))
    rw [e1, List.drop_of_length_le (Nat.le_refl _), drop_at (xs := ys) (i := j) (by omega), scr_put]
  by_cases e2 : j = ys.length
  · refine .inr (.inl ⟨by omega, e2, ?_, ?_⟩)
    · rw [com_end (.inr e2), com_end (.inr e2)]
    · rw [e2, List.drop_of_length_le (Nat.le_refl ys.length), drop_at (xs := xs) (i := i) (by omega), scr_take]
  have h1 : i < xs.length := by omega
  have h2 : j < ys.length := by omega
  have hs : scr (xs.drop i) (ys.drop j) = if xs.getD i ByteArray.empty = ys.getD j ByteArray.empty then (32, xs.getD i ByteArray.empty) :: scr (xs.drop (i + 1)) (ys.drop (j + 1)) else if dist (xs.drop (i + 1)) (ys.drop j) ≤ dist (xs.drop i) (ys.drop (j + 1)) then (45, xs.getD i ByteArray.empty) :: scr (xs.drop (i + 1)) (ys.drop j) else (43, ys.getD j ByteArray.empty) :: scr (xs.drop i) (ys.drop (j + 1)) := by
    conv => lhs; rw [drop_at h1, drop_at h2, scr_cons]
    rw [← drop_at h1, ← drop_at h2]
  by_cases e3 : xs.getD i ByteArray.empty = ys.getD j ByteArray.empty
  · refine .inl ⟨h1, h2, e3, ?_, by rw [hs, if_pos e3]⟩
    conv => rhs; rw [drop_at h1, drop_at h2, ← e3]
    exact com_keep _ _ _
  have hct := com_take (xs.getD i ByteArray.empty) (ys.getD j ByteArray.empty) (xs.drop (i + 1)) (ys.drop (j + 1)) e3
  rw [← drop_at h1, ← drop_at h2] at hct
  by_cases e4 : dist (xs.drop (i + 1)) (ys.drop j) ≤ dist (xs.drop i) (ys.drop (j + 1))
  · exact .inr (.inr (.inl ⟨h1, h2, e3, hct.2 e4, by rw [hs, if_neg e3, if_pos e4]⟩))
  · exact .inr (.inr (.inr (.inr ⟨h1, h2, e3, fun e => e4 (hct.1 e), by rw [hs, if_neg e3, if_neg e4]⟩)))

set_option maxRecDepth 100000 in
set_option maxHeartbeats 2000000 in
theorem refScript (a b : Option Addr) (xs ys : List ByteArray) (ca cb : Nat) (w : World) (ha : Strs w a xs) (hb : Strs w b ys) (h1 : xs.length ≤ 60) (h2 : ys.length ≤ 60) :
    Calls Tryd.prog 33 #[.slice a xs.length ca, .slice b ys.length cb] w fun e w' => ∃ a' cap, e = .returned (.slice a' (scr xs ys).length cap) ∧ Mks w' a' (scr xs ys) ∧ Below w.heap.size w w' := by
  have hco := common a b xs ys ca cb w ha hb h1 h2
  obtain ⟨i0, hi0, hz0, hz1, hz2⟩ := info_parts Tryd.infoMark
  have HSL : Hid ((scr xs ys).length ≤ 120) := by have := (scr_ok xs ys).2.2.2.1; show (scr xs ys).length ≤ 120; omega
  have HSC := fun i j hi hj h => ref_cases (xs := xs) (ys := ys) (i := i) (j := j) hi hj h
  have HCL : Hid (∀ i j, com (xs.drop i) (ys.drop j) ≤ 60) := fun i j => by have := com_le (a := xs.drop i) (b := ys.drop j); rw [List.length_drop] at this; omega
  obtain ⟨m, hm⟩ : ∃ m, xs.length = m := ⟨_, rfl⟩
  obtain ⟨n, hn⟩ : ∃ n, ys.length = n := ⟨_, rfl⟩
  rw [hm] at h1 hco HSC ⊢
  rw [hn] at h2 hco HSC ⊢
  have HM : Hid (xs.length = m) := hm
  have HN : Hid (ys.length = n) := hn
  have HA : Hid (Strs w a xs) := ha
  have HBB : Hid (Strs w b ys) := hb
  clear hm hn ha hb
  obtain ⟨B, hB⟩ : ∃ B, w.heap.size = B := ⟨_, rfl⟩
  have HB : Hid (w.heap.size = B) := hB
  rw [hB] at hco ⊢
  clear hB
  go_enter Tryd.func33, Tryd.ntmps33
  go_wp2_with (go_at_call 48; refine hco.mono ?_)
  rintro e w0 ⟨rfl, hb0, hs0, hcom⟩
  clear hco
  obtain ⟨B0, hB0⟩ : ∃ B0, w0.heap.size = B0 := ⟨_, rfl⟩
  rw [hB0] at hs0 hcom
  have HBZ : Hid (w0.heap.size = B0) := hB0
  have HT : Hid (Com w0 B B0 m n xs ys (fun _ => True)) := hcom
  have HB0 : Hid (Below B w w0) := hb0
  have HA0 : Hid (Strs w0 a xs) := HA.out.below (by rw [HB.out]; exact hb0)
  have HBB0 : Hid (Strs w0 b ys) := HBB.out.below (by rw [HB.out]; exact hb0)
  clear hcom hb0 HA HBB hB0
  go_wp2
  go_loopw [6, 7, 8] (fun v vi vj w1 => ∃ (i j : Nat) (done : List (Int × ByteArray)), i ≤ m ∧ j ≤ n ∧ vi = .int .i64 i ∧ vj = .int .i64 j ∧ Below B0 w0 w1 ∧ done ++ scr (xs.drop i) (ys.drop j) = scr xs ys ∧ w1.ownsRow B0 82 2 v done.length (mcells done)) (fun _ vi vj _ => (m - (intOf vi).toNat) + (n - (intOf vj).toNat))
  case atStart => exact ⟨0, 0, [], Nat.zero_le _, Nat.zero_le _, rfl, rfl, Below.refl _ _, rfl, ⟨rfl, Or.inl ⟨rfl, rfl⟩⟩⟩
  case round =>
    obtain ⟨i, j, done, hi, hj, rfl, rfl, hbl, hdone, hown⟩ := hrel
    have HD : Hid (done ++ scr (xs.drop i) (ys.drop j) = scr xs ys) := hdone
    have HDL : done.length + (scr (xs.drop i) (ys.drop j)).length ≤ 120 := by have := HSL.out; rw [← hdone, List.length_append] at this; exact this
    clear hdone
    have hszB : B0 ≤ wr.heap.size := by have := hbl.size; rw [HBZ.out] at this; exact this
    have HC : Hid (Com wr B B0 m n xs ys (fun _ => True)) := HT.out.below hbl hs0
    have HAR : Hid (Strs wr a xs) := HA0.out.below (by rw [HBZ.out]; exact hbl)
    have HBR : Hid (Strs wr b ys) := HBB0.out.below (by rw [HBZ.out]; exact hbl)
    by_cases hend : i < m ∨ j < n
    · rcases HSC i j hi hj hend with ⟨him, hjn, hxy, hcm, hsc⟩ | ⟨him, hjn, hcm, hsc⟩ | ⟨him, hjn, hxy, hcm, hsc⟩ | ⟨him, hjn, hsc⟩ | ⟨him, hjn, hxy, hcm, hsc⟩
      · -- a line is kept
        have hdl : done.length < 120 := by rw [hsc, List.length_cons] at HDL; omega
        have HSN : Hid ((done ++ [(32, xs.getD i ByteArray.empty)]) ++ scr (xs.drop (i + 1)) (ys.drop (j + 1)) = scr xs ys) := by
          have := HD.out
          rw [hsc] at this
          show (done ++ [(32, xs.getD i ByteArray.empty)]) ++ scr (xs.drop (i + 1)) (ys.drop (j + 1)) = scr xs ys
          rw [← this, List.append_assoc]; rfl
        clear hsc HD HDL HSC
        obtain ⟨R1, p1, _, _, r1⟩ := HC.out.at (i := i + 1) trivial (by omega)
        obtain ⟨R0, p0, _, _, r0⟩ := HC.out.at (i := i) trivial (by omega)
        have q1 := r1.cell (k := j + 1) (by omega)
        have q0 := r0.cell (k := j) (by omega)
        have l1 := HCL.out (i + 1) (j + 1)
        rw [← hcm] at q0
        obtain ⟨v, hv⟩ : ∃ v, com (xs.drop (i + 1)) (ys.drop (j + 1)) = v := ⟨_, rfl⟩
        rw [hv] at q1 q0 l1
        have q0' : wr.cell? ⟨R0, j, none⟩ = some (.int .i64 ((v : Int) + 1)) := q0
        clear q0 hcm r1 r0 hv
        have hln := HAR.out
        obtain ⟨ba, oa, rfl, hca⟩ := Strs.at hln (i := i) (by rw [HM.out]; exact him)
        replace hca := hca i (by rw [HM.out]; exact him)
        obtain ⟨x, hx⟩ : ∃ x, xs.getD i ByteArray.empty = x := ⟨_, rfl⟩
        rw [hx] at hca
        clear hln
        have hln := HBR.out
        obtain ⟨bb, ob, rfl, hcb⟩ := Strs.at hln (i := j) (by rw [HN.out]; exact hjn)
        replace hcb := hcb j (by rw [HN.out]; exact hjn)
        obtain ⟨y, hy⟩ : ∃ y, ys.getD j ByteArray.empty = y := ⟨_, rfl⟩
        rw [hy] at hcb
        clear hln
        have he : (x.toList == y.toList) = true := by rw [← hx, ← hy, hxy]; simp
        rw [hx] at HSN
        clear hx hy hxy hend
        go_wp2
        go_quiet (fail)
        have hown2 := own_later hown (below_drawn (Below.refl _ _) : Below wr.heap.size wr (wr.drewN nq))
        have hb2 : Below B0 w0 (wr.drewN nq) := hbl.trans (Below.mono (below_drawn (Below.refl _ _) : Below wr.heap.size wr (wr.drewN nq)) hszB)
        have hcx : (wr.drewN nq).cell? ⟨ba, oa + i, none⟩ = some (.string x) := hca
        have hs2 : B0 ≤ (wr.drewN nq).heap.size := hszB
        generalize wr.drewN nq = W2 at hown2 hb2 hcx hs2 ⊢
        clear hown hbl hszB HC HAR HBR
        go_wp2_with (at_builtin; refine wpList_append_own _ rfl _ _ 66 rfl B0 82 i0 (.agg #[.int .u8 0, .string ByteArray.empty]) 2 24 Tryd.underlying66 hi0 hz0 hz1 hz2 rfl (by decide) _ _ _ rfl (hown2.alloc _) ⟨W2.heap.size, 0, none⟩ 1 1 [.int .u8 32, .string x] rfl rfl (cell_two_new _ _ _ _) (fun x hx => by simp at hx; rcases hx with rfl | rfl <;> rfl) (by unfold maxLen; omega) (by omega) (by simp; omega) ?_; intro v' w3 hown' hgrow3 hnil3)
        go_roundw
        case rel =>
          refine ⟨i + 1, j + 1, done ++ [(32, x)], by omega, by omega, by go_num, by go_num, ?_, HSN.out, ?_⟩
          · exact (hb2.alloc (by omega) _).grown hgrow3 (by simp; omega) (fun j hj => (hown2.lt j hj).1)
          · rw [mcells_append, List.length_append]; exact hown'
        case measure => simp [intOf]; omega
      · -- nothing is left of the new file
        have hdl : done.length < 120 := by rw [hsc, List.length_cons] at HDL; omega
        have HSN : Hid ((done ++ [(45, xs.getD i ByteArray.empty)]) ++ scr (xs.drop (i + 1)) (ys.drop (j)) = scr xs ys) := by
          have := HD.out
          rw [hsc] at this
          show (done ++ [(45, xs.getD i ByteArray.empty)]) ++ scr (xs.drop (i + 1)) (ys.drop (j)) = scr xs ys
          rw [← this, List.append_assoc]; rfl
        clear hsc HD HDL HSC
        obtain ⟨R1, p1, _, _, r1⟩ := HC.out.at (i := i + 1) trivial (by omega)
        obtain ⟨R0, p0, _, _, r0⟩ := HC.out.at (i := i) trivial (by omega)
        have q1 := r1.cell (k := j) (by omega)
        have q0 := r0.cell (k := j) (by omega)
        have l1 := HCL.out (i + 1) j
        have l0 := HCL.out i j
        obtain ⟨v, hv⟩ : ∃ v, com (xs.drop (i + 1)) (ys.drop j) = v := ⟨_, rfl⟩
        obtain ⟨u, hu⟩ : ∃ u, com (xs.drop i) (ys.drop j) = u := ⟨_, rfl⟩
        rw [hv] at q1 l1 hcm
        rw [hu] at q0 l0 hcm
        clear r1 r0 hv hu
        subst hcm
        subst hjn
        have hjj : decide ((j : Int) < (j : Int)) = false := by simp
        have hln := HAR.out
        obtain ⟨ba, oa, rfl, hca⟩ := Strs.at hln (i := i) (by rw [HM.out]; exact him)
        replace hca := hca i (by rw [HM.out]; exact him)
        obtain ⟨x, hx⟩ : ∃ x, xs.getD i ByteArray.empty = x := ⟨_, rfl⟩
        rw [hx] at hca
        clear hln
        rw [hx] at HSN
        clear hx hend
        go_wp2
        go_quiet (fail)
        obtain ⟨n1, hn1⟩ : ∃ k, nq = k := ⟨_, rfl⟩
        rw [hn1]
        clear hn1
        go_wp2
        go_quiet (fail)
        have hown2 := own_later hown (below_drawn (below_drawn (Below.refl _ _)) : Below wr.heap.size wr ((wr.drewN n1).drewN nq))
        have hb2 : Below B0 w0 ((wr.drewN n1).drewN nq) := hbl.trans (Below.mono (below_drawn (below_drawn (Below.refl _ _)) : Below wr.heap.size wr ((wr.drewN n1).drewN nq)) hszB)
        have hcx : ((wr.drewN n1).drewN nq).cell? ⟨ba, oa + i, none⟩ = some (.string x) := hca
        have hs2 : B0 ≤ ((wr.drewN n1).drewN nq).heap.size := hszB
        generalize (wr.drewN n1).drewN nq = W2 at hown2 hb2 hcx hs2 ⊢
        clear hown hbl hszB HC HAR HBR
        go_wp2_with (at_builtin; refine wpList_append_own _ rfl _ _ 66 rfl B0 82 i0 (.agg #[.int .u8 0, .string ByteArray.empty]) 2 24 Tryd.underlying66 hi0 hz0 hz1 hz2 rfl (by decide) _ _ _ rfl (hown2.alloc _) ⟨W2.heap.size, 0, none⟩ 1 1 [.int .u8 45, .string x] rfl rfl (cell_two_new _ _ _ _) (fun x hx => by simp at hx; rcases hx with rfl | rfl <;> rfl) (by unfold maxLen; omega) (by omega) (by simp; omega) ?_; intro v' w3 hown' hgrow3 hnil3)
        go_roundw
        case rel =>
          refine ⟨i + 1, j, done ++ [(45, x)], by omega, by omega, by go_num, by go_num, ?_, HSN.out, ?_⟩
          · exact (hb2.alloc (by omega) _).grown hgrow3 (by simp; omega) (fun j hj => (hown2.lt j hj).1)
          · rw [mcells_append, List.length_append]; exact hown'
        case measure => simp [intOf]; omega
      · -- a line is taken
        have hdl : done.length < 120 := by rw [hsc, List.length_cons] at HDL; omega
        have HSN : Hid ((done ++ [(45, xs.getD i ByteArray.empty)]) ++ scr (xs.drop (i + 1)) (ys.drop (j)) = scr xs ys) := by
          have := HD.out
          rw [hsc] at this
          show (done ++ [(45, xs.getD i ByteArray.empty)]) ++ scr (xs.drop (i + 1)) (ys.drop (j)) = scr xs ys
          rw [← this, List.append_assoc]; rfl
        clear hsc HD HDL HSC
        obtain ⟨R1, p1, _, _, r1⟩ := HC.out.at (i := i + 1) trivial (by omega)
        obtain ⟨R0, p0, _, _, r0⟩ := HC.out.at (i := i) trivial (by omega)
        have q1 := r1.cell (k := j) (by omega)
        have q0 := r0.cell (k := j) (by omega)
        have l1 := HCL.out (i + 1) j
        have l0 := HCL.out i j
        obtain ⟨v, hv⟩ : ∃ v, com (xs.drop (i + 1)) (ys.drop j) = v := ⟨_, rfl⟩
        obtain ⟨u, hu⟩ : ∃ u, com (xs.drop i) (ys.drop j) = u := ⟨_, rfl⟩
        rw [hv] at q1 l1 hcm
        rw [hu] at q0 l0 hcm
        clear r1 r0 hv hu
        subst hcm
        have hln := HAR.out
        obtain ⟨ba, oa, rfl, hca⟩ := Strs.at hln (i := i) (by rw [HM.out]; exact him)
        replace hca := hca i (by rw [HM.out]; exact him)
        obtain ⟨x, hx⟩ : ∃ x, xs.getD i ByteArray.empty = x := ⟨_, rfl⟩
        rw [hx] at hca
        clear hln
        have hln := HBR.out
        obtain ⟨bb, ob, rfl, hcb⟩ := Strs.at hln (i := j) (by rw [HN.out]; exact hjn)
        replace hcb := hcb j (by rw [HN.out]; exact hjn)
        obtain ⟨y, hy⟩ : ∃ y, ys.getD j ByteArray.empty = y := ⟨_, rfl⟩
        rw [hy] at hcb
        clear hln
        have he : (x.toList == y.toList) = false := by
          rw [hx, hy] at hxy
          exact Bool.eq_false_iff.2 fun e => hxy (bytes_eq e)
        rw [hx] at HSN
        clear hx hy hxy hend
        go_wp2
        go_quiet (fail)
        obtain ⟨n1, hn1⟩ : ∃ k, nq = k := ⟨_, rfl⟩
        rw [hn1]
        clear hn1
        go_wp2
        go_quiet (fail)
        have hown2 := own_later hown (below_drawn (below_drawn (Below.refl _ _)) : Below wr.heap.size wr ((wr.drewN n1).drewN nq))
        have hb2 : Below B0 w0 ((wr.drewN n1).drewN nq) := hbl.trans (Below.mono (below_drawn (below_drawn (Below.refl _ _)) : Below wr.heap.size wr ((wr.drewN n1).drewN nq)) hszB)
        have hcx : ((wr.drewN n1).drewN nq).cell? ⟨ba, oa + i, none⟩ = some (.string x) := hca
        have hs2 : B0 ≤ ((wr.drewN n1).drewN nq).heap.size := hszB
        generalize (wr.drewN n1).drewN nq = W2 at hown2 hb2 hcx hs2 ⊢
        clear hown hbl hszB HC HAR HBR
        go_wp2_with (at_builtin; refine wpList_append_own _ rfl _ _ 66 rfl B0 82 i0 (.agg #[.int .u8 0, .string ByteArray.empty]) 2 24 Tryd.underlying66 hi0 hz0 hz1 hz2 rfl (by decide) _ _ _ rfl (hown2.alloc _) ⟨W2.heap.size, 0, none⟩ 1 1 [.int .u8 45, .string x] rfl rfl (cell_two_new _ _ _ _) (fun x hx => by simp at hx; rcases hx with rfl | rfl <;> rfl) (by unfold maxLen; omega) (by omega) (by simp; omega) ?_; intro v' w3 hown' hgrow3 hnil3)
        go_roundw
        case rel =>
          refine ⟨i + 1, j, done ++ [(45, x)], by omega, by omega, by go_num, by go_num, ?_, HSN.out, ?_⟩
          · exact (hb2.alloc (by omega) _).grown hgrow3 (by simp; omega) (fun j hj => (hown2.lt j hj).1)
          · rw [mcells_append, List.length_append]; exact hown'
        case measure => simp [intOf]; omega
      · -- nothing is left of the old file
        have hdl : done.length < 120 := by rw [hsc, List.length_cons] at HDL; omega
        have HSN : Hid ((done ++ [(43, ys.getD j ByteArray.empty)]) ++ scr (xs.drop (i)) (ys.drop (j + 1)) = scr xs ys) := by
          have := HD.out
          rw [hsc] at this
          show (done ++ [(43, ys.getD j ByteArray.empty)]) ++ scr (xs.drop (i)) (ys.drop (j + 1)) = scr xs ys
          rw [← this, List.append_assoc]; rfl
        clear hsc HD HDL HSC
        subst him
        have hii : decide ((i : Int) < (i : Int)) = false := by simp
        have hln := HBR.out
        obtain ⟨bb, ob, rfl, hcb⟩ := Strs.at hln (i := j) (by rw [HN.out]; exact hjn)
        replace hcb := hcb j (by rw [HN.out]; exact hjn)
        obtain ⟨y, hy⟩ : ∃ y, ys.getD j ByteArray.empty = y := ⟨_, rfl⟩
        rw [hy] at hcb
        clear hln
        rw [hy] at HSN
        clear hy hend
        go_wp2
        go_quiet (fail)
        obtain ⟨n1, hn1⟩ : ∃ k, nq = k := ⟨_, rfl⟩
        rw [hn1]
        clear hn1
        go_wp2
        go_quiet (fail)
        have hown2 := own_later hown (below_drawn (below_drawn (Below.refl _ _)) : Below wr.heap.size wr ((wr.drewN n1).drewN nq))
        have hb2 : Below B0 w0 ((wr.drewN n1).drewN nq) := hbl.trans (Below.mono (below_drawn (below_drawn (Below.refl _ _)) : Below wr.heap.size wr ((wr.drewN n1).drewN nq)) hszB)
        have hcx : ((wr.drewN n1).drewN nq).cell? ⟨bb, ob + j, none⟩ = some (.string y) := hcb
        have hs2 : B0 ≤ ((wr.drewN n1).drewN nq).heap.size := hszB
        generalize (wr.drewN n1).drewN nq = W2 at hown2 hb2 hcx hs2 ⊢
        clear hown hbl hszB HC HAR HBR
        go_wp2_with (at_builtin; refine wpList_append_own _ rfl _ _ 66 rfl B0 82 i0 (.agg #[.int .u8 0, .string ByteArray.empty]) 2 24 Tryd.underlying66 hi0 hz0 hz1 hz2 rfl (by decide) _ _ _ rfl (hown2.alloc _) ⟨W2.heap.size, 0, none⟩ 1 1 [.int .u8 43, .string y] rfl rfl (cell_two_new _ _ _ _) (fun x hx => by simp at hx; rcases hx with rfl | rfl <;> rfl) (by unfold maxLen; omega) (by omega) (by simp; omega) ?_; intro v' w3 hown' hgrow3 hnil3)
        go_roundw
        case rel =>
          refine ⟨i, j + 1, done ++ [(43, y)], by omega, by omega, by go_num, by go_num, ?_, HSN.out, ?_⟩
          · exact (hb2.alloc (by omega) _).grown hgrow3 (by simp; omega) (fun j hj => (hown2.lt j hj).1)
          · rw [mcells_append, List.length_append]; exact hown'
        case measure => simp [intOf]; omega
      · -- a line is put
        have hdl : done.length < 120 := by rw [hsc, List.length_cons] at HDL; omega
        have HSN : Hid ((done ++ [(43, ys.getD j ByteArray.empty)]) ++ scr (xs.drop (i)) (ys.drop (j + 1)) = scr xs ys) := by
          have := HD.out
          rw [hsc] at this
          show (done ++ [(43, ys.getD j ByteArray.empty)]) ++ scr (xs.drop (i)) (ys.drop (j + 1)) = scr xs ys
          rw [← this, List.append_assoc]; rfl
        clear hsc HD HDL HSC
        obtain ⟨R1, p1, _, _, r1⟩ := HC.out.at (i := i + 1) trivial (by omega)
        obtain ⟨R0, p0, _, _, r0⟩ := HC.out.at (i := i) trivial (by omega)
        have q1 := r1.cell (k := j) (by omega)
        have q0 := r0.cell (k := j) (by omega)
        have l1 := HCL.out (i + 1) j
        have l0 := HCL.out i j
        obtain ⟨v, hv⟩ : ∃ v, com (xs.drop (i + 1)) (ys.drop j) = v := ⟨_, rfl⟩
        obtain ⟨u, hu⟩ : ∃ u, com (xs.drop i) (ys.drop j) = u := ⟨_, rfl⟩
        rw [hv] at q1 l1 hcm
        rw [hu] at q0 l0 hcm
        clear r1 r0 hv hu
        have hln := HAR.out
        obtain ⟨ba, oa, rfl, hca⟩ := Strs.at hln (i := i) (by rw [HM.out]; exact him)
        replace hca := hca i (by rw [HM.out]; exact him)
        obtain ⟨x, hx⟩ : ∃ x, xs.getD i ByteArray.empty = x := ⟨_, rfl⟩
        rw [hx] at hca
        clear hln
        have hln := HBR.out
        obtain ⟨bb, ob, rfl, hcb⟩ := Strs.at hln (i := j) (by rw [HN.out]; exact hjn)
        replace hcb := hcb j (by rw [HN.out]; exact hjn)
        obtain ⟨y, hy⟩ : ∃ y, ys.getD j ByteArray.empty = y := ⟨_, rfl⟩
        rw [hy] at hcb
        clear hln
        have he : (x.toList == y.toList) = false := by
          rw [hx, hy] at hxy
          exact Bool.eq_false_iff.2 fun e => hxy (bytes_eq e)
        have hcv : ((v : Int) == (u : Int)) = false := by simp; omega
        rw [hy] at HSN
        clear hx hy hxy hend hcm
        go_wp2
        go_quiet (fail)
        obtain ⟨n1, hn1⟩ : ∃ k, nq = k := ⟨_, rfl⟩
        rw [hn1]
        clear hn1
        go_wp2
        go_quiet (fail)
        have hown2 := own_later hown (below_drawn (below_drawn (Below.refl _ _)) : Below wr.heap.size wr ((wr.drewN n1).drewN nq))
        have hb2 : Below B0 w0 ((wr.drewN n1).drewN nq) := hbl.trans (Below.mono (below_drawn (below_drawn (Below.refl _ _)) : Below wr.heap.size wr ((wr.drewN n1).drewN nq)) hszB)
        have hcx : ((wr.drewN n1).drewN nq).cell? ⟨bb, ob + j, none⟩ = some (.string y) := hcb
        have hs2 : B0 ≤ ((wr.drewN n1).drewN nq).heap.size := hszB
        generalize (wr.drewN n1).drewN nq = W2 at hown2 hb2 hcx hs2 ⊢
        clear hown hbl hszB HC HAR HBR
        go_wp2_with (at_builtin; refine wpList_append_own _ rfl _ _ 66 rfl B0 82 i0 (.agg #[.int .u8 0, .string ByteArray.empty]) 2 24 Tryd.underlying66 hi0 hz0 hz1 hz2 rfl (by decide) _ _ _ rfl (hown2.alloc _) ⟨W2.heap.size, 0, none⟩ 1 1 [.int .u8 43, .string y] rfl rfl (cell_two_new _ _ _ _) (fun x hx => by simp at hx; rcases hx with rfl | rfl <;> rfl) (by unfold maxLen; omega) (by omega) (by simp; omega) ?_; intro v' w3 hown' hgrow3 hnil3)
        go_roundw
        case rel =>
          refine ⟨i, j + 1, done ++ [(43, y)], by omega, by omega, by go_num, by go_num, ?_, HSN.out, ?_⟩
          · exact (hb2.alloc (by omega) _).grown hgrow3 (by simp; omega) (fun j hj => (hown2.lt j hj).1)
          · rw [mcells_append, List.length_append]; exact hown'
        case measure => simp [intOf]; omega
    · have hi2 : i = m := by omega
      have hj2 : j = n := by omega
      subst hi2 hj2
      have hz : scr (xs.drop i) (ys.drop j) = [] := by rw [List.drop_of_length_le (by rw [HM.out]; exact Nat.le_refl _), List.drop_of_length_le (by rw [HN.out]; exact Nat.le_refl _), scr_nil]; rfl
      have hdone := HD.out
      rw [hz, List.append_nil] at hdone
      clear HSC HDL HD hz hend
      go_wp2
      go_ret
      subst hdone
      obtain ⟨a', cap, rfl, hmk⟩ := mks_of_own hown
      exact ⟨a', cap, rfl, hmk, HB0.out.trans (hbl.mono (by omega))⟩

end Go.Proofs.YtmidbhikhbbpbacDoor
