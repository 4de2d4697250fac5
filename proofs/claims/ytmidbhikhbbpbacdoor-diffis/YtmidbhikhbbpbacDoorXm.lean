/-
  Scripts that edit.Script and the document's own answer make, once more: each with room for its marks. Contracts in one form, fault or none: hunk.Turn, hunk.Cut, hunk.Make. Walk of the law ApplyMakes: it returns true and writes nothing that was there.
-/
import Derived.Test.YtmidbhikhbbpbacDoorScr
import Derived.Test.YtmidbhikhbbpbacDoorRefS
import Derived.Test.YtmidbhikhbbpbacDoorTurn
import Derived.Test.YtmidbhikhbbpbacDoorHsame
import Derived.Test.YtmidbhikhbbpbacDoorStrict
namespace Go.Proofs.YtmidbhikhbbpbacDoor
open Go.RowKit Dist

theorem mks_cap_own {B : Nat} {v : Value} {ms : List (Int × ByteArray)} {w : World} (h : w.ownsRow B 82 2 v ms.length (mcells ms)) : ∃ a cap, v = .slice a ms.length cap ∧ Mks w a ms ∧ ms.length ≤ cap := by
  obtain ⟨a, cap, rfl, hm⟩ := mks_of_own h
  refine ⟨a, cap, rfl, hm, ?_⟩
  rcases h.2 with ⟨h0, h1⟩ | ⟨g, c, cur, hv, _, _, hc, _⟩
  · rw [h1]; exact Nat.zero_le _
  · simp only [Value.slice.injEq] at hv
    rw [hv.2.2]; exact hc

set_option maxRecDepth 100000 in
set_option maxHeartbeats 2000000 in
theorem script_cap (a b : Option Addr) (xs ys : List ByteArray) (ca cb : Nat) (w : World) (ha : Strs w a xs) (hb : Strs w b ys) (hf : ff xs ys = 0) :
    Calls Tryd.prog 60 #[.slice a xs.length ca, .slice b ys.length cb] w fun e w' => ∃ a' cap, e = .returned (.tuple #[.slice a' (scr xs ys).length cap, .nilIface]) ∧ Mks w' a' (scr xs ys) ∧ Below w.heap.size w w' ∧ (scr xs ys).length ≤ cap := by
  obtain ⟨f1, f2⟩ := ff_zero hf
  have h1 := lsf_len f1
  have h2 := lsf_len f2
  have hck := checkBoth a b xs ys ca cb w ha hb (by unfold maxLen; omega) (by unfold maxLen; omega)
  have hte := toEnd a b xs ys ca cb w ha hb h1 h2
  rw [hf, errV_zero] at hck
  obtain ⟨i0, hi0, hz0, hz1, hz2⟩ := info_parts Tryd.infoMark
  have HXS : Hid (∀ i, i < xs.length → (xs.getD i ByteArray.empty).size ≤ 80) := fun i hi => line_small f1 hi
  have HYS : Hid (∀ i, i < ys.length → (ys.getD i ByteArray.empty).size ≤ 80) := fun i hi => line_small f2 hi
  have HSL : Hid ((scr xs ys).length ≤ 120) := by have := (scr_ok xs ys).2.2.2.1; show (scr xs ys).length ≤ 120; omega
  have HST := fun w' B i j ha hb => step a b xs ys ca cb B i j w' ha hb h1 h2
  have HSC := fun i j hi hj h => stp_cases (xs := xs) (ys := ys) (i := i) (j := j) hi hj h
  obtain ⟨m, hm⟩ : ∃ m, xs.length = m := ⟨_, rfl⟩
  obtain ⟨n, hn⟩ : ∃ n, ys.length = n := ⟨_, rfl⟩
  rw [hm] at h1 hck hte HST HSC HXS ⊢
  rw [hn] at h2 hck hte HST HSC HYS ⊢
  have HM : Hid (xs.length = m) := hm
  have HN : Hid (ys.length = n) := hn
  have HA : Hid (Strs w a xs) := ha
  have HBB : Hid (Strs w b ys) := hb
  clear hm hn ha hb f1 f2 hf
  obtain ⟨B, hB⟩ : ∃ B, w.heap.size = B := ⟨_, rfl⟩
  have HB : Hid (w.heap.size = B) := hB
  rw [hB] at hte ⊢
  clear hB
  go_enter Tryd.func60, Tryd.ntmps60
  go_wp2_with (first | (go_at_call 69; refine hck.mono ?_; rintro e w' ⟨rfl, hw⟩; rw [hw]) | (go_at_call 70; refine hte.mono ?_))
  rintro e w0 ⟨rfl, hb0, hs0, htab⟩
  clear hck hte
  have HT : Hid (Tab w0 B xs ys (fun i j => i ≤ m ∧ j ≤ n)) := htab
  have HB0 : Hid (Below B w w0) := hb0
  have HA0 : Hid (Strs w0 a xs) := HA.out.below (by rw [HB.out]; exact hb0)
  have HBB0 : Hid (Strs w0 b ys) := HBB.out.below (by rw [HB.out]; exact hb0)
  clear htab hb0 HA HBB
  obtain ⟨B0, hB0⟩ : ∃ B0, w0.heap.size = B0 := ⟨_, rfl⟩
  have HBZ : Hid (w0.heap.size = B0) := hB0
  rw [hB0] at hs0
  clear hB0
  go_wp2
  go_loopw [8, 9, 10] (fun v vi vj w1 => ∃ (i j : Nat) (done : List (Int × ByteArray)), i ≤ m ∧ j ≤ n ∧ vi = .int .i64 i ∧ vj = .int .i64 j ∧ Below B0 w0 w1 ∧ done ++ scr (xs.drop i) (ys.drop j) = scr xs ys ∧ w1.ownsRow B0 82 2 v done.length (mcells done)) (fun _ vi vj _ => (m - (intOf vi).toNat) + (n - (intOf vj).toNat))
  case atStart => exact ⟨0, 0, [], Nat.zero_le _, Nat.zero_le _, rfl, rfl, Below.refl _ _, rfl, ⟨rfl, Or.inl ⟨rfl, rfl⟩⟩⟩
  case round =>
    obtain ⟨i, j, done, hi, hj, rfl, rfl, hbl, hdone, hown⟩ := hrel
    have HD : Hid (done ++ scr (xs.drop i) (ys.drop j) = scr xs ys) := hdone
    have HDL : done.length + (scr (xs.drop i) (ys.drop j)).length ≤ 120 := by have := HSL.out; rw [← hdone, List.length_append] at this; exact this
    clear hdone
    have hszB : B0 ≤ wr.heap.size := by have := hbl.size; rw [HBZ.out] at this; exact this
    have hst := HST wr B i j (HA0.out.below (by rw [HBZ.out]; exact hbl)) (HBB0.out.below (by rw [HBZ.out]; exact hbl)) hi hj (HT.out.below (by rw [HBZ.out]; exact hbl) (by rw [HBZ.out]; exact hs0))
    by_cases hend : i < m ∨ j < n
    · rcases HSC i j hi hj hend with ⟨e, him, hjn, hsc⟩ | ⟨e, him, hsc⟩ | ⟨e, hjn, hsc⟩
      · rw [e] at hst
        have hdl : done.length < 120 := by rw [hsc, List.length_cons] at HDL; omega
        have HSN : Hid ((done ++ [(32, xs.getD i ByteArray.empty)]) ++ scr (xs.drop (i + 1)) (ys.drop (j + 1)) = scr xs ys) := by
          have := HD.out
          rw [hsc] at this
          show (done ++ [(32, xs.getD i ByteArray.empty)]) ++ scr (xs.drop (i + 1)) (ys.drop (j + 1)) = scr xs ys
          rw [← this, List.append_assoc]; rfl
        have hln := HA0.out
        obtain ⟨bb, ob, rfl, hcc⟩ := Strs.at hln (i := i) (by rw [HM.out]; exact him)
        replace hcc := hcc i (by rw [HM.out]; exact him)
        have hts := HXS.out i him
        obtain ⟨t, ht⟩ : ∃ t, xs.getD i ByteArray.empty = t := ⟨_, rfl⟩
        rw [ht] at hcc hts HSN
        clear hln HDL HSC HD hsc e ht HST
        go_wp2_with (go_at_call 71; refine hst.mono ?_)
        rintro e w1 ⟨rfl, hb1⟩
        have hown1 := own_later hown hb1
        have hb1 := hbl.trans (hb1.mono hszB)
        have hs1 : B0 ≤ w1.heap.size := by have := hb1.size; rw [HBZ.out] at this; exact this
        replace hcc := cell_later (by rw [HBZ.out]; exact hb1) hcc
        clear hst hown hbl hszB hend
        go_wp2_with (go_at_call 72; refine (markOf 32 t w1 hts).mono ?_)
        rintro e w2 ⟨rfl, hb2⟩
        have hown2 := own_later hown1 hb2
        have hb2 := hb1.trans (hb2.mono hs1)
        have hs2 : B0 ≤ w2.heap.size := by have := hb2.size; rw [HBZ.out] at this; exact this
        clear hown1 hb1 hs1 hcc
        go_wp2_with (at_builtin; refine wpList_append_own _ rfl _ _ 66 rfl B0 82 i0 (.agg #[.int .u8 0, .string ByteArray.empty]) 2 24 Tryd.underlying66 hi0 hz0 hz1 hz2 rfl (by decide) _ _ _ rfl (hown2.alloc _) ⟨w2.heap.size, 0, none⟩ 1 1 [.int .u8 32, .string t] rfl rfl (cell_two_new _ _ _ _) (fun x hx => by simp at hx; rcases hx with rfl | rfl <;> rfl) (by unfold maxLen; omega) (by omega) (by simp; omega) ?_; intro v' w3 hown' hgrow3 hnil3)
        go_roundw
        case rel =>
          refine ⟨i + 1, j + 1, done ++ [(32, t)], by omega, by omega, by go_num, by go_num, ?_, HSN.out, ?_⟩
          · exact (hb2.alloc (by omega) _).grown hgrow3 (by simp; omega) (fun j hj => (hown2.lt j hj).1)
          · rw [mcells_append, List.length_append]; exact hown'
        case measure => simp [intOf]; omega
      · rw [e] at hst
        have hdl : done.length < 120 := by rw [hsc, List.length_cons] at HDL; omega
        have HSN : Hid ((done ++ [(45, xs.getD i ByteArray.empty)]) ++ scr (xs.drop (i + 1)) (ys.drop (j)) = scr xs ys) := by
          have := HD.out
          rw [hsc] at this
          show (done ++ [(45, xs.getD i ByteArray.empty)]) ++ scr (xs.drop (i + 1)) (ys.drop (j)) = scr xs ys
          rw [← this, List.append_assoc]; rfl
        have hln := HA0.out
        obtain ⟨bb, ob, rfl, hcc⟩ := Strs.at hln (i := i) (by rw [HM.out]; exact him)
        replace hcc := hcc i (by rw [HM.out]; exact him)
        have hts := HXS.out i him
        obtain ⟨t, ht⟩ : ∃ t, xs.getD i ByteArray.empty = t := ⟨_, rfl⟩
        rw [ht] at hcc hts HSN
        clear hln HDL HSC HD hsc e ht HST
        go_wp2_with (go_at_call 71; refine hst.mono ?_)
        rintro e w1 ⟨rfl, hb1⟩
        have hown1 := own_later hown hb1
        have hb1 := hbl.trans (hb1.mono hszB)
        have hs1 : B0 ≤ w1.heap.size := by have := hb1.size; rw [HBZ.out] at this; exact this
        replace hcc := cell_later (by rw [HBZ.out]; exact hb1) hcc
        clear hst hown hbl hszB hend
        go_wp2_with (go_at_call 72; refine (markOf 45 t w1 hts).mono ?_)
        rintro e w2 ⟨rfl, hb2⟩
        have hown2 := own_later hown1 hb2
        have hb2 := hb1.trans (hb2.mono hs1)
        have hs2 : B0 ≤ w2.heap.size := by have := hb2.size; rw [HBZ.out] at this; exact this
        clear hown1 hb1 hs1 hcc
        go_wp2_with (at_builtin; refine wpList_append_own _ rfl _ _ 66 rfl B0 82 i0 (.agg #[.int .u8 0, .string ByteArray.empty]) 2 24 Tryd.underlying66 hi0 hz0 hz1 hz2 rfl (by decide) _ _ _ rfl (hown2.alloc _) ⟨w2.heap.size, 0, none⟩ 1 1 [.int .u8 45, .string t] rfl rfl (cell_two_new _ _ _ _) (fun x hx => by simp at hx; rcases hx with rfl | rfl <;> rfl) (by unfold maxLen; omega) (by omega) (by simp; omega) ?_; intro v' w3 hown' hgrow3 hnil3)
        go_roundw
        case rel =>
          refine ⟨i + 1, j, done ++ [(45, t)], by omega, by omega, by go_num, by go_num, ?_, HSN.out, ?_⟩
          · exact (hb2.alloc (by omega) _).grown hgrow3 (by simp; omega) (fun j hj => (hown2.lt j hj).1)
          · rw [mcells_append, List.length_append]; exact hown'
        case measure => simp [intOf]; omega
      · rw [e] at hst
        have hdl : done.length < 120 := by rw [hsc, List.length_cons] at HDL; omega
        have HSN : Hid ((done ++ [(43, ys.getD j ByteArray.empty)]) ++ scr (xs.drop (i)) (ys.drop (j + 1)) = scr xs ys) := by
          have := HD.out
          rw [hsc] at this
          show (done ++ [(43, ys.getD j ByteArray.empty)]) ++ scr (xs.drop (i)) (ys.drop (j + 1)) = scr xs ys
          rw [← this, List.append_assoc]; rfl
        have hln := HBB0.out
        obtain ⟨bb, ob, rfl, hcc⟩ := Strs.at hln (i := j) (by rw [HN.out]; exact hjn)
        replace hcc := hcc j (by rw [HN.out]; exact hjn)
        have hts := HYS.out j hjn
        obtain ⟨t, ht⟩ : ∃ t, ys.getD j ByteArray.empty = t := ⟨_, rfl⟩
        rw [ht] at hcc hts HSN
        clear hln HDL HSC HD hsc e ht HST
        by_cases hg : i < m
        all_goals
          go_wp2_with (go_at_call 71; refine hst.mono ?_)
          rintro e w1 ⟨rfl, hb1⟩
          have hown1 := own_later hown hb1
          have hb1 := hbl.trans (hb1.mono hszB)
          have hs1 : B0 ≤ w1.heap.size := by have := hb1.size; rw [HBZ.out] at this; exact this
          replace hcc := cell_later (by rw [HBZ.out]; exact hb1) hcc
          clear hst hown hbl hszB hend
          go_wp2_with (go_at_call 72; refine (markOf 43 t w1 hts).mono ?_)
          rintro e w2 ⟨rfl, hb2⟩
          have hown2 := own_later hown1 hb2
          have hb2 := hb1.trans (hb2.mono hs1)
          have hs2 : B0 ≤ w2.heap.size := by have := hb2.size; rw [HBZ.out] at this; exact this
          clear hown1 hb1 hs1 hcc
          go_wp2_with (at_builtin; refine wpList_append_own _ rfl _ _ 66 rfl B0 82 i0 (.agg #[.int .u8 0, .string ByteArray.empty]) 2 24 Tryd.underlying66 hi0 hz0 hz1 hz2 rfl (by decide) _ _ _ rfl (hown2.alloc _) ⟨w2.heap.size, 0, none⟩ 1 1 [.int .u8 43, .string t] rfl rfl (cell_two_new _ _ _ _) (fun x hx => by simp at hx; rcases hx with rfl | rfl <;> rfl) (by unfold maxLen; omega) (by omega) (by simp; omega) ?_; intro v' w3 hown' hgrow3 hnil3)
          go_roundw
          case rel =>
            refine ⟨i, j + 1, done ++ [(43, t)], by omega, by omega, by go_num, by go_num, ?_, HSN.out, ?_⟩
            · exact (hb2.alloc (by omega) _).grown hgrow3 (by simp; omega) (fun j hj => (hown2.lt j hj).1)
            · rw [mcells_append, List.length_append]; exact hown'
          case measure => simp [intOf]; omega
    · have hi2 : i = m := by omega
      have hj2 : j = n := by omega
      subst hi2 hj2
      have hz : scr (xs.drop i) (ys.drop j) = [] := by rw [List.drop_of_length_le (by rw [HM.out]; exact Nat.le_refl _), List.drop_of_length_le (by rw [HN.out]; exact Nat.le_refl _), scr_nil]; rfl
      have hdone := HD.out
      rw [hz, List.append_nil] at hdone
      clear hst HST HSC HDL HD hz hend
      go_wp2
      go_ret2
      subst hdone
      obtain ⟨a', cap, rfl, hmk, hcp⟩ := mks_cap_own hown
      exact ⟨a', cap, rfl, hmk, HB0.out.trans (hbl.mono (by omega)), hcp⟩

set_option maxRecDepth 100000 in
set_option maxHeartbeats 2000000 in
theorem refScriptCap (a b : Option Addr) (xs ys : List ByteArray) (ca cb : Nat) (w : World) (ha : Strs w a xs) (hb : Strs w b ys) (h1 : xs.length ≤ 60) (h2 : ys.length ≤ 60) :
    Calls Tryd.prog 33 #[.slice a xs.length ca, .slice b ys.length cb] w fun e w' => ∃ a' cap, e = .returned (.slice a' (scr xs ys).length cap) ∧ Mks w' a' (scr xs ys) ∧ Below w.heap.size w w' ∧ (scr xs ys).length ≤ cap := by
  have hco := common a b xs ys ca cb w ha hb h1 h2
  obtain ⟨i0, hi0, hz0, hz1, hz2⟩ := info_parts Tryd.infoMark
  have HSL : Hid ((scr xs ys).length ≤ 120) := by have := (scr_ok xs ys).2.2.2.1; show (scr xs ys).length ≤ 120; omega
  have HSC := fun i j hi hj h => ref_cases (xs := xs) (ys := ys) (i := i) (j := j) hi hj h
  have HCL : Hid (∀ i j, com (xs.drop i) (ys.drop j) ≤ 60) := fun i j => by have := com_le (a := xs.drop i) (b := ys.drop j); rw [List.length_drop] at this; omega
  obtain ⟨m, hm⟩ : ∃ m, xs.length = m := ⟨_, rfl⟩
  obtain ⟨n, hn⟩ : ∃ n, ys.length = n := ⟨_, rfl⟩
  rw [hm] at h1 hco HSC ⊢
  rw [hn] at h2 hco HSC ⊢
  have HM : Hid (xs.length = m) := hm
  have HN : Hid (ys.length = n) := hn
  have HA : Hid (Strs w a xs) := ha
  have HBB : Hid (Strs w b ys) := hb
  clear hm hn ha hb
  obtain ⟨B, hB⟩ : ∃ B, w.heap.size = B := ⟨_, rfl⟩
  have HB : Hid (w.heap.size = B) := hB
  rw [hB] at hco ⊢
  clear hB
  go_enter Tryd.func33, Tryd.ntmps33
  go_wp2_with (go_at_call 48; refine hco.mono ?_)
  rintro e w0 ⟨rfl, hb0, hs0, hcom⟩
  clear hco
  obtain ⟨B0, hB0⟩ : ∃ B0, w0.heap.size = B0 := ⟨_, rfl⟩
  rw [hB0] at hs0 hcom
  have HBZ : Hid (w0.heap.size = B0) := hB0
  have HT : Hid (Com w0 B B0 m n xs ys (fun _ => True)) := hcom
  have HB0 : Hid (Below B w w0) := hb0
  have HA0 : Hid (Strs w0 a xs) := HA.out.below (by rw [HB.out]; exact hb0)
  have HBB0 : Hid (Strs w0 b ys) := HBB.out.below (by rw [HB.out]; exact hb0)
  clear hcom hb0 HA HBB hB0
  go_wp2
  go_loopw [6, 7, 8] (fun v vi vj w1 => ∃ (i j : Nat) (done : List (Int × ByteArray)), i ≤ m ∧ j ≤ n ∧ vi = .int .i64 i ∧ vj = .int .i64 j ∧ Below B0 w0 w1 ∧ done ++ scr (xs.drop i) (ys.drop j) = scr xs ys ∧ w1.ownsRow B0 82 2 v done.length (mcells done)) (fun _ vi vj _ => (m - (intOf vi).toNat) + (n - (intOf vj).toNat))
  case atStart => exact ⟨0, 0, [], Nat.zero_le _, Nat.zero_le _, rfl, rfl, Below.refl _ _, rfl, ⟨rfl, Or.inl ⟨rfl, rfl⟩⟩⟩
  case round =>
    obtain ⟨i, j, done, hi, hj, rfl, rfl, hbl, hdone, hown⟩ := hrel
    have HD : Hid (done ++ scr (xs.drop i) (ys.drop j) = scr xs ys) := hdone
    have HDL : done.length + (scr (xs.drop i) (ys.drop j)).length ≤ 120 := by have := HSL.out; rw [← hdone, List.length_append] at this; exact this
    clear hdone
    have hszB : B0 ≤ wr.heap.size := by have := hbl.size; rw [HBZ.out] at this; exact this
    have HC : Hid (Com wr B B0 m n xs ys (fun _ => True)) := HT.out.below hbl hs0
    have HAR : Hid (Strs wr a xs) := HA0.out.below (by rw [HBZ.out]; exact hbl)
    have HBR : Hid (Strs wr b ys) := HBB0.out.below (by rw [HBZ.out]; exact hbl)
    by_cases hend : i < m ∨ j < n
    · rcases HSC i j hi hj hend with ⟨him, hjn, hxy, hcm, hsc⟩ | ⟨him, hjn, hcm, hsc⟩ | ⟨him, hjn, hxy, hcm, hsc⟩ | ⟨him, hjn, hsc⟩ | ⟨him, hjn, hxy, hcm, hsc⟩
      · -- a line is kept
        have hdl : done.length < 120 := by rw [hsc, List.length_cons] at HDL; omega
        have HSN : Hid ((done ++ [(32, xs.getD i ByteArray.empty)]) ++ scr (xs.drop (i + 1)) (ys.drop (j + 1)) = scr xs ys) := by
          have := HD.out
          rw [hsc] at this
          show (done ++ [(32, xs.getD i ByteArray.empty)]) ++ scr (xs.drop (i + 1)) (ys.drop (j + 1)) = scr xs ys
          rw [← this, List.append_assoc]; rfl
        clear hsc HD HDL HSC
        obtain ⟨R1, p1, _, _, r1⟩ := HC.out.at (i := i + 1) trivial (by omega)
        obtain ⟨R0, p0, _, _, r0⟩ := HC.out.at (i := i) trivial (by omega)
        have q1 := r1.cell (k := j + 1) (by omega)
        have q0 := r0.cell (k := j) (by omega)
        have l1 := HCL.out (i + 1) (j + 1)
        rw [← hcm] at q0
        obtain ⟨v, hv⟩ : ∃ v, com (xs.drop (i + 1)) (ys.drop (j + 1)) = v := ⟨_, rfl⟩
        rw [hv] at q1 q0 l1
        have q0' : wr.cell? ⟨R0, j, none⟩ = some (.int .i64 ((v : Int) + 1)) := q0
        clear q0 hcm r1 r0 hv
        have hln := HAR.out
        obtain ⟨ba, oa, rfl, hca⟩ := Strs.at hln (i := i) (by rw [HM.out]; exact him)
        replace hca := hca i (by rw [HM.out]; exact him)
        obtain ⟨x, hx⟩ : ∃ x, xs.getD i ByteArray.empty = x := ⟨_, rfl⟩
        rw [hx] at hca
        clear hln
        have hln := HBR.out
        obtain ⟨bb, ob, rfl, hcb⟩ := Strs.at hln (i := j) (by rw [HN.out]; exact hjn)
        replace hcb := hcb j (by rw [HN.out]; exact hjn)
        obtain ⟨y, hy⟩ : ∃ y, ys.getD j ByteArray.empty = y := ⟨_, rfl⟩
        rw [hy] at hcb
        clear hln
        have he : (x.toList == y.toList) = true := by rw [← hx, ← hy, hxy]; simp
        rw [hx] at HSN
        clear hx hy hxy hend
        go_wp2
        go_quiet (fail)
        have hown2 := own_later hown (below_drawn (Below.refl _ _) : Below wr.heap.size wr (wr.drewN nq))
        have hb2 : Below B0 w0 (wr.drewN nq) := hbl.trans (Below.mono (below_drawn (Below.refl _ _) : Below wr.heap.size wr (wr.drewN nq)) hszB)
        have hcx : (wr.drewN nq).cell? ⟨ba, oa + i, none⟩ = some (.string x) := hca
        have hs2 : B0 ≤ (wr.drewN nq).heap.size := hszB
        generalize wr.drewN nq = W2 at hown2 hb2 hcx hs2 ⊢
        clear hown hbl hszB HC HAR HBR
        go_wp2_with (at_builtin; refine wpList_append_own _ rfl _ _ 66 rfl B0 82 i0 (.agg #[.int .u8 0, .string ByteArray.empty]) 2 24 Tryd.underlying66 hi0 hz0 hz1 hz2 rfl (by decide) _ _ _ rfl (hown2.alloc _) ⟨W2.heap.size, 0, none⟩ 1 1 [.int .u8 32, .string x] rfl rfl (cell_two_new _ _ _ _) (fun x hx => by simp at hx; rcases hx with rfl | rfl <;> rfl) (by unfold maxLen; omega) (by omega) (by simp; omega) ?_; intro v' w3 hown' hgrow3 hnil3)
        go_roundw
        case rel =>
          refine ⟨i + 1, j + 1, done ++ [(32, x)], by omega, by omega, by go_num, by go_num, ?_, HSN.out, ?_⟩
          · exact (hb2.alloc (by omega) _).grown hgrow3 (by simp; omega) (fun j hj => (hown2.lt j hj).1)
          · rw [mcells_append, List.length_append]; exact hown'
        case measure => simp [intOf]; omega
      · -- nothing is left of the new file
        have hdl : done.length < 120 := by rw [hsc, List.length_cons] at HDL; omega
        have HSN : Hid ((done ++ [(45, xs.getD i ByteArray.empty)]) ++ scr (xs.drop (i + 1)) (ys.drop (j)) = scr xs ys) := by
          have := HD.out
          rw [hsc] at this
          show (done ++ [(45, xs.getD i ByteArray.empty)]) ++ scr (xs.drop (i + 1)) (ys.drop (j)) = scr xs ys
          rw [← this, List.append_assoc]; rfl
        clear hsc HD HDL HSC
        obtain ⟨R1, p1, _, _, r1⟩ := HC.out.at (i := i + 1) trivial (by omega)
        obtain ⟨R0, p0, _, _, r0⟩ := HC.out.at (i := i) trivial (by omega)
        have q1 := r1.cell (k := j) (by omega)
        have q0 := r0.cell (k := j) (by omega)
        have l1 := HCL.out (i + 1) j
        have l0 := HCL.out i j
        obtain ⟨v, hv⟩ : ∃ v, com (xs.drop (i + 1)) (ys.drop j) = v := ⟨_, rfl⟩
        obtain ⟨u, hu⟩ : ∃ u, com (xs.drop i) (ys.drop j) = u := ⟨_, rfl⟩
        rw [hv] at q1 l1 hcm
        rw [hu] at q0 l0 hcm
        clear r1 r0 hv hu
        subst hcm
        subst hjn
        have hjj : decide ((j : Int) < (j : Int)) = false := by simp
        have hln := HAR.out
        obtain ⟨ba, oa, rfl, hca⟩ := Strs.at hln (i := i) (by rw [HM.out]; exact him)
        replace hca := hca i (by rw [HM.out]; exact him)
        obtain ⟨x, hx⟩ : ∃ x, xs.getD i ByteArray.empty = x := ⟨_, rfl⟩
        rw [hx] at hca
        clear hln
        rw [hx] at HSN
        clear hx hend
        go_wp2
        go_quiet (fail)
        obtain ⟨n1, hn1⟩ : ∃ k, nq = k := ⟨_, rfl⟩
        rw [hn1]
        clear hn1
        go_wp2
        go_quiet (fail)
        have hown2 := own_later hown (below_drawn (below_drawn (Below.refl _ _)) : Below wr.heap.size wr ((wr.drewN n1).drewN nq))
        have hb2 : Below B0 w0 ((wr.drewN n1).drewN nq) := hbl.trans (Below.mono (below_drawn (below_drawn (Below.refl _ _)) : Below wr.heap.size wr ((wr.drewN n1).drewN nq)) hszB)
        have hcx : ((wr.drewN n1).drewN nq).cell? ⟨ba, oa + i, none⟩ = some (.string x) := hca
        have hs2 : B0 ≤ ((wr.drewN n1).drewN nq).heap.size := hszB
        generalize (wr.drewN n1).drewN nq = W2 at hown2 hb2 hcx hs2 ⊢
        clear hown hbl hszB HC HAR HBR
        go_wp2_with (at_builtin; refine wpList_append_own _ rfl _ _ 66 rfl B0 82 i0 (.agg #[.int .u8 0, .string ByteArray.empty]) 2 24 Tryd.underlying66 hi0 hz0 hz1 hz2 rfl (by decide) _ _ _ rfl (hown2.alloc _) ⟨W2.heap.size, 0, none⟩ 1 1 [.int .u8 45, .string x] rfl rfl (cell_two_new _ _ _ _) (fun x hx => by simp at hx; rcases hx with rfl | rfl <;> rfl) (by unfold maxLen; omega) (by omega) (by simp; omega) ?_; intro v' w3 hown' hgrow3 hnil3)
        go_roundw
        case rel =>
          refine ⟨i + 1, j, done ++ [(45, x)], by omega, by omega, by go_num, by go_num, ?_, HSN.out, ?_⟩
          · exact (hb2.alloc (by omega) _).grown hgrow3 (by simp; omega) (fun j hj => (hown2.lt j hj).1)
          · rw [mcells_append, List.length_append]; exact hown'
        case measure => simp [intOf]; omega
      · -- a line is taken
        have hdl : done.length < 120 := by rw [hsc, List.length_cons] at HDL; omega
        have HSN : Hid ((done ++ [(45, xs.getD i ByteArray.empty)]) ++ scr (xs.drop (i + 1)) (ys.drop (j)) = scr xs ys) := by
          have := HD.out
          rw [hsc] at this
          show (done ++ [(45, xs.getD i ByteArray.empty)]) ++ scr (xs.drop (i + 1)) (ys.drop (j)) = scr xs ys
          rw [← this, List.append_assoc]; rfl
        clear hsc HD HDL HSC
        obtain ⟨R1, p1, _, _, r1⟩ := HC.out.at (i := i + 1) trivial (by omega)
        obtain ⟨R0, p0, _, _, r0⟩ := HC.out.at (i := i) trivial (by omega)
        have q1 := r1.cell (k := j) (by omega)
        have q0 := r0.cell (k := j) (by omega)
        have l1 := HCL.out (i + 1) j
        have l0 := HCL.out i j
        obtain ⟨v, hv⟩ : ∃ v, com (xs.drop (i + 1)) (ys.drop j) = v := ⟨_, rfl⟩
        obtain ⟨u, hu⟩ : ∃ u, com (xs.drop i) (ys.drop j) = u := ⟨_, rfl⟩
        rw [hv] at q1 l1 hcm
        rw [hu] at q0 l0 hcm
        clear r1 r0 hv hu
        subst hcm
        have hln := HAR.out
        obtain ⟨ba, oa, rfl, hca⟩ := Strs.at hln (i := i) (by rw [HM.out]; exact him)
        replace hca := hca i (by rw [HM.out]; exact him)
        obtain ⟨x, hx⟩ : ∃ x, xs.getD i ByteArray.empty = x := ⟨_, rfl⟩
        rw [hx] at hca
        clear hln
        have hln := HBR.out
        obtain ⟨bb, ob, rfl, hcb⟩ := Strs.at hln (i := j) (by rw [HN.out]; exact hjn)
        replace hcb := hcb j (by rw [HN.out]; exact hjn)
        obtain ⟨y, hy⟩ : ∃ y, ys.getD j ByteArray.empty = y := ⟨_, rfl⟩
        rw [hy] at hcb
        clear hln
        have he : (x.toList == y.toList) = false := by
          rw [hx, hy] at hxy
          exact Bool.eq_false_iff.2 fun e => hxy (bytes_eq e)
        rw [hx] at HSN
        clear hx hy hxy hend
        go_wp2
        go_quiet (fail)
        obtain ⟨n1, hn1⟩ : ∃ k, nq = k := ⟨_, rfl⟩
        rw [hn1]
        clear hn1
        go_wp2
        go_quiet (fail)
        have hown2 := own_later hown (below_drawn (below_drawn (Below.refl _ _)) : Below wr.heap.size wr ((wr.drewN n1).drewN nq))
        have hb2 : Below B0 w0 ((wr.drewN n1).drewN nq) := hbl.trans (Below.mono (below_drawn (below_drawn (Below.refl _ _)) : Below wr.heap.size wr ((wr.drewN n1).drewN nq)) hszB)
        have hcx : ((wr.drewN n1).drewN nq).cell? ⟨ba, oa + i, none⟩ = some (.string x) := hca
        have hs2 : B0 ≤ ((wr.drewN n1).drewN nq).heap.size := hszB
        generalize (wr.drewN n1).drewN nq = W2 at hown2 hb2 hcx hs2 ⊢
        clear hown hbl hszB HC HAR HBR
        go_wp2_with (at_builtin; refine wpList_append_own _ rfl _ _ 66 rfl B0 82 i0 (.agg #[.int .u8 0, .string ByteArray.empty]) 2 24 Tryd.underlying66 hi0 hz0 hz1 hz2 rfl (by decide) _ _ _ rfl (hown2.alloc _) ⟨W2.heap.size, 0, none⟩ 1 1 [.int .u8 45, .string x] rfl rfl (cell_two_new _ _ _ _) (fun x hx => by simp at hx; rcases hx with rfl | rfl <;> rfl) (by unfold maxLen; omega) (by omega) (by simp; omega) ?_; intro v' w3 hown' hgrow3 hnil3)
        go_roundw
        case rel =>
          refine ⟨i + 1, j, done ++ [(45, x)], by omega, by omega, by go_num, by go_num, ?_, HSN.out, ?_⟩
          · exact (hb2.alloc (by omega) _).grown hgrow3 (by simp; omega) (fun j hj => (hown2.lt j hj).1)
          · rw [mcells_append, List.length_append]; exact hown'
        case measure => simp [intOf]; omega
      · -- nothing is left of the old file
        have hdl : done.length < 120 := by rw [hsc, List.length_cons] at HDL; omega
        have HSN : Hid ((done ++ [(43, ys.getD j ByteArray.empty)]) ++ scr (xs.drop (i)) (ys.drop (j + 1)) = scr xs ys) := by
          have := HD.out
          rw [hsc] at this
          show (done ++ [(43, ys.getD j ByteArray.empty)]) ++ scr (xs.drop (i)) (ys.drop (j + 1)) = scr xs ys
          rw [← this, List.append_assoc]; rfl
        clear hsc HD HDL HSC
        subst him
        have hii : decide ((i : Int) < (i : Int)) = false := by simp
        have hln := HBR.out
        obtain ⟨bb, ob, rfl, hcb⟩ := Strs.at hln (i := j) (by rw [HN.out]; exact hjn)
        replace hcb := hcb j (by rw [HN.out]; exact hjn)
        obtain ⟨y, hy⟩ : ∃ y, ys.getD j ByteArray.empty = y := ⟨_, rfl⟩
        rw [hy] at hcb
        clear hln
        rw [hy] at HSN
        clear hy hend
        go_wp2
        go_quiet (fail)
        obtain ⟨n1, hn1⟩ : ∃ k, nq = k := ⟨_, rfl⟩
        rw [hn1]
        clear hn1
        go_wp2
        go_quiet (fail)
        have hown2 := own_later hown (below_drawn (below_drawn (Below.refl _ _)) : Below wr.heap.size wr ((wr.drewN n1).drewN nq))
        have hb2 : Below B0 w0 ((wr.drewN n1).drewN nq) := hbl.trans (Below.mono (below_drawn (below_drawn (Below.refl _ _)) : Below wr.heap.size wr ((wr.drewN n1).drewN nq)) hszB)
        have hcx : ((wr.drewN n1).drewN nq).cell? ⟨bb, ob + j, none⟩ = some (.string y) := hcb
        have hs2 : B0 ≤ ((wr.drewN n1).drewN nq).heap.size := hszB
        generalize (wr.drewN n1).drewN nq = W2 at hown2 hb2 hcx hs2 ⊢
        clear hown hbl hszB HC HAR HBR
        go_wp2_with (at_builtin; refine wpList_append_own _ rfl _ _ 66 rfl B0 82 i0 (.agg #[.int .u8 0, .string ByteArray.empty]) 2 24 Tryd.underlying66 hi0 hz0 hz1 hz2 rfl (by decide) _ _ _ rfl (hown2.alloc _) ⟨W2.heap.size, 0, none⟩ 1 1 [.int .u8 43, .string y] rfl rfl (cell_two_new _ _ _ _) (fun x hx => by simp at hx; rcases hx with rfl | rfl <;> rfl) (by unfold maxLen; omega) (by omega) (by simp; omega) ?_; intro v' w3 hown' hgrow3 hnil3)
        go_roundw
        case rel =>
          refine ⟨i, j + 1, done ++ [(43, y)], by omega, by omega, by go_num, by go_num, ?_, HSN.out, ?_⟩
          · exact (hb2.alloc (by omega) _).grown hgrow3 (by simp; omega) (fun j hj => (hown2.lt j hj).1)
          · rw [mcells_append, List.length_append]; exact hown'
        case measure => simp [intOf]; omega
      · -- a line is put
        have hdl : done.length < 120 := by rw [hsc, List.length_cons] at HDL; omega
        have HSN : Hid ((done ++ [(43, ys.getD j ByteArray.empty)]) ++ scr (xs.drop (i)) (ys.drop (j + 1)) = scr xs ys) := by
          have := HD.out
          rw [hsc] at this
          show (done ++ [(43, ys.getD j ByteArray.empty)]) ++ scr (xs.drop (i)) (ys.drop (j + 1)) = scr xs ys
          rw [← this, List.append_assoc]; rfl
        clear hsc HD HDL HSC
        obtain ⟨R1, p1, _, _, r1⟩ := HC.out.at (i := i + 1) trivial (by omega)
        obtain ⟨R0, p0, _, _, r0⟩ := HC.out.at (i := i) trivial (by omega)
        have q1 := r1.cell (k := j) (by omega)
        have q0 := r0.cell (k := j) (by omega)
        have l1 := HCL.out (i + 1) j
        have l0 := HCL.out i j
        obtain ⟨v, hv⟩ : ∃ v, com (xs.drop (i + 1)) (ys.drop j) = v := ⟨_, rfl⟩
        obtain ⟨u, hu⟩ : ∃ u, com (xs.drop i) (ys.drop j) = u := ⟨_, rfl⟩
        rw [hv] at q1 l1 hcm
        rw [hu] at q0 l0 hcm
        clear r1 r0 hv hu
        have hln := HAR.out
        obtain ⟨ba, oa, rfl, hca⟩ := Strs.at hln (i := i) (by rw [HM.out]; exact him)
        replace hca := hca i (by rw [HM.out]; exact him)
        obtain ⟨x, hx⟩ : ∃ x, xs.getD i ByteArray.empty = x := ⟨_, rfl⟩
        rw [hx] at hca
        clear hln
        have hln := HBR.out
        obtain ⟨bb, ob, rfl, hcb⟩ := Strs.at hln (i := j) (by rw [HN.out]; exact hjn)
        replace hcb := hcb j (by rw [HN.out]; exact hjn)
        obtain ⟨y, hy⟩ : ∃ y, ys.getD j ByteArray.empty = y := ⟨_, rfl⟩
        rw [hy] at hcb
        clear hln
        have he : (x.toList == y.toList) = false := by
          rw [hx, hy] at hxy
          exact Bool.eq_false_iff.2 fun e => hxy (bytes_eq e)
        have hcv : ((v : Int) == (u : Int)) = false := by simp; omega
        rw [hy] at HSN
        clear hx hy hxy hend hcm
        go_wp2
        go_quiet (fail)
        obtain ⟨n1, hn1⟩ : ∃ k, nq = k := ⟨_, rfl⟩
        rw [hn1]
        clear hn1
        go_wp2
        go_quiet (fail)
        have hown2 := own_later hown (below_drawn (below_drawn (Below.refl _ _)) : Below wr.heap.size wr ((wr.drewN n1).drewN nq))
        have hb2 : Below B0 w0 ((wr.drewN n1).drewN nq) := hbl.trans (Below.mono (below_drawn (below_drawn (Below.refl _ _)) : Below wr.heap.size wr ((wr.drewN n1).drewN nq)) hszB)
        have hcx : ((wr.drewN n1).drewN nq).cell? ⟨bb, ob + j, none⟩ = some (.string y) := hcb
        have hs2 : B0 ≤ ((wr.drewN n1).drewN nq).heap.size := hszB
        generalize (wr.drewN n1).drewN nq = W2 at hown2 hb2 hcx hs2 ⊢
        clear hown hbl hszB HC HAR HBR
        go_wp2_with (at_builtin; refine wpList_append_own _ rfl _ _ 66 rfl B0 82 i0 (.agg #[.int .u8 0, .string ByteArray.empty]) 2 24 Tryd.underlying66 hi0 hz0 hz1 hz2 rfl (by decide) _ _ _ rfl (hown2.alloc _) ⟨W2.heap.size, 0, none⟩ 1 1 [.int .u8 43, .string y] rfl rfl (cell_two_new _ _ _ _) (fun x hx => by simp at hx; rcases hx with rfl | rfl <;> rfl) (by unfold maxLen; omega) (by omega) (by simp; omega) ?_; intro v' w3 hown' hgrow3 hnil3)
        go_roundw
        case rel =>
          refine ⟨i, j + 1, done ++ [(43, y)], by omega, by omega, by go_num, by go_num, ?_, HSN.out, ?_⟩
          · exact (hb2.alloc (by omega) _).grown hgrow3 (by simp; omega) (fun j hj => (hown2.lt j hj).1)
          · rw [mcells_append, List.length_append]; exact hown'
        case measure => simp [intOf]; omega
    · have hi2 : i = m := by omega
      have hj2 : j = n := by omega
      subst hi2 hj2
      have hz : scr (xs.drop i) (ys.drop j) = [] := by rw [List.drop_of_length_le (by rw [HM.out]; exact Nat.le_refl _), List.drop_of_length_le (by rw [HN.out]; exact Nat.le_refl _), scr_nil]; rfl
      have hdone := HD.out
      rw [hz, List.append_nil] at hdone
      clear HSC HDL HD hz hend
      go_wp2
      go_ret
      subst hdone
      obtain ⟨a', cap, rfl, hmk, hcp⟩ := mks_cap_own hown
      exact ⟨a', cap, rfl, hmk, HB0.out.trans (hbl.mono (by omega)), hcp⟩

end Go.Proofs.YtmidbhikhbbpbacDoor
namespace Go.Proofs.YtmidbhikhbbpbacDoor
open Go.RowKit Dist

/-- Hunks turned, or none where there is a fault. -/
def tOfH (l : List (Int × Int × List (Int × ByteArray))) : List (Int × Int × List (Int × ByteArray)) := if (hf l).2 = 0 then trn l else []
/-- Pieces, or none where there is a fault. -/
def cOfH (ms : List (Int × ByteArray)) (n : Int) : List (Int × Int × List (Int × ByteArray)) := if cf ms n = 0 then cut ms n.toNat else []
/-- The fault of Make. -/
def mkf (xs ys : List ByteArray) (n : Int) : Int := if ff xs ys ≠ 0 then ff xs ys else if n < 0 ∨ 1000 < n then 1 else 0

def mOfH (xs ys : List ByteArray) (n : Int) : List (Int × Int × List (Int × ByteArray)) := if mkf xs ys n = 0 then cut (scr xs ys) n.toNat else []

theorem scr_sf {xs ys : List ByteArray} (hf : ff xs ys = 0) : sf (scr xs ys) = 0 := by
  obtain ⟨f1, f2⟩ := ff_zero hf
  have h1 := lsf_len f1
  have h2 := lsf_len f2
  obtain ⟨_, _, _, hl, hm⟩ := scr_ok xs ys
  refine sf_of (by omega) fun m hmem => ⟨(hm m hmem).1, ?_⟩
  rcases (hm m hmem).2 with h | h
  · exact (lsf_zero f1).2 _ (List.mem_map.2 ⟨_, h, rfl⟩)
  · exact (lsf_zero f2).2 _ (List.mem_map.2 ⟨_, h, rfl⟩)

theorem scr_cf {xs ys : List ByteArray} {n : Int} (hf : ff xs ys = 0) : cf (scr xs ys) n = mkf xs ys n := by
  have hs := scr_sf hf
  obtain ⟨f1, f2⟩ := ff_zero hf
  have h1 := lsf_len f1
  have h2 := lsf_len f2
  obtain ⟨o1, o2, _, _, hm⟩ := scr_ok xs ys
  have e1 := ob_less (scr xs ys) fun m h => (hm m h).1
  have e2 := nb_less (scr xs ys) fun m h => (hm m h).1
  rw [o1] at e1
  rw [o2] at e2
  unfold cf mkf
  have n1 : ¬ (sf (scr xs ys) ≠ 0) := fun h => h hs
  have n2 : ¬ (ff xs ys ≠ 0) := fun h => h hf
  have n3 : ¬ (60 < ob (scr xs ys) ∨ 60 < nb (scr xs ys)) := by omega
  rw [if_neg n1, if_neg n2, if_neg n3]

theorem cut_bounds {ms : List (Int × ByteArray)} {n : Int} (h : cf ms n = 0) (k : Nat) : (cut ms k).length ≤ 60 ∧ ∀ x ∈ cut ms k, x.2.2.length ≤ 120 := by
  obtain ⟨h1, _, _, h4, h5⟩ := cf_zero h
  have hg := hf_cut h1 h4 h5 k
  obtain ⟨c1, _, _, _⟩ := cut_holds ms (fun m hm => ((sf_zero h1).2 m hm).1) k
  refine ⟨(hf_zero (by rw [hg])).1, fun x hx => ?_⟩
  obtain ⟨a, b, _, _, e, _⟩ := c1 x hx
  have : x.2.2 = (ms.take b).drop a := by rw [e]; rfl
  rw [this, List.length_drop, List.length_take]
  have := (sf_zero h1).1
  omega

theorem tOfH_small (l : List (Int × Int × List (Int × ByteArray))) : (tOfH l).length ≤ maxLen ∧ ∀ x ∈ tOfH l, x.2.2.length ≤ maxLen := by
  unfold tOfH
  by_cases h : (hf l).2 = 0
  · rw [if_pos h]
    obtain ⟨h1, h2⟩ := hf_zero h
    refine ⟨by unfold maxLen; simp [trn]; omega, fun x hx => ?_⟩
    unfold trn at hx
    obtain ⟨y, hy, rfl⟩ := List.mem_map.1 hx
    obtain ⟨i, hi, rfl⟩ := List.mem_iff_getElem.1 hy
    have h3 := (sf_zero (hOne_zero (hAt_zero (h2 i hi)).1).1).1
    have e : l.getD i (0, 0, []) = l[i] := by simp [hi]
    rw [e] at h3
    show (swm l[i].2.2).length ≤ maxLen
    rw [swm_length]
    unfold maxLen; omega
  · rw [if_neg h]
    exact ⟨Nat.zero_le _, fun x hx => by cases hx⟩

theorem cOfH_small (ms : List (Int × ByteArray)) (n : Int) : (cOfH ms n).length ≤ maxLen ∧ ∀ x ∈ cOfH ms n, x.2.2.length ≤ maxLen := by
  unfold cOfH
  by_cases h : cf ms n = 0
  · rw [if_pos h]
    obtain ⟨h1, h2⟩ := cut_bounds h n.toNat
    exact ⟨by unfold maxLen; omega, fun x hx => by have := h2 x hx; unfold maxLen; omega⟩
  · rw [if_neg h]
    exact ⟨Nat.zero_le _, fun x hx => by cases hx⟩

theorem mOfH_eq {xs ys : List ByteArray} {n : Int} (hf : ff xs ys = 0) : mOfH xs ys n = cOfH (scr xs ys) n := by
  unfold mOfH cOfH
  rw [scr_cf hf]

theorem mOfH_small (xs ys : List ByteArray) (n : Int) : (mOfH xs ys n).length ≤ maxLen ∧ ∀ x ∈ mOfH xs ys n, x.2.2.length ≤ maxLen := by
  by_cases hf : ff xs ys = 0
  · rw [mOfH_eq hf]; exact cOfH_small _ _
  · unfold mOfH mkf
    rw [if_pos hf, if_neg hf]
    exact ⟨Nat.zero_le _, fun x hx => by cases hx⟩

theorem cutAny (a : Option Addr) (ms : List (Int × ByteArray)) (ca : Nat) (n : Int) (w : World) (ha : Mks w a ms) (hm : ms.length ≤ maxLen) (hca : ms.length ≤ ca) :
    Calls Tryd.prog 61 #[.slice a ms.length ca, .int .i64 n] w fun e w' => ∃ a' c', e = .returned (.tuple #[.slice a' (cOfH ms n).length c', errV (cf ms n)]) ∧ Below w.heap.size w w' ∧ Hks w' a' (cOfH ms n) := by
  unfold cOfH
  by_cases h : cf ms n = 0
  · rw [if_pos h, h, errV_zero]
    obtain ⟨N, rfl⟩ := Int.eq_ofNat_of_zero_le (cf_zero h).2.1
    exact (cut_ok a ms ca N w ha hca h).mono fun e w' ⟨v, he, hb, ho⟩ => by
      obtain ⟨a', cap, rfl, hk⟩ := ho.hks
      exact ⟨a', cap, he, hb, hk⟩
  · rw [if_neg h, errV_not h]
    exact (cut_bad a ms ca n w ha hm h).mono fun e w' ⟨he, hb⟩ => ⟨none, 0, he, hb, Hks.nil _ _⟩

set_option maxHeartbeats 400000 in
theorem makeAny (a b : Option Addr) (xs ys : List ByteArray) (ca cb : Nat) (n : Int) (w : World) (ha : Strs w a xs) (hb : Strs w b ys) (h1 : xs.length ≤ maxLen) (h2 : ys.length ≤ maxLen) :
    Calls Tryd.prog 50 #[.slice a xs.length ca, .slice b ys.length cb, .int .i64 n] w fun e w' => ∃ a' c', e = .returned (.tuple #[.slice a' (mOfH xs ys n).length c', errV (mkf xs ys n)]) ∧ Below w.heap.size w w' ∧ Hks w' a' (mOfH xs ys n) := by
  by_cases hf : ff xs ys = 0
  · have hsc := script_cap a b xs ys ca cb w ha hb hf
    rw [mOfH_eq hf, ← scr_cf hf]
    have hsl := (sf_zero (scr_sf hf)).1
    obtain ⟨ks, hks⟩ : ∃ ks, scr xs ys = ks := ⟨_, rfl⟩
    rw [hks] at hsc hsl ⊢
    obtain ⟨m1, hm1⟩ : ∃ m, xs.length = m := ⟨_, rfl⟩
    obtain ⟨m2, hm2⟩ : ∃ m, ys.length = m := ⟨_, rfl⟩
    obtain ⟨m3, hm3⟩ : ∃ m, ks.length = m := ⟨_, rfl⟩
    rw [hm1, hm2, hm3] at hsc
    rw [hm1, hm2]
    have HM3 : Hid (ks.length = m3) := hm3
    have HSL : Hid (ks.length ≤ 120) := hsl
    have HCU := fun a' cap w (h : Mks w a' ks) (hc : m3 ≤ cap) => cutAny a' ks cap n w h (by unfold maxLen; omega) (by rw [hm3]; exact hc)
    rw [hm3] at HCU
    obtain ⟨f, hff⟩ : ∃ f, errV (cf ks n) = f := ⟨_, rfl⟩
    obtain ⟨T, hT⟩ : ∃ T, cOfH ks n = T := ⟨_, rfl⟩
    rw [hff, hT] at HCU
    rw [hff, hT]
    clear ha hb h1 h2 hf hks hm1 hm2 hm3 hsl hff hT
    go_enter Tryd.func50, Tryd.ntmps50
    go_wp2_with (go_at_call 60; refine hsc.mono ?_)
    rintro e w1 ⟨a1, c1, rfl, hk1, hb1, hc1⟩
    clear hsc
    go_wp2_with (go_at_call 61; refine (HCU a1 c1 w1 hk1 hc1).mono ?_)
    rintro e w2 ⟨a2, c2, rfl, hb2, hk2⟩
    have hb2 := hb1.trans (hb2.mono hb1.size)
    clear HCU
    go_wp2
    go_ret2
    exact ⟨a2, c2, rfl, hb2, hk2⟩
  · have hsc := script_bad a b xs ys ca cb w ha hb h1 h2 hf
    have e1 : mkf xs ys n = ff xs ys := by unfold mkf; rw [if_pos hf]
    have e2 : mOfH xs ys n = [] := by unfold mOfH; rw [e1, if_neg hf]
    rw [e1, e2, errV_not hf]
    obtain ⟨m1, hm1⟩ : ∃ m, xs.length = m := ⟨_, rfl⟩
    obtain ⟨m2, hm2⟩ : ∃ m, ys.length = m := ⟨_, rfl⟩
    obtain ⟨f, hff⟩ : ∃ f, ff xs ys = f := ⟨_, rfl⟩
    rw [hm1, hm2, hff] at hsc
    rw [hm1, hm2, hff]
    clear ha hb h1 h2 hf hm1 hm2 hff e1 e2
    go_enter Tryd.func50, Tryd.ntmps50
    go_wp2_with (go_at_call 60; refine hsc.mono ?_)
    rintro e w1 ⟨rfl, hb1⟩
    clear hsc
    go_wp2
    go_ret2
    exact ⟨none, 0, rfl, hb1, Hks.nil _ _⟩

end Go.Proofs.YtmidbhikhbbpbacDoor
namespace Go.Proofs.YtmidbhikhbbpbacDoor
open Go.RowKit Dist

theorem lsf_of {xs : List ByteArray} (hl : xs.length ≤ 60) (h : ∀ x ∈ xs, lf x.data.toList = 0) : lsf (bts xs) = 0 := by
  unfold lsf
  rw [bts_length, if_neg (by omega)]
  clear hl
  induction xs with
  | nil => rfl
  | cons x r ih =>
    unfold bts at ih ⊢
    rw [List.map_cons, lsg, if_pos (h x (by simp))]
    exact ih fun y hy => h y (List.mem_cons_of_mem _ hy)

/-- What is done is undone. -/
theorem stF_undo {xs : List ByteArray} {l : List Hk} (h : (stF xs l).2 = 0) : stF (sR xs l) (trn l) = (0, 0) ∧ stO (sR xs l) (trn l) = xs := by
  obtain ⟨h1, h2, h3, h4⟩ := stF_zero h
  obtain ⟨g, _, _⟩ := hf_good h2
  obtain ⟨u1, u2⟩ := undo g (clash_stand h3)
  have e : stF (sR xs l) (trn l) = (0, 0) := stF_ok (lsf_of h4 (sR_lines h1 h2)) (by rw [hf_trn h2]) (clash_none u1) (by rw [u2]; have := lsf_len h1; omega)
  refine ⟨e, ?_⟩
  rw [stO_ok (by rw [e]), u2]

/-- What was found is done. -/
theorem stF_make {xs ys : List ByteArray} {n : Int} (h : mkf xs ys n = 0) : stF xs (mOfH xs ys n) = (0, 0) ∧ sR xs (mOfH xs ys n) = ys := by
  have hff : ff xs ys = 0 := by
    by_cases e : ff xs ys = 0
    · exact e
    · unfold mkf at h; rw [if_pos e] at h; exact absurd h e
  obtain ⟨f1, f2⟩ := ff_zero hff
  obtain ⟨o1, o2, _, _, hm⟩ := scr_ok xs ys
  have hs : ∀ m ∈ scr xs ys, sgn m.1 := fun m hmem => (hm m hmem).1
  obtain ⟨c1, c2⟩ := cut_stand hs n.toNat
  have c3 := cut_makes hs n.toNat
  rw [o1] at c2 c3
  rw [o2] at c3
  have e : mOfH xs ys n = cut (scr xs ys) n.toNat := by unfold mOfH; rw [if_pos h]
  have hcf := scr_cf (n := n) hff
  rw [h] at hcf
  obtain ⟨k1, _, _, k4, k5⟩ := cf_zero hcf
  have hhf := hf_cut k1 k4 k5 n.toNat
  rw [e]
  refine ⟨stF_ok f1 (by rw [hhf]) (clash_none c2) (by rw [c3]; have := lsf_len f2; omega), c3⟩

theorem fact_x : stF [] [((0 : Int), (0 : Int), [((43 : Int), (⟨#[120]⟩ : ByteArray))])] = (0, 0) ∧ stO [] [((0 : Int), (0 : Int), [((43 : Int), (⟨#[120]⟩ : ByteArray))])] = [⟨#[120]⟩] := by decide

/-- One hunk of one mark, new. -/
theorem hks_one (w : World) (o p c : Int) (s : ByteArray) : Hks ((w.alloc (.cells #[.int .u8 c, .string s] 82)).alloc (.cells #[.int .i64 o, .int .i64 p, .slice (some ⟨w.heap.size, 0, none⟩) 1 1] 80)) (some ⟨w.heap.size + 1, 0, none⟩) [(o, p, [(c, s)])] := by
  intro i hi
  obtain rfl : i = 0 := by simpa using hi
  have k1 := heap_alloc_new w (.cells #[.int .u8 c, .string s] 82)
  have k2 := heap_alloc_new (w.alloc (.cells #[.int .u8 c, .string s] 82)) (.cells #[.int .i64 o, .int .i64 p, .slice (some ⟨w.heap.size, 0, none⟩) 1 1] 80)
  have hb := below_alloc (w.alloc (.cells #[.int .u8 c, .string s] 82)) (.cells #[.int .i64 o, .int .i64 p, .slice (some ⟨w.heap.size, 0, none⟩) 1 1] 80)
  rw [show (w.alloc (.cells #[.int .u8 c, .string s] 82)).heap.size = w.heap.size + 1 by simp] at k2
  have k3 := blk_below hb (by simp) k1
  refine ⟨w.heap.size + 1, 0, some ⟨w.heap.size, 0, none⟩, 1, rfl, ?_, ?_, ?_, ?_, Nat.le_refl _⟩
  · rw [Lib.cell_of_heap k2]; rfl
  · rw [Lib.cell_of_heap k2]; rfl
  · rw [Lib.cell_of_heap k2]; rfl
  · intro j hj
    obtain rfl : j = 0 := by simpa using hj
    exact ⟨w.heap.size, 0, rfl, by rw [Lib.cell_of_heap k3]; rfl, by rw [Lib.cell_of_heap k3]; rfl⟩

theorem texts_eq (a b : Option Addr) (xs : List ByteArray) (ca cb : Nat) (w : World) (ha : Strs w a xs) (hb : Strs w b xs) (hm : xs.length ≤ maxLen) : Calls Tryd.prog 13 #[.slice a xs.length ca, .slice b xs.length cb] w fun e w' => e = .returned (.bool true) ∧ Below w.heap.size w w' :=
  (texts_same a b xs xs ca cb w ha hb rfl hm).mono fun e w' ⟨he, n, hw⟩ => ⟨by rw [he]; exact ret_b (decide_eq_true rfl), by rw [hw]; exact below_drawn (Below.refl _ _)⟩

theorem strs_nil (w : World) (a : Option Addr) : Strs w a [] := fun _ hi => absurd hi (Nat.not_lt_zero _)

/-- One line, new. -/
theorem strs_one (w : World) (s : ByteArray) (t : TypeId) : Strs (w.alloc (.cells #[.string s] t)) (some ⟨w.heap.size, 0, none⟩) [s] := by
  intro i hi
  obtain rfl : i = 0 := by simpa using hi
  exact ⟨w.heap.size, 0, rfl, by rw [Lib.cell_of_heap (heap_alloc_new w _)]; rfl⟩

end Go.Proofs.YtmidbhikhbbpbacDoor
