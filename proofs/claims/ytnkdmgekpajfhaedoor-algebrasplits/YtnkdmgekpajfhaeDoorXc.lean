/-
  Walk of the document's own table: of each two places how many lines, from there on, can be kept at the most. Walks of the document's own answers for two files: how far it is, and the script. Scripts that edit.Script and the document's own answer make, once more: each with room for its marks.
-/
import Derived.Test.YtnkdmgekpajfhaeDoorXh
namespace Go.Proofs.YtnkdmgekpajfhaeDoor
open Go.RowKit Dist

/-- A row of numbers in memory. -/
def Row (w : World) (R n : Nat) (f : Nat → Int) : Prop :=
  ∃ rs : Array Value, w.heap[R]? = some (.cells rs 3 (0, 0)) ∧ rs.size = n + 1 ∧ ∀ k, k ≤ n → rs[k]? = some (.int .i64 (f k))

theorem Row.cell {w : World} {R n : Nat} {f : Nat → Int} (h : Row w R n f) {k : Nat} (hk : k ≤ n) : w.cell? ⟨R, k, none⟩ = some (.int .i64 (f k)) := by
  obtain ⟨rs, hb, _, hat⟩ := h
  rw [Lib.cell_of_heap hb]; exact hat k hk

theorem Row.frozen {w : World} {R n : Nat} {f : Nat → Int} (h : Row w R n f) (k : Nat) : w.frozen? ⟨R, k, none⟩ = false := by
  obtain ⟨rs, hb, _, _⟩ := h
  exact Lib.frozen_of_heap hb k

theorem Row.congr {w : World} {R n : Nat} {f g : Nat → Int} (h : Row w R n f) (e : ∀ k, k ≤ n → f k = g k) : Row w R n g := by
  obtain ⟨rs, hb, hs, hat⟩ := h
  exact ⟨rs, hb, hs, fun k hk => by rw [← e k hk]; exact hat k hk⟩

theorem Row.below {w w' : World} {R n : Nat} {f : Nat → Int} (h : Row w R n f) {U : Nat} (hb : Below U w w') (hR : R < U) : Row w' R n f := by
  obtain ⟨rs, hh, hs, hat⟩ := h
  exact ⟨rs, blk_below hb hR hh, hs, hat⟩

theorem Row.drawn {w : World} {R n : Nat} {f : Nat → Int} (h : Row w R n f) (q : Nat) : Row (w.drewN q) R n f := h

theorem Row.set {w : World} {R n : Nat} {f : Nat → Int} (h : Row w R n f) {j : Nat} (hj : j ≤ n) (u : Int) : Row (w.setCell ⟨R, j, none⟩ (.int .i64 u)) R n (fun k => if k = j then u else f k) := by
  obtain ⟨rs, hb, hs, hat⟩ := h
  refine ⟨_, blk_set hb _, by simpa using hs, fun k hk => ?_⟩
  by_cases e : k = j
  · subst e
    rw [Array.getElem?_setIfInBounds_self_of_lt (by omega)]
    simp
  · rw [Array.getElem?_setIfInBounds_ne (Ne.symm e), hat k hk]
    simp [e]

theorem Row.other {w : World} {R n : Nat} {f : Nat → Int} (h : Row w R n f) {B : Nat} (hB : B ≠ R) (i : Nat) (v : Value) : Row (w.setCell ⟨B, i, none⟩ v) R n f := by
  obtain ⟨rs, hb, h2⟩ := h
  have e : (w.setCell ⟨B, i, none⟩ v).heap[R]? = w.heap[R]? := by
    simp only [World.setCell, Array.getElem?_modify]
    rw [if_neg hB]
  exact ⟨rs, by rw [e]; exact hb, h2⟩

theorem com_end {xs ys : List ByteArray} {i j : Nat} (h : i = xs.length ∨ j = ys.length) : com (xs.drop i) (ys.drop j) = 0 := by
  rcases h with h | h
  · rw [h, List.drop_of_length_le (Nat.le_refl _), com_nil]
  · rw [h, List.drop_of_length_le (Nat.le_refl _), com_nil']

theorem com_in {xs ys : List ByteArray} {i j : Nat} (hi : i < xs.length) (hj : j < ys.length) :
    com (xs.drop i) (ys.drop j) = if xs.getD i ByteArray.empty = ys.getD j ByteArray.empty then max (com (xs.drop (i + 1)) (ys.drop (j + 1)) + 1) (max (com (xs.drop (i + 1)) (ys.drop j)) (com (xs.drop i) (ys.drop (j + 1))))
      else max (com (xs.drop (i + 1)) (ys.drop j)) (com (xs.drop i) (ys.drop (j + 1))) := by
  conv => lhs; rw [drop_at hi, drop_at hj, com_cons]
  rw [← drop_at hi, ← drop_at hj]

theorem com_le {a b : List ByteArray} : com a b ≤ a.length := by
  have h1 := com_dist a b
  have h2 := dist_big a b
  omega

theorem made_at (z : Value) (n k : Nat) (hk : k < n) : (madeCells #[z] n)[k]? = some z := by
  have hs : (madeCells #[z] n).size = n := by simp [madeCells]
  rw [Array.getElem?_eq_getElem (by omega)]
  simp [madeCells, Nat.mod_one]

end Go.Proofs.YtnkdmgekpajfhaeDoor
namespace Go.Proofs.YtnkdmgekpajfhaeDoor
open Go.RowKit Dist

/-- What the document's script does next. -/
theorem ref_cases {xs ys : List ByteArray} {i j : Nat} (hi : i ≤ xs.length) (hj : j ≤ ys.length) (h : i < xs.length ∨ j < ys.length) :
    (i < xs.length ∧ j < ys.length ∧ xs.getD i ByteArray.empty = ys.getD j ByteArray.empty ∧ com (xs.drop (i + 1)) (ys.drop (j + 1)) + 1 = com (xs.drop i) (ys.drop j) ∧ scr (xs.drop i) (ys.drop j) = (32, xs.getD i ByteArray.empty) :: scr (xs.drop (i + 1)) (ys.drop (j + 1))) ∨
    (i < xs.length ∧ j = ys.length ∧ com (xs.drop (i + 1)) (ys.drop j) = com (xs.drop i) (ys.drop j) ∧ scr (xs.drop i) (ys.drop j) = (45, xs.getD i ByteArray.empty) :: scr (xs.drop (i + 1)) (ys.drop j)) ∨
    (i < xs.length ∧ j < ys.length ∧ xs.getD i ByteArray.empty ≠ ys.getD j ByteArray.empty ∧ com (xs.drop (i + 1)) (ys.drop j) = com (xs.drop i) (ys.drop j) ∧ scr (xs.drop i) (ys.drop j) = (45, xs.getD i ByteArray.empty) :: scr (xs.drop (i + 1)) (ys.drop j)) ∨
    (i = xs.length ∧ j < ys.length ∧ scr (xs.drop i) (ys.drop j) = (43, ys.getD j ByteArray.empty) :: scr (xs.drop i) (ys.drop (j + 1))) ∨
    (i < xs.length ∧ j < ys.length ∧ xs.getD i ByteArray.empty ≠ ys.getD j ByteArray.empty ∧ com (xs.drop (i + 1)) (ys.drop j) ≠ com (xs.drop i) (ys.drop j) ∧ scr (xs.drop i) (ys.drop j) = (43, ys.getD j ByteArray.empty) :: scr (xs.drop i) (ys.drop (j + 1))) := by
  by_cases e1 : i = xs.length
  · refine .inr (.inr (.inr (.inl ⟨e1, by omega, ?_⟩)))
    rw [e1, List.drop_of_length_le (Nat.le_refl _), drop_at (xs := ys) (i := j) (by omega), scr_put]
  by_cases e2 : j = ys.length
  · refine .inr (.inl ⟨by omega, e2, ?_, ?_⟩)
    · rw [com_end (.inr e2), com_end (.inr e2)]
    · rw [e2, List.drop_of_length_le (Nat.le_refl ys.length), drop_at (xs := xs) (i := i) (by omega), scr_take]
  have h1 : i < xs.length := by omega
  have h2 : j < ys.length := by omega
  have hs : scr (xs.drop i) (ys.drop j) = if xs.getD i ByteArray.empty = ys.getD j ByteArray.empty then (32, xs.getD i ByteArray.empty) :: scr (xs.drop (i + 1)) (ys.drop (j + 1)) else if dist (xs.drop (i + 1)) (ys.drop j) ≤ dist (xs.drop i) (ys.drop (j + 1)) then (45, xs.getD i ByteArray.empty) :: scr (xs.drop (i + 1)) (ys.drop j) else (43, ys.getD j ByteArray.empty) :: scr (xs.drop i) (ys.drop (j + 1)) := by
    conv => lhs; rw [drop_at h1, drop_at h2, scr_cons]
    rw [← drop_at h1, ← drop_at h2]
  by_cases e3 : xs.getD i ByteArray.empty = ys.getD j ByteArray.empty
  · refine .inl ⟨h1, h2, e3, ?_, by rw [hs, if_pos e3]⟩
    conv => rhs; rw [drop_at h1, drop_at h2, ← e3]
    exact com_keep _ _ _
  have hct := com_take (xs.getD i ByteArray.empty) (ys.getD j ByteArray.empty) (xs.drop (i + 1)) (ys.drop (j + 1)) e3
  rw [← drop_at h1, ← drop_at h2] at hct
  by_cases e4 : dist (xs.drop (i + 1)) (ys.drop j) ≤ dist (xs.drop i) (ys.drop (j + 1))
  · exact .inr (.inr (.inl ⟨h1, h2, e3, hct.2 e4, by rw [hs, if_neg e3, if_pos e4]⟩))
  · exact .inr (.inr (.inr (.inr ⟨h1, h2, e3, fun e => e4 (hct.1 e), by rw [hs, if_neg e3, if_neg e4]⟩)))

end Go.Proofs.YtnkdmgekpajfhaeDoor
namespace Go.Proofs.YtnkdmgekpajfhaeDoor
open Go.RowKit Dist

theorem mks_cap_own {B : Nat} {v : Value} {ms : List (Int × ByteArray)} {w : World} (h : w.ownsRow B 37 2 v ms.length (mcells ms)) : ∃ a cap, v = .slice a ms.length cap ∧ Mks w a ms ∧ ms.length ≤ cap := by
  obtain ⟨a, cap, rfl, hm⟩ := mks_of_own h
  refine ⟨a, cap, rfl, hm, ?_⟩
  rcases h.2 with ⟨h0, h1⟩ | ⟨g, c, cur, hv, _, _, hc, _⟩
  · rw [h1]; exact Nat.zero_le _
  · simp only [Value.slice.injEq] at hv
    rw [hv.2.2]; exact hc

set_option maxRecDepth 100000 in
set_option maxHeartbeats 2000000 in
theorem script_cap (a b : Option Addr) (xs ys : List ByteArray) (ca cb : Nat) (w : World) (ha : Strs w a xs) (hb : Strs w b ys) (hf : ff xs ys = 0) :
    Calls Tryd.prog 87 #[.slice a xs.length ca, .slice b ys.length cb] w fun e w' => ∃ a' cap, e = .returned (.tuple #[.slice a' (scr xs ys).length cap, .nilIface]) ∧ Mks w' a' (scr xs ys) ∧ Below w.heap.size w w' ∧ (scr xs ys).length ≤ cap := by
  obtain ⟨f1, f2⟩ := ff_zero hf
  have h1 := lsf_len f1
  have h2 := lsf_len f2
  have hck := checkBoth a b xs ys ca cb w ha hb (by unfold maxLen; omega) (by unfold maxLen; omega)
  have hte := toEnd a b xs ys ca cb w ha hb h1 h2
  rw [hf, errV_zero] at hck
  obtain ⟨i0, hi0, hz0, hz1, hz2⟩ := info_parts Tryd.infoMark
  have HXS : Hid (∀ i, i < xs.length → (xs.getD i ByteArray.empty).size ≤ 80) := fun i hi => line_small f1 hi
  have HYS : Hid (∀ i, i < ys.length → (ys.getD i ByteArray.empty).size ≤ 80) := fun i hi => line_small f2 hi
  have HSL : Hid ((scr xs ys).length ≤ 120) := by have := (scr_ok xs ys).2.2.2.1; show (scr xs ys).length ≤ 120; omega
  have HST := fun w' B i j ha hb => step a b xs ys ca cb B i j w' ha hb h1 h2
  have HSC := fun i j hi hj h => stp_cases (xs := xs) (ys := ys) (i := i) (j := j) hi hj h
  obtain ⟨m, hm⟩ : ∃ m, xs.length = m := ⟨_, rfl⟩
  obtain ⟨n, hn⟩ : ∃ n, ys.length = n := ⟨_, rfl⟩
  rw [hm] at h1 hck hte HST HSC HXS ⊢
  rw [hn] at h2 hck hte HST HSC HYS ⊢
  have HM : Hid (xs.length = m) := hm
  have HN : Hid (ys.length = n) := hn
  have HA : Hid (Strs w a xs) := ha
  have HBB : Hid (Strs w b ys) := hb
  clear hm hn ha hb f1 f2 hf
  obtain ⟨B, hB⟩ : ∃ B, w.heap.size = B := ⟨_, rfl⟩
  have HB : Hid (w.heap.size = B) := hB
  rw [hB] at hte ⊢
  clear hB
  go_enter Tryd.func87, Tryd.ntmps87
  go_wp2_with (first | (go_at_call 98; refine hck.mono ?_; rintro e w' ⟨rfl, hw⟩; rw [hw]) | (go_at_call 99; refine hte.mono ?_))
  rintro e w0 ⟨rfl, hb0, hs0, htab⟩
  clear hck hte
  have HT : Hid (Tab w0 B xs ys (fun i j => i ≤ m ∧ j ≤ n)) := htab
  have HB0 : Hid (Below B w w0) := hb0
  have HA0 : Hid (Strs w0 a xs) := HA.out.below (by rw [HB.out]; exact hb0)
  have HBB0 : Hid (Strs w0 b ys) := HBB.out.below (by rw [HB.out]; exact hb0)
  clear htab hb0 HA HBB
  obtain ⟨B0, hB0⟩ : ∃ B0, w0.heap.size = B0 := ⟨_, rfl⟩
  have HBZ : Hid (w0.heap.size = B0) := hB0
  rw [hB0] at hs0
  clear hB0
  go_wp2
  go_loopw [8, 9, 10] (fun v vi vj w1 => ∃ (i j : Nat) (done : List (Int × ByteArray)), i ≤ m ∧ j ≤ n ∧ vi = .int .i64 i ∧ vj = .int .i64 j ∧ Below B0 w0 w1 ∧ done ++ scr (xs.drop i) (ys.drop j) = scr xs ys ∧ w1.ownsRow B0 37 2 v done.length (mcells done)) (fun _ vi vj _ => (m - (intOf vi).toNat) + (n - (intOf vj).toNat))
  case atStart => exact ⟨0, 0, [], Nat.zero_le _, Nat.zero_le _, rfl, rfl, Below.refl _ _, rfl, ⟨rfl, Or.inl ⟨rfl, rfl⟩⟩⟩
  case round =>
    obtain ⟨i, j, done, hi, hj, rfl, rfl, hbl, hdone, hown⟩ := hrel
    have HD : Hid (done ++ scr (xs.drop i) (ys.drop j) = scr xs ys) := hdone
    have HDL : done.length + (scr (xs.drop i) (ys.drop j)).length ≤ 120 := by have := HSL.out; rw [← hdone, List.length_append] at this; exact this
    clear hdone
    have hszB : B0 ≤ wr.heap.size := by have := hbl.size; rw [HBZ.out] at this; exact this
    have hst := HST wr B i j (HA0.out.below (by rw [HBZ.out]; exact hbl)) (HBB0.out.below (by rw [HBZ.out]; exact hbl)) hi hj (HT.out.below (by rw [HBZ.out]; exact hbl) (by rw [HBZ.out]; exact hs0))
    by_cases hend : i < m ∨ j < n
    · rcases HSC i j hi hj hend with ⟨e, him, hjn, hsc⟩ | ⟨e, him, hsc⟩ | ⟨e, hjn, hsc⟩
      · rw [e] at hst
        have hdl : done.length < 120 := by rw [hsc, List.length_cons] at HDL; omega
        have HSN : Hid ((done ++ [(32, xs.getD i ByteArray.empty)]) ++ scr (xs.drop (i + 1)) (ys.drop (j + 1)) = scr xs ys) := by
          have := HD.out
          rw [hsc] at this
          show (done ++ [(32, xs.getD i ByteArray.empty)]) ++ scr (xs.drop (i + 1)) (ys.drop (j + 1)) = scr xs ys
          rw [← this, List.append_assoc]; rfl
        have hln := HA0.out
        obtain ⟨bb, ob, rfl, hcc⟩ := Strs.at hln (i := i) (by rw [HM.out]; exact him)
        replace hcc := hcc i (by rw [HM.out]; exact him)
        have hts := HXS.out i him
        obtain ⟨t, ht⟩ : ∃ t, xs.getD i ByteArray.empty = t := ⟨_, rfl⟩
        rw [ht] at hcc hts HSN
        clear hln HDL HSC HD hsc e ht HST
        go_wp2_with (go_at_call 100; refine hst.mono ?_)
        rintro e w1 ⟨rfl, hb1⟩
        have hown1 := own_later hown hb1
        have hb1 := hbl.trans (hb1.mono hszB)
        have hs1 : B0 ≤ w1.heap.size := by have := hb1.size; rw [HBZ.out] at this; exact this
        replace hcc := cell_later (by rw [HBZ.out]; exact hb1) hcc
        clear hst hown hbl hszB hend
        go_wp2_with (go_at_call 74; refine (markOf 32 t w1 hts).mono ?_)
        rintro e w2 ⟨rfl, hb2⟩
        have hown2 := own_later hown1 hb2
        have hb2 := hb1.trans (hb2.mono hs1)
        have hs2 : B0 ≤ w2.heap.size := by have := hb2.size; rw [HBZ.out] at this; exact this
        clear hown1 hb1 hs1 hcc
        go_wp2_with (at_builtin; refine wpList_append_own _ rfl _ _ 38 rfl B0 37 i0 (.agg #[.int .u8 0, .string ByteArray.empty]) 2 24 Tryd.underlying38 hi0 hz0 hz1 hz2 rfl (by decide) _ _ _ rfl (hown2.alloc _) ⟨w2.heap.size, 0, none⟩ 1 1 [.int .u8 32, .string t] rfl rfl (cell_two_new _ _ _ _) (fun x hx => by simp at hx; rcases hx with rfl | rfl <;> rfl) (by unfold maxLen; omega) (by omega) (by simp; omega) ?_; intro v' w3 hown' hgrow3 hnil3)
        go_roundw
        case rel =>
          refine ⟨i + 1, j + 1, done ++ [(32, t)], by omega, by omega, by go_num, by go_num, ?_, HSN.out, ?_⟩
          · exact (hb2.alloc (by omega) _).grown hgrow3 (by simp; omega) (fun j hj => (hown2.lt j hj).1)
          · rw [mcells_append, List.length_append]; exact hown'
        case measure => simp [intOf]; omega
      · rw [e] at hst
        have hdl : done.length < 120 := by rw [hsc, List.length_cons] at HDL; omega
        have HSN : Hid ((done ++ [(45, xs.getD i ByteArray.empty)]) ++ scr (xs.drop (i + 1)) (ys.drop (j)) = scr xs ys) := by
          have := HD.out
          rw [hsc] at this
          show (done ++ [(45, xs.getD i ByteArray.empty)]) ++ scr (xs.drop (i + 1)) (ys.drop (j)) = scr xs ys
          rw [← this, List.append_assoc]; rfl
        have hln := HA0.out
        obtain ⟨bb, ob, rfl, hcc⟩ := Strs.at hln (i := i) (by rw [HM.out]; exact him)
        replace hcc := hcc i (by rw [HM.out]; exact him)
        have hts := HXS.out i him
        obtain ⟨t, ht⟩ : ∃ t, xs.getD i ByteArray.empty = t := ⟨_, rfl⟩
        rw [ht] at hcc hts HSN
        clear hln HDL HSC HD hsc e ht HST
        go_wp2_with (go_at_call 100; refine hst.mono ?_)
        rintro e w1 ⟨rfl, hb1⟩
        have hown1 := own_later hown hb1
        have hb1 := hbl.trans (hb1.mono hszB)
        have hs1 : B0 ≤ w1.heap.size := by have := hb1.size; rw [HBZ.out] at this; exact this
        replace hcc := cell_later (by rw [HBZ.out]; exact hb1) hcc
        clear hst hown hbl hszB hend
        go_wp2_with (go_at_call 74; refine (markOf 45 t w1 hts).mono ?_)
        rintro e w2 ⟨rfl, hb2⟩
        have hown2 := own_later hown1 hb2
        have hb2 := hb1.trans (hb2.mono hs1)
        have hs2 : B0 ≤ w2.heap.size := by have := hb2.size; rw [HBZ.out] at this; exact this
        clear hown1 hb1 hs1 hcc
        go_wp2_with (at_builtin; refine wpList_append_own _ rfl _ _ 38 rfl B0 37 i0 (.agg #[.int .u8 0, .string ByteArray.empty]) 2 24 Tryd.underlying38 hi0 hz0 hz1 hz2 rfl (by decide) _ _ _ rfl (hown2.alloc _) ⟨w2.heap.size, 0, none⟩ 1 1 [.int .u8 45, .string t] rfl rfl (cell_two_new _ _ _ _) (fun x hx => by simp at hx; rcases hx with rfl | rfl <;> rfl) (by unfold maxLen; omega) (by omega) (by simp; omega) ?_; intro v' w3 hown' hgrow3 hnil3)
        go_roundw
        case rel =>
          refine ⟨i + 1, j, done ++ [(45, t)], by omega, by omega, by go_num, by go_num, ?_, HSN.out, ?_⟩
          · exact (hb2.alloc (by omega) _).grown hgrow3 (by simp; omega) (fun j hj => (hown2.lt j hj).1)
          · rw [mcells_append, List.length_append]; exact hown'
        case measure => simp [intOf]; omega
      · rw [e] at hst
        have hdl : done.length < 120 := by rw [hsc, List.length_cons] at HDL; omega
        have HSN : Hid ((done ++ [(43, ys.getD j ByteArray.empty)]) ++ scr (xs.drop (i)) (ys.drop (j + 1)) = scr xs ys) := by
          have := HD.out
          rw [hsc] at this
          show (done ++ [(43, ys.getD j ByteArray.empty)]) ++ scr (xs.drop (i)) (ys.drop (j + 1)) = scr xs ys
          rw [← this, List.append_assoc]; rfl
        have hln := HBB0.out
        obtain ⟨bb, ob, rfl, hcc⟩ := Strs.at hln (i := j) (by rw [HN.out]; exact hjn)
        replace hcc := hcc j (by rw [HN.out]; exact hjn)
        have hts := HYS.out j hjn
        obtain ⟨t, ht⟩ : ∃ t, ys.getD j ByteArray.empty = t := ⟨_, rfl⟩
        rw [ht] at hcc hts HSN
        clear hln HDL HSC HD hsc e ht HST
        by_cases hg : i < m
        all_goals
          go_wp2_with (go_at_call 100; refine hst.mono ?_)
          rintro e w1 ⟨rfl, hb1⟩
          have hown1 := own_later hown hb1
          have hb1 := hbl.trans (hb1.mono hszB)
          have hs1 : B0 ≤ w1.heap.size := by have := hb1.size; rw [HBZ.out] at this; exact this
          replace hcc := cell_later (by rw [HBZ.out]; exact hb1) hcc
          clear hst hown hbl hszB hend
          go_wp2_with (go_at_call 74; refine (markOf 43 t w1 hts).mono ?_)
          rintro e w2 ⟨rfl, hb2⟩
          have hown2 := own_later hown1 hb2
          have hb2 := hb1.trans (hb2.mono hs1)
          have hs2 : B0 ≤ w2.heap.size := by have := hb2.size; rw [HBZ.out] at this; exact this
          clear hown1 hb1 hs1 hcc
          go_wp2_with (at_builtin; refine wpList_append_own _ rfl _ _ 38 rfl B0 37 i0 (.agg #[.int .u8 0, .string ByteArray.empty]) 2 24 Tryd.underlying38 hi0 hz0 hz1 hz2 rfl (by decide) _ _ _ rfl (hown2.alloc _) ⟨w2.heap.size, 0, none⟩ 1 1 [.int .u8 43, .string t] rfl rfl (cell_two_new _ _ _ _) (fun x hx => by simp at hx; rcases hx with rfl | rfl <;> rfl) (by unfold maxLen; omega) (by omega) (by simp; omega) ?_; intro v' w3 hown' hgrow3 hnil3)
          go_roundw
          case rel =>
            refine ⟨i, j + 1, done ++ [(43, t)], by omega, by omega, by go_num, by go_num, ?_, HSN.out, ?_⟩
            · exact (hb2.alloc (by omega) _).grown hgrow3 (by simp; omega) (fun j hj => (hown2.lt j hj).1)
            · rw [mcells_append, List.length_append]; exact hown'
          case measure => simp [intOf]; omega
    · have hi2 : i = m := by omega
      have hj2 : j = n := by omega
      subst hi2 hj2
      have hz : scr (xs.drop i) (ys.drop j) = [] := by rw [List.drop_of_length_le (by rw [HM.out]; exact Nat.le_refl _), List.drop_of_length_le (by rw [HN.out]; exact Nat.le_refl _), scr_nil]; rfl
      have hdone := HD.out
      rw [hz, List.append_nil] at hdone
      clear hst HST HSC HDL HD hz hend
      go_wp2
      go_ret2
      subst hdone
      obtain ⟨a', cap, rfl, hmk, hcp⟩ := mks_cap_own hown
      exact ⟨a', cap, rfl, hmk, HB0.out.trans (hbl.mono (by omega)), hcp⟩

end Go.Proofs.YtnkdmgekpajfhaeDoor
