/-
  Walks of edit.mark, of the array's step and of edit.Script: the first of the scripts of the fewest lines.
-/
import Derived.Test.YtnkdmgekpajfhaeDoorLess
import Derived.Test.YtnkdmgekpajfhaeDoorFar

namespace Go.Proofs.YtnkdmgekpajfhaeDoor
open Go.RowKit Dist

set_option maxHeartbeats 400000 in
theorem markOf (c : Int) (t : ByteArray) (w : World) (ht : t.size ≤ 80) : Calls Tryd.prog 74 #[.int .u8 c, .string t] w fun e w' => e = .returned (.agg #[.int .u8 c, .string t]) ∧ Below w.heap.size w w' := by
  have hcl := clone t (w.alloc (.cells #[.int .u8 0, .string ⟨#[]⟩] 37)) (by omega)
  have hb0 := below_alloc w (.cells #[.int .u8 0, .string ⟨#[]⟩] 37)
  have hblk := heap_alloc_new w (.cells #[.int .u8 0, .string ⟨#[]⟩] 37)
  have hsz : w.heap.size < (w.alloc (.cells #[.int .u8 0, .string ⟨#[]⟩] 37)).heap.size := by simp
  have HB0 : Hid (Below w.heap.size w (w.alloc (.cells #[.int .u8 0, .string ⟨#[]⟩] 37))) := hb0
  have HBLK : Hid ((w.alloc (.cells #[.int .u8 0, .string ⟨#[]⟩] 37)).heap[w.heap.size]? = some (.cells #[.int .u8 0, .string ⟨#[]⟩] 37)) := hblk
  have HSZ : Hid (w.heap.size < (w.alloc (.cells #[.int .u8 0, .string ⟨#[]⟩] 37)).heap.size) := hsz
  clear hb0 hblk hsz ht
  go_enter Tryd.func74, Tryd.ntmps74
  go_wp2_with (go_at_call 31; refine hcl.mono ?_)
  rintro e w1 ⟨rfl, hb1⟩
  clear hcl
  have hblk := blk_below hb1 HSZ.out HBLK.out
  have hb1 := HB0.out.trans (hb1.mono HB0.out.size)
  have hc1 : w1.cell? ⟨w.heap.size, 0, none⟩ = some (.int .u8 0) := by rw [Lib.cell_of_heap hblk]; rfl
  have hc2 : w1.cell? ⟨w.heap.size, 1, none⟩ = some (.string ⟨#[]⟩) := by rw [Lib.cell_of_heap hblk]; rfl
  have hf1 := Lib.frozen_of_heap hblk 0
  have hf2 := Lib.frozen_of_heap hblk 1
  have hblk2 := blk_set (i := 1) (blk_set (i := 0) hblk (.int .u8 c)) (.string t)
  have hc3 := Lib.cell_of_heap hblk2 0
  have hc4 := Lib.cell_of_heap hblk2 1
  simp at hc3 hc4
  clear hblk
  go_wp2
  refine bodyPost_ret (v := .agg #[.int .u8 c, .string t]) (by simp [results, Tryd.results74, go_sem, hc3, hc4]) rfl ⟨rfl, ?_⟩
  exact (hb1.setCell (Nat.le_refl _) _).setCell (Nat.le_refl _) _

/-- The sign of the next mark. -/
def stp (xs ys : List ByteArray) (i j : Nat) : Int :=
  if i = xs.length then 43 else if j = ys.length then 45 else if xs.getD i ByteArray.empty = ys.getD j ByteArray.empty then 32
  else if dist (xs.drop (i + 1)) (ys.drop j) ≤ dist (xs.drop i) (ys.drop (j + 1)) then 45 else 43

set_option maxRecDepth 100000 in
set_option maxHeartbeats 1000000 in
theorem step (a b : Option Addr) (xs ys : List ByteArray) (ca cb B i j : Nat) (w : World) (ha : Strs w a xs) (hb : Strs w b ys) (h1 : xs.length ≤ 60) (h2 : ys.length ≤ 60) (hi : i ≤ xs.length) (hj : j ≤ ys.length)
    (ht : Tab w B xs ys (fun i j => i ≤ xs.length ∧ j ≤ ys.length)) :
    Calls Tryd.prog 100 #[.pointer (some ⟨B, 0, none⟩), .slice a xs.length ca, .slice b ys.length cb, .int .i64 i, .int .i64 j] w fun e w' => e = .returned (.int .u8 (stp xs ys i j)) ∧ Below w.heap.size w w' := by
  have HD : Hid (stp xs ys i j = if i = xs.length then 43 else if j = ys.length then 45 else if xs.getD i ByteArray.empty = ys.getD j ByteArray.empty then 32 else if dist (xs.drop (i + 1)) (ys.drop j) ≤ dist (xs.drop i) (ys.drop (j + 1)) then 45 else 43) := rfl
  have HR1 := fun h1 h2 => ht.cell (i := i + 1) (j := j) (by exact ⟨h1, h2⟩)
  have HR2 := fun h1 h2 => ht.cell (i := i) (j := j + 1) (by exact ⟨h1, h2⟩)
  obtain ⟨d, hd⟩ : ∃ d, stp xs ys i j = d := ⟨_, rfl⟩
  rw [hd] at HD ⊢
  clear hd ht
  obtain ⟨m, hm⟩ : ∃ m, xs.length = m := ⟨_, rfl⟩
  obtain ⟨n, hn⟩ : ∃ n, ys.length = n := ⟨_, rfl⟩
  rw [hm] at h1 hi HD HR1 HR2 ⊢
  rw [hn] at h2 hj HD HR1 HR2 ⊢
  have HM : Hid (xs.length = m) := hm
  have HN : Hid (ys.length = n) := hn
  clear hm hn
  by_cases e1 : i = m
  · obtain rfl : d = 43 := by rw [HD.out, if_pos e1]
    subst e1
    clear HD HR1 HR2 ha hb
    go_enter Tryd.func100, Tryd.ntmps100
    go_wp2
    go_ret
    exact ⟨rfl, Below.refl _ _⟩
  have f1 : ((i : Int) == (m : Int)) = false := by simp; omega
  by_cases e2 : j = n
  · obtain rfl : d = 45 := by rw [HD.out, if_neg e1, if_pos e2]
    subst e2
    clear HD HR1 HR2 ha hb
    go_enter Tryd.func100, Tryd.ntmps100
    go_wp2
    go_ret
    exact ⟨rfl, Below.refl _ _⟩
  have f2 : ((j : Int) == (n : Int)) = false := by simp; omega
  have him : i < m := by omega
  have hjn : j < n := by omega
  have hr1 := HR1 (by omega) (by omega) (by omega) (by omega)
  have hr2 := HR2 (by omega) (by omega) (by omega) (by omega)
  obtain ⟨ba, oa, rfl, hca⟩ := Strs.at ha (i := i) (by rw [HM.out]; exact him)
  obtain ⟨bb, ob, rfl, hcb⟩ := Strs.at hb (i := j) (by rw [HN.out]; exact hjn)
  replace hca := hca i (by rw [HM.out]; exact him)
  replace hcb := hcb j (by rw [HN.out]; exact hjn)
  obtain ⟨x, hx⟩ : ∃ x, xs.getD i ByteArray.empty = x := ⟨_, rfl⟩
  obtain ⟨y, hy⟩ : ∃ y, ys.getD j ByteArray.empty = y := ⟨_, rfl⟩
  rw [hx] at hca HD
  rw [hy] at hcb HD
  rw [if_neg e1, if_neg e2] at HD
  obtain ⟨d1, hd1⟩ : ∃ d, dist (xs.drop (i + 1)) (ys.drop j) = d := ⟨_, rfl⟩
  obtain ⟨d2, hd2⟩ : ∃ d, dist (xs.drop i) (ys.drop (j + 1)) = d := ⟨_, rfl⟩
  rw [hd1] at hr1 HD
  rw [hd2] at hr2 HD
  clear hx hy ha hb HR1 HR2 hd1 hd2 e1 e2
  by_cases he : (x.toList == y.toList) = true
  · obtain rfl : d = 32 := by rw [HD.out, if_pos (bytes_eq he)]
    clear HD hr1 hr2
    go_enter Tryd.func100, Tryd.ntmps100
    go_wp2
    go_quiet (fail)
    go_wp2
    go_ret
    exact ⟨rfl, below_drawn (Below.refl _ _)⟩
  · have he : (x.toList == y.toList) = false := by simpa using he
    by_cases hle : d1 ≤ d2
    · obtain rfl : d = 45 := by rw [HD.out, if_neg (bytes_ne he), if_pos hle]
      have hle' : (d1 : Int) ≤ (d2 : Int) := by omega
      clear HD hle
      go_enter Tryd.func100, Tryd.ntmps100
      go_wp2
      go_quiet (fail)
      go_wp2
      go_quiet (fail)
      go_wp2
      go_ret
      exact ⟨rfl, below_drawn (below_drawn (Below.refl _ _))⟩
    · obtain rfl : d = 43 := by rw [HD.out, if_neg (bytes_ne he), if_neg hle]
      have hle' : ¬ (d1 : Int) ≤ (d2 : Int) := by omega
      clear HD hle
      go_enter Tryd.func100, Tryd.ntmps100
      go_wp2
      go_quiet (fail)
      go_wp2
      go_quiet (fail)
      go_wp2
      go_ret
      exact ⟨rfl, below_drawn (below_drawn (Below.refl _ _))⟩

theorem stp_cases {xs ys : List ByteArray} {i j : Nat} (hi : i ≤ xs.length) (hj : j ≤ ys.length) (h : i < xs.length ∨ j < ys.length) :
    (stp xs ys i j = 32 ∧ i < xs.length ∧ j < ys.length ∧ scr (xs.drop i) (ys.drop j) = (32, xs.getD i ByteArray.empty) :: scr (xs.drop (i + 1)) (ys.drop (j + 1))) ∨
    (stp xs ys i j = 45 ∧ i < xs.length ∧ scr (xs.drop i) (ys.drop j) = (45, xs.getD i ByteArray.empty) :: scr (xs.drop (i + 1)) (ys.drop j)) ∨
    (stp xs ys i j = 43 ∧ j < ys.length ∧ scr (xs.drop i) (ys.drop j) = (43, ys.getD j ByteArray.empty) :: scr (xs.drop i) (ys.drop (j + 1))) := by
  unfold stp
  by_cases e1 : i = xs.length
  · refine .inr (.inr ⟨if_pos e1, by omega, ?_⟩)
    rw [e1, List.drop_of_length_le (Nat.le_refl _), drop_at (xs := ys) (i := j) (by omega), scr_put]
  rw [if_neg e1]
  by_cases e2 : j = ys.length
  · refine .inr (.inl ⟨if_pos e2, by omega, ?_⟩)
    rw [e2, List.drop_of_length_le (Nat.le_refl ys.length), drop_at (xs := xs) (i := i) (by omega), scr_take]
  rw [if_neg e2]
  have h1 : i < xs.length := by omega
  have h2 : j < ys.length := by omega
  have hs : scr (xs.drop i) (ys.drop j) = if xs.getD i ByteArray.empty = ys.getD j ByteArray.empty then (32, xs.getD i ByteArray.empty) :: scr (xs.drop (i + 1)) (ys.drop (j + 1)) else if dist (xs.drop (i + 1)) (ys.drop j) ≤ dist (xs.drop i) (ys.drop (j + 1)) then (45, xs.getD i ByteArray.empty) :: scr (xs.drop (i + 1)) (ys.drop j) else (43, ys.getD j ByteArray.empty) :: scr (xs.drop i) (ys.drop (j + 1)) := by
    conv => lhs; rw [drop_at h1, drop_at h2, scr_cons]
    rw [← drop_at h1, ← drop_at h2]
  rw [hs]
  by_cases e3 : xs.getD i ByteArray.empty = ys.getD j ByteArray.empty
  · exact .inl ⟨if_pos e3, h1, h2, if_pos e3⟩
  rw [if_neg e3, if_neg e3]
  by_cases e4 : dist (xs.drop (i + 1)) (ys.drop j) ≤ dist (xs.drop i) (ys.drop (j + 1))
  · exact .inr (.inl ⟨if_pos e4, h1, if_pos e4⟩)
  · exact .inr (.inr ⟨if_neg e4, h2, if_neg e4⟩)

theorem Tryd.infoMark : (Tryd.prog.info? 37).map (fun i => (i.zero, i.size, i.bytes)) = some (some (.agg #[.int .u8 0, .string ByteArray.empty]), 2, 24) := by kernel_rfl

theorem cell_two_new (w : World) (x y : Value) (t : TypeId) : ∀ j u, [x, y][j]? = some u → (w.alloc (.cells #[x, y] t)).cell? ((⟨w.heap.size, 0, none⟩ : Addr).add j) = some u := by
  intro j u hj
  have hblk := heap_alloc_new w (.cells #[x, y] t)
  match j, hj with
  | 0, hj =>
    simp at hj
    subst hj
    exact Lib.cell_of_heap hblk 0
  | 1, hj =>
    simp at hj
    subst hj
    exact Lib.cell_of_heap hblk 1

theorem mem_getD {xs : List ByteArray} {i : Nat} (hi : i < xs.length) : xs.getD i ByteArray.empty ∈ xs := by
  have e : xs.getD i ByteArray.empty = xs[i] := by simp [hi]
  rw [e]; exact List.getElem_mem _

theorem line_small {xs : List ByteArray} (h : lsf (bts xs) = 0) {i : Nat} (hi : i < xs.length) : (xs.getD i ByteArray.empty).size ≤ 80 := by
  have := (lsf_zero h).2 _ (List.mem_map.2 ⟨_, mem_getD hi, rfl⟩)
  have := (lf_zero this).2
  rw [Lib.size_eq]; exact this

set_option maxRecDepth 100000 in
set_option maxHeartbeats 2000000 in
theorem script_ok (a b : Option Addr) (xs ys : List ByteArray) (ca cb : Nat) (w : World) (ha : Strs w a xs) (hb : Strs w b ys) (hf : ff xs ys = 0) :
    Calls Tryd.prog 87 #[.slice a xs.length ca, .slice b ys.length cb] w fun e w' => ∃ a' cap, e = .returned (.tuple #[.slice a' (scr xs ys).length cap, .nilIface]) ∧ Mks w' a' (scr xs ys) ∧ Below w.heap.size w w' := by
  obtain ⟨f1, f2⟩ := ff_zero hf
  have h1 := lsf_len f1
  have h2 := lsf_len f2
  have hck := checkBoth a b xs ys ca cb w ha hb (by unfold maxLen; omega) (by unfold maxLen; omega)
  have hte := toEnd a b xs ys ca cb w ha hb h1 h2
  rw [hf, errV_zero] at hck
  obtain ⟨i0, hi0, hz0, hz1, hz2⟩ := info_parts Tryd.infoMark
  have HXS : Hid (∀ i, i < xs.length → (xs.getD i ByteArray.empty).size ≤ 80) := fun i hi => line_small f1 hi
  have HYS : Hid (∀ i, i < ys.length → (ys.getD i ByteArray.empty).size ≤ 80) := fun i hi => line_small f2 hi
  have HSL : Hid ((scr xs ys).length ≤ 120) := by have := (scr_ok xs ys).2.2.2.1; show (scr xs ys).length ≤ 120; omega
  have HST := fun w' B i j ha hb => step a b xs ys ca cb B i j w' ha hb h1 h2
  have HSC := fun i j hi hj h => stp_cases (xs := xs) (ys := ys) (i := i) (j := j) hi hj h
  obtain ⟨m, hm⟩ : ∃ m, xs.length = m := ⟨_, rfl⟩
  obtain ⟨n, hn⟩ : ∃ n, ys.length = n := ⟨_, rfl⟩
  rw [hm] at h1 hck hte HST HSC HXS ⊢
  rw [hn] at h2 hck hte HST HSC HYS ⊢
  have HM : Hid (xs.length = m) := hm
  have HN : Hid (ys.length = n) := hn
  have HA : Hid (Strs w a xs) := ha
  have HBB : Hid (Strs w b ys) := hb
  clear hm hn ha hb f1 f2 hf
  obtain ⟨B, hB⟩ : ∃ B, w.heap.size = B := ⟨_, rfl⟩
  have HB : Hid (w.heap.size = B) := hB
  rw [hB] at hte ⊢
  clear hB
  go_enter Tryd.func87, Tryd.ntmps87
  go_wp2_with (first | (go_at_call 98; refine hck.mono ?_; rintro e w' ⟨rfl, hw⟩; rw [hw]) | (go_at_call 99; refine hte.mono ?_))
  rintro e w0 ⟨rfl, hb0, hs0, htab⟩
  clear hck hte
  have HT : Hid (Tab w0 B xs ys (fun i j => i ≤ m ∧ j ≤ n)) := htab
  have HB0 : Hid (Below B w w0) := hb0
  have HA0 : Hid (Strs w0 a xs) := HA.out.below (by rw [HB.out]; exact hb0)
  have HBB0 : Hid (Strs w0 b ys) := HBB.out.below (by rw [HB.out]; exact hb0)
  clear htab hb0 HA HBB
  obtain ⟨B0, hB0⟩ : ∃ B0, w0.heap.size = B0 := ⟨_, rfl⟩
  have HBZ : Hid (w0.heap.size = B0) := hB0
  rw [hB0] at hs0
  clear hB0
  go_wp2
  go_loopw [8, 9, 10] (fun v vi vj w1 => ∃ (i j : Nat) (done : List (Int × ByteArray)), i ≤ m ∧ j ≤ n ∧ vi = .int .i64 i ∧ vj = .int .i64 j ∧ Below B0 w0 w1 ∧ done ++ scr (xs.drop i) (ys.drop j) = scr xs ys ∧ w1.ownsRow B0 37 2 v done.length (mcells done)) (fun _ vi vj _ => (m - (intOf vi).toNat) + (n - (intOf vj).toNat))
  case atStart => exact ⟨0, 0, [], Nat.zero_le _, Nat.zero_le _, rfl, rfl, Below.refl _ _, rfl, ⟨rfl, Or.inl ⟨rfl, rfl⟩⟩⟩
  case round =>
    obtain ⟨i, j, done, hi, hj, rfl, rfl, hbl, hdone, hown⟩ := hrel
    have HD : Hid (done ++ scr (xs.drop i) (ys.drop j) = scr xs ys) := hdone
    have HDL : done.length + (scr (xs.drop i) (ys.drop j)).length ≤ 120 := by have := HSL.out; rw [← hdone, List.length_append] at this; exact this
    clear hdone
    have hszB : B0 ≤ wr.heap.size := by have := hbl.size; rw [HBZ.out] at this; exact this
    have hst := HST wr B i j (HA0.out.below (by rw [HBZ.out]; exact hbl)) (HBB0.out.below (by rw [HBZ.out]; exact hbl)) hi hj (HT.out.below (by rw [HBZ.out]; exact hbl) (by rw [HBZ.out]; exact hs0))
    by_cases hend : i < m ∨ j < n
    · rcases HSC i j hi hj hend with ⟨e, him, hjn, hsc⟩ | ⟨e, him, hsc⟩ | ⟨e, hjn, hsc⟩
      · rw [e] at hst
        have hdl : done.length < 120 := by rw [hsc, List.length_cons] at HDL; omega
        have HSN : Hid ((done ++ [(32, xs.getD i ByteArray.empty)]) ++ scr (xs.drop (i + 1)) (ys.drop (j + 1)) = scr xs ys) := by
          have := HD.out
          rw [hsc] at this
          show (done ++ [(32, xs.getD i ByteArray.empty)]) ++ scr (xs.drop (i + 1)) (ys.drop (j + 1)) = scr xs ys
          rw [← this, List.append_assoc]; rfl
        have hln := HA0.out
        obtain ⟨bb, ob, rfl, hcc⟩ := Strs.at hln (i := i) (by rw [HM.out]; exact him)
        replace hcc := hcc i (by rw [HM.out]; exact him)
        have hts := HXS.out i him
        obtain ⟨t, ht⟩ : ∃ t, xs.getD i ByteArray.empty = t := ⟨_, rfl⟩
        rw [ht] at hcc hts HSN
        clear hln HDL HSC HD hsc e ht HST
        go_wp2_with (go_at_call 100; refine hst.mono ?_)
        rintro e w1 ⟨rfl, hb1⟩
        have hown1 := own_later hown hb1
        have hb1 := hbl.trans (hb1.mono hszB)
        have hs1 : B0 ≤ w1.heap.size := by have := hb1.size; rw [HBZ.out] at this; exact this
        replace hcc := cell_later (by rw [HBZ.out]; exact hb1) hcc
        clear hst hown hbl hszB hend
        go_wp2_with (go_at_call 74; refine (markOf 32 t w1 hts).mono ?_)
        rintro e w2 ⟨rfl, hb2⟩
        have hown2 := own_later hown1 hb2
        have hb2 := hb1.trans (hb2.mono hs1)
        have hs2 : B0 ≤ w2.heap.size := by have := hb2.size; rw [HBZ.out] at this; exact this
        clear hown1 hb1 hs1 hcc
        go_wp2_with (at_builtin; refine wpList_append_own _ rfl _ _ 38 rfl B0 37 i0 (.agg #[.int .u8 0, .string ByteArray.empty]) 2 24 Tryd.underlying38 hi0 hz0 hz1 hz2 rfl (by decide) _ _ _ rfl (hown2.alloc _) ⟨w2.heap.size, 0, none⟩ 1 1 [.int .u8 32, .string t] rfl rfl (cell_two_new _ _ _ _) (fun x hx => by simp at hx; rcases hx with rfl | rfl <;> rfl) (by unfold maxLen; omega) (by omega) (by simp; omega) ?_; intro v' w3 hown' hgrow3 hnil3)
        go_roundw
        case rel =>
          refine ⟨i + 1, j + 1, done ++ [(32, t)], by omega, by omega, by go_num, by go_num, ?_, HSN.out, ?_⟩
          · exact (hb2.alloc (by omega) _).grown hgrow3 (by simp; omega) (fun j hj => (hown2.lt j hj).1)
          · rw [mcells_append, List.length_append]; exact hown'
        case measure => simp [intOf]; omega
      · rw [e] at hst
        have hdl : done.length < 120 := by rw [hsc, List.length_cons] at HDL; omega
        have HSN : Hid ((done ++ [(45, xs.getD i ByteArray.empty)]) ++ scr (xs.drop (i + 1)) (ys.drop (j)) = scr xs ys) := by
          have := HD.out
          rw [hsc] at this
          show (done ++ [(45, xs.getD i ByteArray.empty)]) ++ scr (xs.drop (i + 1)) (ys.drop (j)) = scr xs ys
          rw [← this, List.append_assoc]; rfl
        have hln := HA0.out
        obtain ⟨bb, ob, rfl, hcc⟩ := Strs.at hln (i := i) (by rw [HM.out]; exact him)
        replace hcc := hcc i (by rw [HM.out]; exact him)
        have hts := HXS.out i him
        obtain ⟨t, ht⟩ : ∃ t, xs.getD i ByteArray.empty = t := ⟨_, rfl⟩
        rw [ht] at hcc hts HSN
        clear hln HDL HSC HD hsc e ht HST
        go_wp2_with (go_at_call 100; refine hst.mono ?_)
        rintro e w1 ⟨rfl, hb1⟩
        have hown1 := own_later hown hb1
        have hb1 := hbl.trans (hb1.mono hszB)
        have hs1 : B0 ≤ w1.heap.size := by have := hb1.size; rw [HBZ.out] at this; exact this
        replace hcc := cell_later (by rw [HBZ.out]; exact hb1) hcc
        clear hst hown hbl hszB hend
        go_wp2_with (go_at_call 74; refine (markOf 45 t w1 hts).mono ?_)
        rintro e w2 ⟨rfl, hb2⟩
        have hown2 := own_later hown1 hb2
        have hb2 := hb1.trans (hb2.mono hs1)
        have hs2 : B0 ≤ w2.heap.size := by have := hb2.size; rw [HBZ.out] at this; exact this
        clear hown1 hb1 hs1 hcc
        go_wp2_with (at_builtin; refine wpList_append_own _ rfl _ _ 38 rfl B0 37 i0 (.agg #[.int .u8 0, .string ByteArray.empty]) 2 24 Tryd.underlying38 hi0 hz0 hz1 hz2 rfl (by decide) _ _ _ rfl (hown2.alloc _) ⟨w2.heap.size, 0, none⟩ 1 1 [.int .u8 45, .string t] rfl rfl (cell_two_new _ _ _ _) (fun x hx => by simp at hx; rcases hx with rfl | rfl <;> rfl) (by unfold maxLen; omega) (by omega) (by simp; omega) ?_; intro v' w3 hown' hgrow3 hnil3)
        go_roundw
        case rel =>
          refine ⟨i + 1, j, done ++ [(45, t)], by omega, by omega, by go_num, by go_num, ?_, HSN.out, ?_⟩
          · exact (hb2.alloc (by omega) _).grown hgrow3 (by simp; omega) (fun j hj => (hown2.lt j hj).1)
          · rw [mcells_append, List.length_append]; exact hown'
        case measure => simp [intOf]; omega
      · rw [e] at hst
        have hdl : done.length < 120 := by rw [hsc, List.length_cons] at HDL; omega
        have HSN : Hid ((done ++ [(43, ys.getD j ByteArray.empty)]) ++ scr (xs.drop (i)) (ys.drop (j + 1)) = scr xs ys) := by
          have := HD.out
          rw [hsc] at this
          show (done ++ [(43, ys.getD j ByteArray.empty)]) ++ scr (xs.drop (i)) (ys.drop (j + 1)) = scr xs ys
          rw [← this, List.append_assoc]; rfl
        have hln := HBB0.out
        obtain ⟨bb, ob, rfl, hcc⟩ := Strs.at hln (i := j) (by rw [HN.out]; exact hjn)
        replace hcc := hcc j (by rw [HN.out]; exact hjn)
        have hts := HYS.out j hjn
        obtain ⟨t, ht⟩ : ∃ t, ys.getD j ByteArray.empty = t := ⟨_, rfl⟩
        rw [ht] at hcc hts HSN
        clear hln HDL HSC HD hsc e ht HST
        by_cases hg : i < m
        all_goals
          go_wp2_with (go_at_call 100; refine hst.mono ?_)
          rintro e w1 ⟨rfl, hb1⟩
          have hown1 := own_later hown hb1
          have hb1 := hbl.trans (hb1.mono hszB)
          have hs1 : B0 ≤ w1.heap.size := by have := hb1.size; rw [HBZ.out] at this; exact this
          replace hcc := cell_later (by rw [HBZ.out]; exact hb1) hcc
          clear hst hown hbl hszB hend
          go_wp2_with (go_at_call 74; refine (markOf 43 t w1 hts).mono ?_)
          rintro e w2 ⟨rfl, hb2⟩
          have hown2 := own_later hown1 hb2
          have hb2 := hb1.trans (hb2.mono hs1)
          have hs2 : B0 ≤ w2.heap.size := by have := hb2.size; rw [HBZ.out] at this; exact this
          clear hown1 hb1 hs1 hcc
          go_wp2_with (at_builtin; refine wpList_append_own _ rfl _ _ 38 rfl B0 37 i0 (.agg #[.int .u8 0, .string ByteArray.empty]) 2 24 Tryd.underlying38 hi0 hz0 hz1 hz2 rfl (by decide) _ _ _ rfl (hown2.alloc _) ⟨w2.heap.size, 0, none⟩ 1 1 [.int .u8 43, .string t] rfl rfl (cell_two_new _ _ _ _) (fun x hx => by simp at hx; rcases hx with rfl | rfl <;> rfl) (by unfold maxLen; omega) (by omega) (by simp; omega) ?_; intro v' w3 hown' hgrow3 hnil3)
          go_roundw
          case rel =>
            refine ⟨i, j + 1, done ++ [(43, t)], by omega, by omega, by go_num, by go_num, ?_, HSN.out, ?_⟩
            · exact (hb2.alloc (by omega) _).grown hgrow3 (by simp; omega) (fun j hj => (hown2.lt j hj).1)
            · rw [mcells_append, List.length_append]; exact hown'
          case measure => simp [intOf]; omega
    · have hi2 : i = m := by omega
      have hj2 : j = n := by omega
      subst hi2 hj2
      have hz : scr (xs.drop i) (ys.drop j) = [] := by rw [List.drop_of_length_le (by rw [HM.out]; exact Nat.le_refl _), List.drop_of_length_le (by rw [HN.out]; exact Nat.le_refl _), scr_nil]; rfl
      have hdone := HD.out
      rw [hz, List.append_nil] at hdone
      clear hst HST HSC HDL HD hz hend
      go_wp2
      go_ret2
      subst hdone
      obtain ⟨a', cap, rfl, hmk⟩ := mks_of_own hown
      exact ⟨a', cap, rfl, hmk, HB0.out.trans (hbl.mono (by omega))⟩

end Go.Proofs.YtnkdmgekpajfhaeDoor
