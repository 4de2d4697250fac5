/-
  Rows of hunks that a call has made and fills; walks of hunk.Turn: hunks turned; the fault else.
-/
import Derived.Test.YtnkdmgekpajfhaeDoorCut2
import Derived.Deep.RegionWith

namespace Go.Proofs.YtnkdmgekpajfhaeDoor
open Go.RowKit Dist

/-- A row of hunks that a call has made: the first k places are filled. -/
def HRow (w : World) (B n k : Nat) (hs : List (Int × Int × List (Int × ByteArray))) : Prop :=
  ∃ cs : Array Value, w.heap[B]? = some (.cells cs 40 (0, 0)) ∧ cs.size = n * 3 ∧ ∀ j, j < k → ∃ g cap, cs[j * 3]? = some (.int .i64 (hs.getD j (0, 0, [])).1) ∧ cs[j * 3 + 1]? = some (.int .i64 (hs.getD j (0, 0, [])).2.1) ∧ cs[j * 3 + 2]? = some (.slice (some ⟨g, 0, none⟩) (hs.getD j (0, 0, [])).2.2.length cap) ∧ g ≠ B ∧ Mks w (some ⟨g, 0, none⟩) (hs.getD j (0, 0, [])).2.2 ∧ (hs.getD j (0, 0, [])).2.2.length ≤ cap

theorem HRow.any {w : World} {B n k : Nat} {hs : List (Int × Int × List (Int × ByteArray))} (h : HRow w B n k hs) {i : Nat} (hi : i < n * 3) : ∃ v, w.cell? ⟨B, i, none⟩ = some v := by
  obtain ⟨cs, hc, h2, _⟩ := h
  rw [Lib.cell_of_heap hc]
  exact ⟨_, Array.getElem?_eq_getElem (by omega)⟩

theorem HRow.frozen {w : World} {B n k : Nat} {hs : List (Int × Int × List (Int × ByteArray))} (h : HRow w B n k hs) (i : Nat) : w.frozen? ⟨B, i, none⟩ = false := by
  obtain ⟨cs, hc, _⟩ := h
  exact Lib.frozen_of_heap hc i

theorem HRow.lt {w : World} {B n k : Nat} {hs : List (Int × Int × List (Int × ByteArray))} (h : HRow w B n k hs) : B < w.heap.size := by
  obtain ⟨cs, hc, _⟩ := h
  by_cases e : B < w.heap.size
  · exact e
  · rw [Array.getElem?_eq_none (by omega)] at hc; cases hc

theorem HRow.below {w w' : World} {B n k : Nat} {hs : List (Int × Int × List (Int × ByteArray))} (h : HRow w B n k hs) (hb : Below w.heap.size w w') : HRow w' B n k hs := by
  have hl := h.lt
  obtain ⟨cs, hc, hs, hat⟩ := h
  refine ⟨cs, blk_below hb hl hc, hs, fun j hj => ?_⟩
  obtain ⟨g, cap, a1, a2, a3, a4, a5, a6⟩ := hat j hj
  exact ⟨g, cap, a1, a2, a3, a4, a5.below hb, a6⟩

theorem Mks.other {w : World} {g B i : Nat} {ms : List (Int × ByteArray)} (h : Mks w (some ⟨g, 0, none⟩) ms) (hne : g ≠ B) (v : Value) : Mks (w.setCell ⟨B, i, none⟩ v) (some ⟨g, 0, none⟩) ms := by
  intro j hj
  obtain ⟨b, off, e, m1, m2⟩ := h j hj
  obtain rfl : g = b := by
    have := congrArg (fun o => o.map Addr.block) e
    simpa using this
  refine ⟨g, off, e, ?_, ?_⟩
  · rw [World.cell?_setCell_other]
    · exact m1
    · intro e; have := congrArg Addr.block e; simp only at this; omega
  · rw [World.cell?_setCell_other]
    · exact m2
    · intro e; have := congrArg Addr.block e; simp only at this; omega

theorem HRow.set {w : World} {B n k : Nat} {hs : List (Int × Int × List (Int × ByteArray))} (h : HRow w B n k hs) (hk : k < n) {o p : Int} {ms : List (Int × ByteArray)} {g cap : Nat} (hh : hs.getD k (0, 0, []) = (o, p, ms)) (hg : g ≠ B) (hmk : Mks w (some ⟨g, 0, none⟩) ms) (hcp : ms.length ≤ cap) :
    HRow (((w.setCell ⟨B, k * 3, none⟩ (.int .i64 o)).setCell ⟨B, k * 3 + 1, none⟩ (.int .i64 p)).setCell ⟨B, k * 3 + 2, none⟩ (.slice (some ⟨g, 0, none⟩) ms.length cap)) B n (k + 1) hs := by
  obtain ⟨cs, hc, hs', hat⟩ := h
  refine ⟨_, blk_set (blk_set (blk_set hc _) _) _, by simpa using hs', fun j hj => ?_⟩
  by_cases e : j = k
  · subst e
    rw [hh]
    refine ⟨g, cap, ?_, ?_, ?_, hg, ((hmk.other hg _).other hg _).other hg _, hcp⟩
    · rw [Array.getElem?_setIfInBounds_ne (by omega), Array.getElem?_setIfInBounds_ne (by omega), Array.getElem?_setIfInBounds_self_of_lt (by omega)]
    · rw [Array.getElem?_setIfInBounds_ne (by omega), Array.getElem?_setIfInBounds_self_of_lt (by simp; omega)]
    · rw [Array.getElem?_setIfInBounds_self_of_lt (by simp; omega)]
  · obtain ⟨g1, c1, a1, a2, a3, a4, a5, a6⟩ := hat j (by omega)
    refine ⟨g1, c1, ?_, ?_, ?_, a4, ((a5.other a4 _).other a4 _).other a4 _, a6⟩
    · rw [Array.getElem?_setIfInBounds_ne (by omega), Array.getElem?_setIfInBounds_ne (by omega), Array.getElem?_setIfInBounds_ne (by omega)]; exact a1
    · rw [Array.getElem?_setIfInBounds_ne (by omega), Array.getElem?_setIfInBounds_ne (by omega), Array.getElem?_setIfInBounds_ne (by omega)]; exact a2
    · rw [Array.getElem?_setIfInBounds_ne (by omega), Array.getElem?_setIfInBounds_ne (by omega), Array.getElem?_setIfInBounds_ne (by omega)]; exact a3

theorem HRow.hks {w : World} {B n : Nat} {hs : List (Int × Int × List (Int × ByteArray))} (h : HRow w B n hs.length hs) : Hks w (some ⟨B, 0, none⟩) hs := by
  intro i hi
  obtain ⟨cs, hc, _, hat⟩ := h
  obtain ⟨g, cap, a1, a2, a3, _, a5, a6⟩ := hat i hi
  refine ⟨B, 0, some ⟨g, 0, none⟩, cap, rfl, ?_, ?_, ?_, a5, a6⟩
  · rw [Nat.zero_add, Lib.cell_of_heap hc]; exact a1
  · rw [Nat.zero_add, Lib.cell_of_heap hc]; exact a2
  · rw [Nat.zero_add, Lib.cell_of_heap hc]; exact a3

/-- A row of hunks, new. -/
theorem run_make_hunks (kl kc : IntKind) (n : Nat) (hn : n ≤ 1000) (w : World) :
    (Instr.makeSlice 24 (.int kl (n : Int)) (.int kc (n : Int))).run Tryd.prog w = .ok (.slice (some ⟨w.heap.size, 0, none⟩) n n) (w.alloc (.cells (madeCells #[.int .i64 0, .int .i64 0, .slice none 0 0] (n * 3)) 40)) := by
  obtain ⟨i0, hi, hz0, hz1, hz2⟩ := info_parts Tryd.infoHunk
  have hr := run_make (P := Tryd.prog) w 24 40 i0 _ Tryd.underlying24 hi hz0 kl kc n n (by omega) (Int.le_refl _) (by rw [hz2]; omega) (by omega)
  rw [hz1] at hr
  exact hr

theorem trn_getD (l : List (Int × Int × List (Int × ByteArray))) (k : Nat) (hk : k < l.length) : (trn l).getD k (0, 0, []) = tn (l.getD k (0, 0, [])) := by simp [trn, hk]

set_option maxRecDepth 100000 in
set_option maxHeartbeats 8000000 in
theorem turn_ok (a : Option Addr) (l : List (Int × Int × List (Int × ByteArray))) (ca : Nat) (w : World) (ha : Hks w a l) (hf0 : (hf l).2 = 0) :
    Calls Tryd.prog 29 #[.slice a l.length ca] w fun e w' => ∃ B, e = .returned (.tuple #[.slice (some ⟨B, 0, none⟩) l.length l.length, .nilIface]) ∧ Below w.heap.size w w' ∧ Hks w' (some ⟨B, 0, none⟩) (trn l) := by
  obtain ⟨hl, hall⟩ := hf_zero hf0
  have hone : ∀ k, k < l.length → sf (l.getD k (0, 0, [])).2.2 = 0 := fun k hk => (hOne_zero (hAt_zero (hall k hk)).1).1
  have hck := hunkCheck a l ca w ha (by unfold maxLen; omega) (fun h hh => by
    obtain ⟨i, hi, rfl⟩ := List.mem_iff_getElem.1 hh
    have := (sf_zero (hone i hi)).1
    have e : l.getD i (0, 0, []) = l[i] := by simp [hi]
    rw [e] at this
    unfold maxLen; omega)
  rw [hf_ok hl hall] at hck
  dsimp only at hck
  rw [errV_zero] at hck
  obtain ⟨n, hn⟩ : ∃ n, l.length = n := ⟨_, rfl⟩
  rw [hn] at hck hl ⊢
  have HN : Hid (l.length = n) := hn
  have HONE : Hid (∀ k, k < n → sf (l.getD k (0, 0, [])).2.2 = 0) := by rw [← hn]; exact hone
  have HA : Hid (Hks w a l) := ha
  have hmk := fun w => run_make_hunks .i64 .i64 n (by omega) w
  clear hn ha hf0 hall hone
  go_enter Tryd.func29, Tryd.ntmps29
  go_wp2_with (go_at_call 41; refine hck.mono ?_)
  rintro e w0 ⟨rfl, hb0⟩
  have HB0 : Hid (Below w.heap.size w w0) := hb0
  have HA0 : Hid (Hks w0 a l) := HA.out.below hb0
  clear hck hb0 HA
  obtain ⟨B, hB⟩ : ∃ B, w0.heap.size = B := ⟨_, rfl⟩
  have HB : Hid (w0.heap.size = B) := hB
  go_wp2
  clear hmk
  go_loopw [22] (fun i w1 => ∃ k : Nat, k ≤ n ∧ i = .int .i64 k ∧ Below B w0 w1 ∧ HRow w1 B n k (trn l)) (fun i _ => n - (intOf i).toNat)
  case atStart =>
    refine ⟨0, Nat.zero_le _, rfl, (Below.refl _ _).alloc (by rw [hB]; exact Nat.le_refl _) _, ?_⟩
    subst hB
    exact ⟨_, heap_alloc_new w0 _, size_madeCells _ _, fun j hj => absurd hj (Nat.not_lt_zero _)⟩
  case round =>
    clear hB
    obtain ⟨k, hk, rfl, hbl, hrow⟩ := hrel
    by_cases hlt : k < n
    · have ha := HA0.out
      have hkl : k < l.length := by rw [HN.out]; exact hlt
      obtain ⟨b, off, am, cm, rfl, hc1, hc2, hc3, hmk⟩ := ha.at (i := k) hkl
      clear ha
      have hb' : Below w0.heap.size w0 wr := by rw [HB.out]; exact hbl
      replace hc1 := cell_later hb' hc1
      replace hc2 := cell_later hb' hc2
      replace hc3 := cell_later hb' hc3
      replace hmk := hmk.below hb'
      have hsf := HONE.out k hlt
      have HG := trn_getD l k hkl
      obtain ⟨o, ho⟩ : ∃ o, (l.getD k (0, 0, [])).1 = o := ⟨_, rfl⟩
      obtain ⟨p, hp⟩ : ∃ p, (l.getD k (0, 0, [])).2.1 = p := ⟨_, rfl⟩
      obtain ⟨ms, hms⟩ : ∃ ms, (l.getD k (0, 0, [])).2.2 = ms := ⟨_, rfl⟩
      rw [getD_eta3 l k ho hp hms] at HG
      have HGG : Hid ((trn l).getD k (0, 0, []) = (p, o, swm ms)) := HG
      rw [ho] at hc1
      rw [hp] at hc2
      rw [hms] at hc3 hmk hsf
      have HTM := fun w (h : Mks w am ms) => turnMarks am ms cm w h hsf
      obtain ⟨q, hq⟩ : ∃ q, ms.length = q := ⟨_, rfl⟩
      rw [hq] at hc3 HTM
      have HQ : Hid (ms.length = q) := hq
      clear ho hp hms hb' HG hsf hkl hq
      have hb0 := below_alloc wr (.cells #[.int .i64 o, .int .i64 p, .slice am q cm] 40)
      obtain ⟨d0, d1, d2⟩ := cells_later (Below.refl (wr.alloc (.cells #[.int .i64 o, .int .i64 p, .slice am q cm] 40)).heap.size (wr.alloc (.cells #[.int .i64 o, .int .i64 p, .slice am q cm] 40)))
      have hrow1 := hrow.below hb0
      have hmk1 := hmk.below hb0
      have hbl1 := hbl.trans (hb0.mono (by have := hbl.size; have := HB.out; omega))
      go_wp2
      generalize wr.alloc (.cells #[.int .i64 o, .int .i64 p, .slice am q cm] 40) = W1 at d0 d1 d2 hrow1 hmk1 hbl1 hb0 ⊢
      have HMW : Hid (∀ w' : World, w'.heap = W1.heap → Mks w' am ms) := fun w' h => fun i hi => by
        obtain ⟨b, off, e, m1, m2⟩ := hmk1 i hi
        exact ⟨b, off, e, (World.cell?_of_block (by rw [h])).trans m1, (World.cell?_of_block (by rw [h])).trans m2⟩
      have HRW : Hid (HRow W1 B n k (trn l)) := hrow1
      have HBW : Hid (Below B w0 W1) := hbl1
      obtain ⟨v0, y0⟩ := hrow1.any (i := k * 3) (by omega)
      obtain ⟨v1, y1⟩ := hrow1.any (i := k * 3 + 1) (by omega)
      obtain ⟨v2, y2⟩ := hrow1.any (i := k * 3 + 2) (by omega)
      have FR : Hid (∀ w2, Below W1.drew.heap.size W1.drew w2 → HRow w2 B n k (trn l)) := fun w2 h => (show HRow W1.drew B n k (trn l) from hrow1).below h
      have Y0 : Hid (∀ w2, Below W1.drew.heap.size W1.drew w2 → w2.cell? ⟨B, k * 3, none⟩ = some v0) := fun w2 h => cell_later h y0
      have Y1 : Hid (∀ w2, Below W1.drew.heap.size W1.drew w2 → w2.cell? ⟨B, k * 3 + 1, none⟩ = some v1) := fun w2 h => cell_later h y1
      have Y2 : Hid (∀ w2, Below W1.drew.heap.size W1.drew w2 → w2.cell? ⟨B, k * 3 + 2, none⟩ = some v2) := fun w2 h => cell_later h y2
      clear y0 y1 y2
      clear hmk hmk1 hrow hrow1 hbl hbl1 hc1 hc2 hc3 hb0
      have htm := HTM W1.drew (HMW.out _ rfl)
      have D0 : Hid (∀ w2, Below W1.drew.heap.size W1.drew w2 → w2.cell? ⟨wr.heap.size, 0, none⟩ = some (.int .i64 o)) := fun w2 h => cell_later h d0
      have D1 : Hid (∀ w2, Below W1.drew.heap.size W1.drew w2 → w2.cell? ⟨wr.heap.size, 1, none⟩ = some (.int .i64 p)) := fun w2 h => cell_later h d1
      clear HTM
      go_region_with (go_at_call 55; refine htm.mono ?_; rintro e w2 ⟨rfl, hb2, hlt2, hm2⟩; have e0 := D0.out w2 hb2; have e1 := D1.out w2 hb2; have y0 := Y0.out w2 hb2; have y1 := Y1.out w2 hb2; have y2 := Y2.out w2 hb2; have hr2 := FR.out w2 hb2; have f0 := hr2.frozen (k * 3); have f1 := hr2.frozen (k * 3 + 1); have f2 := hr2.frozen (k * 3 + 2))
      all_goals
        have hbx : Below B w0 w2 := (HBW.out.trans (show Below B W1 W1.drew from ⟨rfl, rfl, rfl, Nat.le_refl _, fun _ _ => rfl⟩)).trans (hb2.mono (by have := HBW.out.size; have := HB.out; show B ≤ W1.heap.size; omega))
        have hne : W1.heap.size ≠ B := by have := HRW.out.lt; omega
        have hset := hr2.set (cap := q) hlt HGG.out hne hm2 (by rw [swm_length, HQ.out]; exact Nat.le_refl _)
        rw [swm_length, HQ.out] at hset
        have HSET : Hid (HRow (((w2.setCell ⟨B, k * 3, none⟩ (.int .i64 p)).setCell ⟨B, k * 3 + 1, none⟩ (.int .i64 o)).setCell ⟨B, k * 3 + 2, none⟩ (.slice (some ⟨W1.heap.size, 0, none⟩) q q)) B n (k + 1) (trn l)) := hset
        clear hset hm2 hr2 e0 e1 y0 y1 y2 f0 f1 f2 Y0 Y1 Y2 D0 D1 FR htm d0 d1 d2
        go_wp2
        go_roundw
        case rel => exact ⟨k + 1, by omega, by go_num, ((hbx.setCell (Nat.le_refl _) _).setCell (Nat.le_refl _) _).setCell (Nat.le_refl _) _, HSET.out⟩
        case measure => simp [intOf]; omega
    · go_wp2
      go_ret2
      obtain rfl : k = n := by omega
      refine ⟨B, rfl, HB0.out.trans (hbl.mono (by have := HB0.out.size; have := HB.out; omega)), ?_⟩
      have hlen := HN.out
      rw [← hlen, show l.length = (trn l).length by simp [trn]] at hrow
      exact hrow.hks

end Go.Proofs.YtnkdmgekpajfhaeDoor
