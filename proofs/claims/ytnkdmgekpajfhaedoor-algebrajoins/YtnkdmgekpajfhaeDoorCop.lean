/-
  Rows of files that a call has made and fills; the walk of tree.Copy: the same files in memory of their own.
-/
import Derived.Test.YtnkdmgekpajfhaeDoorCcf
import Derived.Deep.RegionWith

namespace Go.Proofs.YtnkdmgekpajfhaeDoor
open Go.RowKit

/-- A row of files that a call has made: the first k places are filled. -/
def FRow (w : World) (B n k : Nat) (fs : List Fl) : Prop :=
  ∃ cs : Array Value, w.heap[B]? = some (.cells cs 70 (0, 0)) ∧ cs.size = n * 2 ∧ ∀ j, j < k → ∃ g cap, cs[j * 2]? = some (.string (fs.getD j fz).1) ∧ cs[j * 2 + 1]? = some (.slice (some ⟨g, 0, none⟩) (fs.getD j fz).2.length cap) ∧ g ≠ B ∧ Strs w (some ⟨g, 0, none⟩) (fs.getD j fz).2 ∧ (fs.getD j fz).2.length ≤ cap

theorem FRow.any {w : World} {B n k : Nat} {fs : List Fl} (h : FRow w B n k fs) {i : Nat} (hi : i < n * 2) : ∃ v, w.cell? ⟨B, i, none⟩ = some v := by
  obtain ⟨cs, hc, h2, _⟩ := h
  rw [Lib.cell_of_heap hc]
  exact ⟨_, Array.getElem?_eq_getElem (by omega)⟩

theorem FRow.frozen {w : World} {B n k : Nat} {fs : List Fl} (h : FRow w B n k fs) (i : Nat) : w.frozen? ⟨B, i, none⟩ = false := by
  obtain ⟨cs, hc, _⟩ := h
  exact Lib.frozen_of_heap hc i

theorem FRow.lt {w : World} {B n k : Nat} {fs : List Fl} (h : FRow w B n k fs) : B < w.heap.size := by
  obtain ⟨cs, hc, _⟩ := h
  by_cases e : B < w.heap.size
  · exact e
  · rw [Array.getElem?_eq_none (by omega)] at hc; cases hc

theorem FRow.below {w w' : World} {B n k : Nat} {fs : List Fl} (h : FRow w B n k fs) (hb : Below w.heap.size w w') : FRow w' B n k fs := by
  have hl := h.lt
  obtain ⟨cs, hc, hs, hat⟩ := h
  refine ⟨cs, blk_below hb hl hc, hs, fun j hj => ?_⟩
  obtain ⟨g, cap, a1, a2, a3, a4, a5⟩ := hat j hj
  exact ⟨g, cap, a1, a2, a3, a4.below hb, a5⟩

theorem Strs.otherF {w : World} {g B i : Nat} {ss : List ByteArray} (h : Strs w (some ⟨g, 0, none⟩) ss) (hne : g ≠ B) (v : Value) : Strs (w.setCell ⟨B, i, none⟩ v) (some ⟨g, 0, none⟩) ss := by
  intro j hj
  obtain ⟨b, off, e, m1⟩ := h j hj
  obtain rfl : g = b := by
    have := congrArg (fun o => o.map Addr.block) e
    simpa using this
  refine ⟨g, off, e, ?_⟩
  rw [World.cell?_setCell_other]
  · exact m1
  · intro e; have := congrArg Addr.block e; simp only at this; omega

theorem FRow.set {w : World} {B n k : Nat} {fs : List Fl} (h : FRow w B n k fs) (hk : k < n) {p : ByteArray} {ss : List ByteArray} {g cap : Nat} (hh : fs.getD k fz = (p, ss)) (hg : g ≠ B) (hmk : Strs w (some ⟨g, 0, none⟩) ss) (hcp : ss.length ≤ cap) :
    FRow ((w.setCell ⟨B, k * 2, none⟩ (.string p)).setCell ⟨B, k * 2 + 1, none⟩ (.slice (some ⟨g, 0, none⟩) ss.length cap)) B n (k + 1) fs := by
  obtain ⟨cs, hc, hs', hat⟩ := h
  refine ⟨_, blk_set (blk_set hc _) _, by simpa using hs', fun j hj => ?_⟩
  by_cases e : j = k
  · subst e
    rw [hh]
    refine ⟨g, cap, ?_, ?_, hg, (hmk.otherF hg _).otherF hg _, hcp⟩
    · rw [Array.getElem?_setIfInBounds_ne (by omega), Array.getElem?_setIfInBounds_self_of_lt (by omega)]
    · rw [Array.getElem?_setIfInBounds_self_of_lt (by simp; omega)]
  · obtain ⟨g1, c1, a1, a2, a4, a5, a6⟩ := hat j (by omega)
    refine ⟨g1, c1, ?_, ?_, a4, (a5.otherF a4 _).otherF a4 _, a6⟩
    · rw [Array.getElem?_setIfInBounds_ne (by omega), Array.getElem?_setIfInBounds_ne (by omega)]; exact a1
    · rw [Array.getElem?_setIfInBounds_ne (by omega), Array.getElem?_setIfInBounds_ne (by omega)]; exact a2

theorem FRow.fls {w : World} {B n : Nat} {fs : List Fl} (h : FRow w B n fs.length fs) : Fls w (some ⟨B, 0, none⟩) fs := by
  intro i hi
  obtain ⟨cs, hc, _, hat⟩ := h
  obtain ⟨g, cap, a1, a2, _, a5, a6⟩ := hat i hi
  refine ⟨B, 0, some ⟨g, 0, none⟩, cap, rfl, ?_, ?_, a5, a6⟩
  · rw [Nat.zero_add, Lib.cell_of_heap hc]; exact a1
  · rw [Nat.zero_add, Lib.cell_of_heap hc]; exact a2

/-- A row of files, new. -/
theorem run_make_files (kl kc : IntKind) (n : Nat) (hn : n ≤ 1000) (w : World) :
    (Instr.makeSlice 22 (.int kl (n : Int)) (.int kc (n : Int))).run Tryd.prog w = .ok (.slice (some ⟨w.heap.size, 0, none⟩) n n) (w.alloc (.cells (madeCells #[.string ByteArray.empty, .slice none 0 0] (n * 2)) 70)) := by
  obtain ⟨i0, hi, hz0, hz1, hz2⟩ := info_parts Tryd.infoFile
  have hr := run_make (P := Tryd.prog) w 22 70 i0 _ Tryd.underlying22 hi hz0 kl kc n n (by omega) (Int.le_refl _) (by rw [hz2]; omega) (by omega)
  rw [hz1] at hr
  exact hr

set_option maxRecDepth 100000 in
set_option maxHeartbeats 4000000 in
theorem copyFiles (a : Option Addr) (l : List Fl) (ca : Nat) (w : World) (ha : Fls w a l) (hl : l.length ≤ 100) (hone : ∀ x ∈ l, x.1.size ≤ 20 ∧ x.2.length ≤ 60 ∧ ∀ s ∈ x.2, s.size ≤ 80) :
    Calls Tryd.prog 27 #[.slice a l.length ca] w fun e w' => e = .returned (.slice (some ⟨w.heap.size, 0, none⟩) l.length l.length) ∧ Below w.heap.size w w' ∧ Fls w' (some ⟨w.heap.size, 0, none⟩) l := by
  obtain ⟨n, hn⟩ : ∃ n, l.length = n := ⟨_, rfl⟩
  rw [hn] at hl ⊢
  have HN : Hid (l.length = n) := hn
  have HONE : Hid (∀ x ∈ l, x.1.size ≤ 20 ∧ x.2.length ≤ 60 ∧ ∀ s ∈ x.2, s.size ≤ 80) := hone
  have HA0 : Hid (Fls w a l) := ha
  have hmk := fun w => run_make_files .i64 .i64 n (by omega) w
  clear hn ha hone
  obtain ⟨B, hB⟩ : ∃ B, w.heap.size = B := ⟨_, rfl⟩
  have HB : Hid (w.heap.size = B) := hB
  go_enter Tryd.func27, Tryd.ntmps27
  go_wp2
  clear hmk
  go_loopw [11] (fun i w1 => ∃ k : Nat, k ≤ n ∧ i = .int .i64 k ∧ Below B w w1 ∧ FRow w1 B n k l) (fun i _ => n - (intOf i).toNat)
  case atStart =>
    refine ⟨0, Nat.zero_le _, rfl, (Below.refl _ _).alloc (by rw [hB]; exact Nat.le_refl _) _, ?_⟩
    subst hB
    exact ⟨_, heap_alloc_new w _, size_madeCells _ _, fun j hj => absurd hj (Nat.not_lt_zero _)⟩
  case round =>
    clear hB
    obtain ⟨k, hk, rfl, hbl, hrow⟩ := hrel
    by_cases hlt : k < n
    · have ha := HA0.out
      have hkl : k < l.length := by rw [HN.out]; exact hlt
      obtain ⟨b, off, rfl⟩ := ha.addr hkl
      obtain ⟨am, cm, hc1, hc2, hst, _⟩ := ha.at hkl
      clear ha
      have hb' : Below w.heap.size w wr := by rw [HB.out]; exact hbl
      replace hc1 := cell_later hb' hc1
      replace hc2 := cell_later hb' hc2
      replace hst := hst.below hb'
      obtain ⟨hp1, hp2, hp3⟩ := HONE.out _ (mem_getDf hkl)
      obtain ⟨p, hp⟩ : ∃ p, (l.getD k fz).1 = p := ⟨_, rfl⟩
      obtain ⟨ss, hss⟩ : ∃ ss, (l.getD k fz).2 = ss := ⟨_, rfl⟩
      have HGG : Hid (l.getD k fz = (p, ss)) := getD_eta2 l k hp hss
      rw [hp] at hc1 hp1
      rw [hss] at hc2 hst hp2 hp3
      have HCP := fun w (h : Strs w am ss) => copied am ss cm w h hp2 hp3
      have HCL := fun w => clone p w (by omega)
      obtain ⟨q, hq⟩ : ∃ q, ss.length = q := ⟨_, rfl⟩
      rw [hq] at hc2 HCP
      have HQ : Hid (ss.length = q) := hq
      clear hp hss hb' hkl hq hp1 hp2 hp3
      have hb0 := below_alloc wr (.cells #[.string p, .slice am q cm] 70)
      obtain ⟨d0, d1⟩ := cells2_later (Below.refl (wr.alloc (.cells #[.string p, .slice am q cm] 70)).heap.size (wr.alloc (.cells #[.string p, .slice am q cm] 70)))
      have hrow1 := hrow.below hb0
      have hst1 := hst.below hb0
      have hbl1 := hbl.trans (hb0.mono (by have := hbl.size; have := HB.out; omega))
      go_wp2
      generalize wr.alloc (.cells #[.string p, .slice am q cm] 70) = W1 at d0 d1 hrow1 hst1 hbl1 hb0 ⊢
      have hlt1 := hrow1.lt
      obtain ⟨v0, y0⟩ := hrow1.any (i := k * 2) (by omega)
      obtain ⟨v1, y1⟩ := hrow1.any (i := k * 2 + 1) (by omega)
      have hdr : Below W1.heap.size W1 W1.drew := ⟨rfl, rfl, rfl, Nat.le_refl _, fun _ _ => rfl⟩
      have KS : Hid (∀ w2, Below W1.drew.heap.size W1.drew w2 → Strs w2 am ss) := fun w2 h => (hst1.below hdr).below h
      have KG : Hid (∀ w2, Below W1.drew.heap.size W1.drew w2 → w2.heap.size ≠ B) := fun w2 h => by have := h.size; have : W1.drew.heap.size = W1.heap.size := rfl; omega
      have KD : Hid (∀ w2, Below W1.drew.heap.size W1.drew w2 → w2.cell? ⟨wr.heap.size, 0, none⟩ = some (.string p) ∧ w2.cell? ⟨wr.heap.size, 1, none⟩ = some (.slice am q cm)) := fun w2 h => ⟨cell_later h d0, cell_later h d1⟩
      have KY : Hid (∀ w2, Below W1.drew.heap.size W1.drew w2 → w2.cell? ⟨B, k * 2, none⟩ = some v0 ∧ w2.cell? ⟨B, k * 2 + 1, none⟩ = some v1) := fun w2 h => ⟨cell_later h y0, cell_later h y1⟩
      have KR : Hid (∀ w2, Below W1.drew.heap.size W1.drew w2 → FRow w2 B n k l) := fun w2 h => (hrow1.below hdr).below h
      have KB : Hid (∀ w2, Below W1.drew.heap.size W1.drew w2 → Below B w w2) := fun w2 h => hbl1.trans ((hdr.trans h).mono (by omega))
      have hbp : Below W1.drew.heap.size W1.drew W1.drew := Below.refl _ _
      clear y0 y1 hst hst1 hrow hrow1 hbl hbl1 hc1 hc2 hb0 hdr hlt1
      go_region_with (first
        | (go_at_call 31; refine (HCL _).mono ?_; rintro e w2 ⟨rfl, hb2⟩; replace hbp := hbp.trans (hb2.mono hbp.size); obtain ⟨d0, d1⟩ := KD.out _ hbp; obtain ⟨y0, y1⟩ := KY.out _ hbp; have f0 := (KR.out _ hbp).frozen (k * 2); have f1 := (KR.out _ hbp).frozen (k * 2 + 1); try replace hs := hs.below hb2)
        | (go_at_call 45; refine (HCP _ ?_).mono ?_; exact KS.out _ hbp; rintro e w2 ⟨rfl, hb2, hs⟩; have hg := KG.out _ hbp; replace hbp := hbp.trans (hb2.mono hbp.size); obtain ⟨d0, d1⟩ := KD.out _ hbp; obtain ⟨y0, y1⟩ := KY.out _ hbp; have f0 := (KR.out _ hbp).frozen (k * 2); have f1 := (KR.out _ hbp).frozen (k * 2 + 1)))
      all_goals
        have hset := (KR.out _ hbp).set (cap := q) hlt HGG.out hg hs (by rw [HQ.out]; exact Nat.le_refl _)
        rw [HQ.out] at hset
        have hbx := KB.out _ hbp
        clear hs d0 d1 y0 y1 f0 f1 KS KG KD KY KR KB hbp HCP HCL
        go_wp2
        go_roundw
        case rel => exact ⟨k + 1, by omega, by go_num, (hbx.setCell (Nat.le_refl _) _).setCell (Nat.le_refl _) _, hset⟩
        case measure => simp [intOf]; omega
    · go_wp2
      go_ret
      obtain rfl : k = n := by omega
      have hlen := HN.out
      rw [← hlen] at hrow
      rw [HB.out]
      exact ⟨rfl, hbl, hrow.fls⟩

end Go.Proofs.YtnkdmgekpajfhaeDoor
