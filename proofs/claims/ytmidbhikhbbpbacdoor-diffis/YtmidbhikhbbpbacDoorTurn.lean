/-
  Rows of hunks that a call has made and fills; walks of hunk.Turn: hunks turned; the fault else.
-/
import Derived.Test.YtmidbhikhbbpbacDoorCut2
import Derived.Deep.RegionWith

namespace Go.Proofs.YtmidbhikhbbpbacDoor
open Go.RowKit Dist

/-- A row of hunks that a call has made: the first k places are filled. -/
def HRow (w : World) (B n k : Nat) (hs : List (Int × Int × List (Int × ByteArray))) : Prop :=
  ∃ cs : Array Value, w.heap[B]? = some (.cells cs 80 (0, 0)) ∧ cs.size = n * 3 ∧ ∀ j, j < k → ∃ g cap, cs[j * 3]? = some (.int .i64 (hs.getD j (0, 0, [])).1) ∧ cs[j * 3 + 1]? = some (.int .i64 (hs.getD j (0, 0, [])).2.1) ∧ cs[j * 3 + 2]? = some (.slice (some ⟨g, 0, none⟩) (hs.getD j (0, 0, [])).2.2.length cap) ∧ g ≠ B ∧ Mks w (some ⟨g, 0, none⟩) (hs.getD j (0, 0, [])).2.2 ∧ (hs.getD j (0, 0, [])).2.2.length ≤ cap

theorem HRow.any {w : World} {B n k : Nat} {hs : List (Int × Int × List (Int × ByteArray))} (h : HRow w B n k hs) {i : Nat} (hi : i < n * 3) : ∃ v, w.cell? ⟨B, i, none⟩ = some v := by
  obtain ⟨cs, hc, h2, _⟩ := h
  rw [Lib.cell_of_heap hc]
  exact ⟨_, Array.getElem?_eq_getElem (by omega)⟩

theorem HRow.frozen {w : World} {B n k : Nat} {hs : List (Int × Int × List (Int × ByteArray))} (h : HRow w B n k hs) (i : Nat) : w.frozen? ⟨B, i, none⟩ = false := by
  obtain ⟨cs, hc, _⟩ := h
  exact Lib.frozen_of_heap hc i

theorem HRow.lt {w : World} {B n k : Nat} {hs : List (Int × Int × List (Int × ByteArray))} (h : HRow w B n k hs) : B < w.heap.size := by
  obtain ⟨cs, hc, _⟩ := h
  by_cases e : B < w.heap.size
  · exact e
  · rw [Array.getElem?_eq_none (by omega)] at hc; cases hc

theorem HRow.below {w w' : World} {B n k : Nat} {hs : List (Int × Int × List (Int × ByteArray))} (h : HRow w B n k hs) (hb : Below w.heap.size w w') : HRow w' B n k hs := by
  have hl := h.lt
  obtain ⟨cs, hc, hs, hat⟩ := h
  refine ⟨cs, blk_below hb hl hc, hs, fun j hj => ?_⟩
  obtain ⟨g, cap, a1, a2, a3, a4, a5, a6⟩ := hat j hj
  exact ⟨g, cap, a1, a2, a3, a4, a5.below hb, a6⟩

theorem Mks.other {w : World} {g B i : Nat} {ms : List (Int × ByteArray)} (h : Mks w (some ⟨g, 0, none⟩) ms) (hne : g ≠ B) (v : Value) : Mks (w.setCell ⟨B, i, none⟩ v) (some ⟨g, 0, none⟩) ms := by
  intro j hj
  obtain ⟨b, off, e, m1, m2⟩ := h j hj
  obtain rfl : g = b := by
    have := congrArg (fun o => o.map Addr.block) e
    simpa using this
  refine ⟨g, off, e, ?_, ?_⟩
  · rw [World.cell?_setCell_other]
    · exact m1
    · intro e; have := congrArg Addr.block e; simp only at this; omega
  · rw [World.cell?_setCell_other]
    · exact m2
    · intro e; have := congrArg Addr.block e; simp only at this; omega

theorem HRow.set {w : World} {B n k : Nat} {hs : List (Int × Int × List (Int × ByteArray))} (h : HRow w B n k hs) (hk : k < n) {o p : Int} {ms : List (Int × ByteArray)} {g cap : Nat} (hh : hs.getD k (0, 0, []) = (o, p, ms)) (hg : g ≠ B) (hmk : Mks w (some ⟨g, 0, none⟩) ms) (hcp : ms.length ≤ cap) :
    HRow (((w.setCell ⟨B, k * 3, none⟩ (.int .i64 o)).setCell ⟨B, k * 3 + 1, none⟩ (.int .i64 p)).setCell ⟨B, k * 3 + 2, none⟩ (.slice (some ⟨g, 0, none⟩) ms.length cap)) B n (k + 1) hs := by
  obtain ⟨cs, hc, hs', hat⟩ := h
  refine ⟨_, blk_set (blk_set (blk_set hc _) _) _, by simpa using hs', fun j hj => ?_⟩
  by_cases e : j = k
  · subst e
    rw [hh]
    refine ⟨g, cap, ?_, ?_, ?_, hg, ((hmk.other hg _).other hg _).other hg _, hcp⟩
    · rw [Array.getElem?_setIfInBounds_ne (by omega), Array.getElem?_setIfInBounds_ne (by omega), Array.getElem?_setIfInBounds_self_of_lt (by omega)]
    · rw [Array.getElem?_setIfInBounds_ne (by omega), Array.getElem?_setIfInBounds_self_of_lt (by simp; omega)]
    · rw [Array.getElem?_setIfInBounds_self_of_lt (by simp; omega)]
  · obtain ⟨g1, c1, a1, a2, a3, a4, a5, a6⟩ := hat j (by omega)
    refine ⟨g1, c1, ?_, ?_, ?_, a4, ((a5.other a4 _).other a4 _).other a4 _, a6⟩
    · rw [Array.getElem?_setIfInBounds_ne (by omega), Array.getElem?_setIfInBounds_ne (by omega), Array.getElem?_setIfInBounds_ne (by omega)]; exact a1
    · rw [Array.getElem?_setIfInBounds_ne (by omega), Array.getElem?_setIfInBounds_ne (by omega), Array.getElem?_setIfInBounds_ne (by omega)]; exact a2
    · rw [Array.getElem?_setIfInBounds_ne (by omega), Array.getElem?_setIfInBounds_ne (by omega), Array.getElem?_setIfInBounds_ne (by omega)]; exact a3

theorem HRow.hks {w : World} {B n : Nat} {hs : List (Int × Int × List (Int × ByteArray))} (h : HRow w B n hs.length hs) : Hks w (some ⟨B, 0, none⟩) hs := by
  intro i hi
  obtain ⟨cs, hc, _, hat⟩ := h
  obtain ⟨g, cap, a1, a2, a3, _, a5, a6⟩ := hat i hi
  refine ⟨B, 0, some ⟨g, 0, none⟩, cap, rfl, ?_, ?_, ?_, a5, a6⟩
  · rw [Nat.zero_add, Lib.cell_of_heap hc]; exact a1
  · rw [Nat.zero_add, Lib.cell_of_heap hc]; exact a2
  · rw [Nat.zero_add, Lib.cell_of_heap hc]; exact a3

/-- A row of hunks, new. -/
theorem run_make_hunks (kl kc : IntKind) (n : Nat) (hn : n ≤ 1000) (w : World) :
    (Instr.makeSlice 61 (.int kl (n : Int)) (.int kc (n : Int))).run Tryd.prog w = .ok (.slice (some ⟨w.heap.size, 0, none⟩) n n) (w.alloc (.cells (madeCells #[.int .i64 0, .int .i64 0, .slice none 0 0] (n * 3)) 80)) := by
  obtain ⟨i0, hi, hz0, hz1, hz2⟩ := info_parts Tryd.infoHunk
  have hr := run_make (P := Tryd.prog) w 61 80 i0 _ Tryd.underlying61 hi hz0 kl kc n n (by omega) (Int.le_refl _) (by rw [hz2]; omega) (by omega)
  rw [hz1] at hr
  exact hr

theorem trn_getD (l : List (Int × Int × List (Int × ByteArray))) (k : Nat) (hk : k < l.length) : (trn l).getD k (0, 0, []) = tn (l.getD k (0, 0, [])) := by simp [trn, hk]

end Go.Proofs.YtmidbhikhbbpbacDoor
