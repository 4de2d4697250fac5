/-
  Rows of marks that a call has made and fills; walks of edit.Copy, hunk.turnSign, hunk.turnMarks: the same marks in memory of their own, and turned.
-/
import Derived.Test.YtjgdicghmkfohadGreatDoorHks

namespace Go.Proofs.YtjgdicghmkfohadGreatDoor
open Go.RowKit Dist

/-- A row of marks that a call has made: at the places that P names it has what f says. -/
def MRow (w : World) (B n : Nat) (P : Nat → Prop) (f : Nat → Int × ByteArray) : Prop :=
  ∃ cs : Array Value, w.heap[B]? = some (.cells cs 69 (0, 0)) ∧ cs.size = n * 2 ∧ ∀ j, j < n → P j → cs[j * 2]? = some (.int .u8 (f j).1) ∧ cs[j * 2 + 1]? = some (.string (f j).2)

theorem MRow.any {w : World} {B n : Nat} {P : Nat → Prop} {f : Nat → Int × ByteArray} (h : MRow w B n P f) {i : Nat} (hi : i < n * 2) : ∃ v, w.cell? ⟨B, i, none⟩ = some v := by
  obtain ⟨cs, hc, hs, _⟩ := h
  rw [Lib.cell_of_heap hc]
  exact ⟨_, Array.getElem?_eq_getElem (by omega)⟩

theorem MRow.frozen {w : World} {B n : Nat} {P : Nat → Prop} {f : Nat → Int × ByteArray} (h : MRow w B n P f) (i : Nat) : w.frozen? ⟨B, i, none⟩ = false := by
  obtain ⟨cs, hc, _⟩ := h
  exact Lib.frozen_of_heap hc i

theorem MRow.lt {w : World} {B n : Nat} {P : Nat → Prop} {f : Nat → Int × ByteArray} (h : MRow w B n P f) : B < w.heap.size := by
  obtain ⟨cs, hc, _⟩ := h
  by_cases e : B < w.heap.size
  · exact e
  · rw [Array.getElem?_eq_none (by omega)] at hc; cases hc

theorem MRow.below {w w' : World} {B n : Nat} {P : Nat → Prop} {f : Nat → Int × ByteArray} (h : MRow w B n P f) (hb : Below w.heap.size w w') : MRow w' B n P f := by
  have hl := h.lt
  obtain ⟨cs, hc, h2⟩ := h
  exact ⟨cs, blk_below hb hl hc, h2⟩

theorem MRow.cell {w : World} {B n : Nat} {P : Nat → Prop} {f : Nat → Int × ByteArray} (h : MRow w B n P f) {j : Nat} (hj : j < n) (hp : P j) : w.cell? ⟨B, j * 2, none⟩ = some (.int .u8 (f j).1) ∧ w.cell? ⟨B, j * 2 + 1, none⟩ = some (.string (f j).2) := by
  obtain ⟨cs, hc, _, hat⟩ := h
  rw [Lib.cell_of_heap hc, Lib.cell_of_heap hc]; exact hat j hj hp

theorem MRow.mono {w : World} {B n : Nat} {P Q : Nat → Prop} {f g : Nat → Int × ByteArray} (h : MRow w B n P f) (hq : ∀ j, j < n → Q j → P j ∧ f j = g j) : MRow w B n Q g := by
  obtain ⟨cs, hc, hs, hat⟩ := h
  refine ⟨cs, hc, hs, fun j hj hp => ?_⟩
  obtain ⟨h1, h2⟩ := hq j hj hp
  rw [← h2]; exact hat j hj h1

theorem MRow.set {w : World} {B n : Nat} {P : Nat → Prop} {f : Nat → Int × ByteArray} (h : MRow w B n P f) {k : Nat} (hk : k < n) (c : Int) (t : ByteArray) :
    MRow ((w.setCell ⟨B, k * 2, none⟩ (.int .u8 c)).setCell ⟨B, k * 2 + 1, none⟩ (.string t)) B n (fun j => j = k ∨ P j) (fun j => if j = k then (c, t) else f j) := by
  obtain ⟨cs, hc, hs, hat⟩ := h
  refine ⟨_, blk_set (blk_set hc _) _, by simpa using hs, fun j hj hp => ?_⟩
  dsimp only at hp ⊢
  by_cases e : j = k
  · subst e
    rw [if_pos rfl]
    rw [Array.getElem?_setIfInBounds_ne (by omega), Array.getElem?_setIfInBounds_self_of_lt (by omega), Array.getElem?_setIfInBounds_self_of_lt (by simp; omega)]
    exact ⟨rfl, rfl⟩
  · rw [if_neg e]
    rw [Array.getElem?_setIfInBounds_ne (by omega), Array.getElem?_setIfInBounds_ne (by omega), Array.getElem?_setIfInBounds_ne (by omega), Array.getElem?_setIfInBounds_ne (by omega)]
    exact hat j hj (hp.resolve_left e)

theorem MRow.sign {w : World} {B n : Nat} {P : Nat → Prop} {f : Nat → Int × ByteArray} (h : MRow w B n P f) {k : Nat} (hk : k < n) (c : Int) :
    MRow (w.setCell ⟨B, k * 2, none⟩ (.int .u8 c)) B n P (fun j => if j = k then (c, (f j).2) else f j) := by
  obtain ⟨cs, hc, hs, hat⟩ := h
  refine ⟨_, blk_set hc _, by simpa using hs, fun j hj hp => ?_⟩
  dsimp only
  by_cases e : j = k
  · subst e
    rw [if_pos rfl]
    rw [Array.getElem?_setIfInBounds_self_of_lt (by omega), Array.getElem?_setIfInBounds_ne (by omega)]
    exact ⟨rfl, (hat j hj hp).2⟩
  · rw [if_neg e]
    rw [Array.getElem?_setIfInBounds_ne (by omega), Array.getElem?_setIfInBounds_ne (by omega)]
    exact hat j hj hp

theorem MRow.mks {w : World} {B : Nat} {P : Nat → Prop} {f : Nat → Int × ByteArray} {ms : List (Int × ByteArray)} (h : MRow w B ms.length P f) (hp : ∀ j, j < ms.length → P j ∧ f j = ms.getD j (0, ByteArray.empty)) : Mks w (some ⟨B, 0, none⟩) ms := by
  intro i hi
  obtain ⟨h1, h2⟩ := hp i hi
  have := h.cell hi h1
  rw [h2] at this
  exact ⟨B, 0, rfl, by rw [Nat.zero_add]; exact this⟩

/-- A row of marks, new. -/
theorem run_make_marks (kl kc : IntKind) (n : Nat) (hn : n ≤ 1000) (w : World) :
    (Instr.makeSlice 43 (.int kl (n : Int)) (.int kc (n : Int))).run Tryz.prog w = .ok (.slice (some ⟨w.heap.size, 0, none⟩) n n) (w.alloc (.cells (madeCells #[.int .u8 0, .string ByteArray.empty] (n * 2)) 69)) := by
  obtain ⟨i0, hi, hz0, hz1, hz2⟩ := info_parts Tryz.infoMark
  have hr := run_make (P := Tryz.prog) w 43 69 i0 _ Tryz.underlying43 hi hz0 kl kc n n (by omega) (Int.le_refl _) (by rw [hz2]; omega) (by omega)
  rw [hz1] at hr
  exact hr

theorem swm_getD (ms : List (Int × ByteArray)) (j : Nat) (hj : j < ms.length) : (swm ms).getD j (0, ByteArray.empty) = (sw (ms.getD j (0, ByteArray.empty)).1, (ms.getD j (0, ByteArray.empty)).2) := by
  unfold swm
  simp [hj]

end Go.Proofs.YtjgdicghmkfohadGreatDoor
