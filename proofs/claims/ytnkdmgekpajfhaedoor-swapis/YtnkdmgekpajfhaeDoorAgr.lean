/-
  What lay in memory lies there still; a patch of one change, hunks of one, as blocks that a call has made.
-/
import Derived.Test.YtnkdmgekpajfhaeDoorSrs

namespace Go.Proofs.YtnkdmgekpajfhaeDoor
open Go.RowKit Dist

/-- What lay there lies there. -/
def Ag (w w' : World) : Prop := ∀ k, k < w.heap.size → w'.heap[k]? = w.heap[k]?

theorem Ag.of_below {w w' : World} (h : Below w.heap.size w w') : Ag w w' := fun k hk => by
  cases e : w.heap[k]? with
  | none => rw [Array.getElem?_eq_getElem hk] at e; cases e
  | some o => exact blk_below h hk e

theorem Ag.gr {w w1 w2 : World} {r : Option Nat} (h : Ag w w1) (hs : w.heap.size ≤ w1.heap.size) (hg : Gr w1 w2 r) (hr : ∀ x, r = some x → w.heap.size ≤ x) : Ag w w2 := fun k hk =>
  (hg.2 k (Nat.lt_of_lt_of_le hk hs) (fun e => by have := hr k e.symm; omega)).trans (h k hk)

theorem Ag.cell {w w' : World} (h : Ag w w') {a : Addr} {v : Value} (hc : w.cell? a = some v) : w'.cell? a = some v :=
  (World.cell?_of_block (h a.block (World.block_lt_of_cell? w a hc))).trans hc

theorem Mks.ag {w w' : World} {a : Option Addr} {ms : List (Int × ByteArray)} (h : Mks w a ms) (hg : Ag w w') : Mks w' a ms := by
  intro i hi
  obtain ⟨b, off, e, h1, h2⟩ := h i hi
  exact ⟨b, off, e, hg.cell h1, hg.cell h2⟩

theorem Hks.ag {w w' : World} {a : Option Addr} {hs : List Hk} (h : Hks w a hs) (hg : Ag w w') : Hks w' a hs := by
  intro i hi
  obtain ⟨b, off, am, cm, e, h1, h2, h3, h4, h5⟩ := h i hi
  exact ⟨b, off, am, cm, e, hg.cell h1, hg.cell h2, hg.cell h3, h4.ag hg, h5⟩

theorem hks_block {w : World} {D : Nat} {o n : Int} {am : Option Addr} {ms : List (Int × ByteArray)} {cm : Nat} {t : TypeId} {fr : Nat × Nat} (h : w.heap[D]? = some (.cells #[.int .i64 o, .int .i64 n, .slice am ms.length cm] t fr)) (hm : Mks w am ms) (hc : ms.length ≤ cm) : Hks w (some ⟨D, 0, none⟩) [(o, n, ms)] := by
  intro i hi
  obtain rfl : i = 0 := by simp at hi; omega
  have c0 := Lib.cell_of_heap h 0
  have c1 := Lib.cell_of_heap h 1
  have c2 := Lib.cell_of_heap h 2
  simp at c0 c1 c2
  exact ⟨D, 0, am, cm, rfl, c0, c1, c2, hm, hc⟩

theorem chs_block {w : World} {D : Nat} {wh : Int} {p : ByteArray} {ah : Option Addr} {hs : List Hk} {ch : Nat} {t : TypeId} {fr : Nat × Nat} (h : w.heap[D]? = some (.cells #[.int .i64 wh, .string p, .slice ah hs.length ch] t fr)) (hm : Hks w ah hs) (hc : hs.length ≤ ch) : Chs w (some ⟨D, 0, none⟩) [(wh, p, hs)] := by
  intro i hi
  obtain rfl : i = 0 := by simp at hi; omega
  have c0 := Lib.cell_of_heap h 0
  have c1 := Lib.cell_of_heap h 1
  have c2 := Lib.cell_of_heap h 2
  simp at c0 c1 c2
  exact ⟨D, 0, ah, ch, rfl, c0, c1, c2, hm, hc⟩

theorem Gr.block {w w' : World} {r : Option Nat} (hg : Gr w w' r) {k : Nat} {o : Obj} (h : w.heap[k]? = some o) (hne : r ≠ some k) : w'.heap[k]? = some o := by
  have hk : k < w.heap.size := by
    by_cases e : k < w.heap.size
    · exact e
    · rw [Array.getElem?_eq_none (by omega)] at h; cases h
  rw [hg.2 k hk (fun e => hne e.symm)]; exact h

end Go.Proofs.YtnkdmgekpajfhaeDoor
