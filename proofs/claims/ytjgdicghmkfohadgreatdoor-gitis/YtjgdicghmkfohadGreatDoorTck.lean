/-
  Walks of tree.checkFile and tree.Check: the fault of a file, the first fault of files.
-/
import Derived.Test.YtjgdicghmkfohadGreatDoorFls

namespace Go.Proofs.YtjgdicghmkfohadGreatDoor
open Go.RowKit

theorem ret_ti {a c : Int} {b d : Value} (h : a = c) (h2 : b = d) : Ending.returned (.tuple #[.int .i64 a, b]) = .returned (.tuple #[.int .i64 c, d]) := by rw [h, h2]

/-- The two cells of a new block, later. -/
theorem cells2_later {w w1 : World} {x y : Value} {t : TypeId} (hb : Below (w.alloc (.cells #[x, y] t)).heap.size (w.alloc (.cells #[x, y] t)) w1) : w1.cell? ⟨w.heap.size, 0, none⟩ = some x ∧ w1.cell? ⟨w.heap.size, 1, none⟩ = some y := by
  have h := blk_below hb (by simp) (heap_alloc_new w (.cells #[x, y] t))
  exact ⟨Lib.cell_of_heap h 0, Lib.cell_of_heap h 1⟩

theorem getD_eta2 (l : List Fl) (k : Nat) {p : ByteArray} {ss : List ByteArray} (h1 : (l.getD k fz).1 = p) (h2 : (l.getD k fz).2 = ss) : l.getD k fz = (p, ss) := by
  rw [← h1, ← h2]

end Go.Proofs.YtjgdicghmkfohadGreatDoor
