/-
  A patch of one change, as the laws begin with it.
-/
import Derived.Test.YtjgdicghmkfohadGreatDoorGpr

namespace Go.Proofs.YtjgdicghmkfohadGreatDoor
open Go.RowKit Dist

theorem chs_one (w : World) (wh : Int) (p : ByteArray) : Chs (w.alloc (.cells #[.int .i64 wh, .string p, .slice none 0 0] 40)) (some ⟨w.heap.size, 0, none⟩) [(wh, p, [])] := by
  have h := heap_alloc_new w (.cells #[.int .i64 wh, .string p, .slice none 0 0] 40)
  intro i hi
  obtain rfl : i = 0 := by simpa using hi
  exact ⟨_, 0, none, 0, rfl, Lib.cell_of_heap h 0, Lib.cell_of_heap h 1, Lib.cell_of_heap h 2, Hks.nil _ _, Nat.le_refl _⟩

/-- A patch of one change without hunks. -/
def oneC (wh : Int) : List Ch := [(wh, ⟨#[97]⟩, [])]
theorem oneC_make : (kf (oneC 2)).2 = 0 ∧ gpr (oneC 2) = [45, 45, 45, 32, 47, 100, 101, 118, 47, 110, 117, 108, 108, 10, 43, 43, 43, 32, 98, 47, 97, 10] := ⟨by decide, by decide⟩
theorem oneC_wipe : (kf (oneC 3)).2 = 0 ∧ gpr (oneC 3) = [45, 45, 45, 32, 97, 47, 97, 10, 43, 43, 43, 32, 47, 100, 101, 118, 47, 110, 117, 108, 108, 10] := ⟨by decide, by decide⟩

end Go.Proofs.YtjgdicghmkfohadGreatDoor
