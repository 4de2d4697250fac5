/-
  Walk of algebra.alone: a patch of one change, with other hunks.
-/
import Derived.Test.YtnkdmgekpajfhaeDoorXp
import Derived.Test.YtnkdmgekpajfhaeDoorXm
import Derived.Deep.RegionWith
import Derived.Deep.RegionHeld3
import Derived.Deep.DrawnRows
namespace Go.Proofs.YtnkdmgekpajfhaeDoor
open Go.RowKit Dist

set_option maxRecDepth 100000 in
set_option maxHeartbeats 1000000 in
theorem aloneOf (wh : Int) (p : ByteArray) (vo : Value) (ah : Option Addr) (q ch : Nat) (w : World) (hp : p.size ≤ 100) :
    Calls Tryd.prog 32 #[.agg #[.int .i64 wh, .string p, vo], .slice ah q ch] w fun e w' => ∃ D, e = .returned (.slice (some ⟨D, 0, none⟩) 1 1) ∧ w.heap.size ≤ D ∧ Below w.heap.size w w' ∧ w'.heap[D]? = some (.cells #[.int .i64 wh, .string p, .slice ah q ch] 26 (0, 0)) := by
  have hcl := fun w => clone p w (by omega)
  have hb0 := below_alloc w (.cells #[.int .i64 wh, .string p, vo] 26)
  have hh := heap_alloc_new w (.cells #[.int .i64 wh, .string p, vo] 26)
  have hs0 : (w.alloc (.cells #[.int .i64 wh, .string p, vo] 26)).heap.size = w.heap.size + 1 := by simp
  go_enter Tryd.func32, Tryd.ntmps32
  go_wp2_with fail
  generalize w.alloc (.cells #[.int .i64 wh, .string p, vo] 26) = W at hb0 hh hs0 ⊢
  have d0 := Lib.cell_of_heap hh 0
  have d1 := Lib.cell_of_heap hh 1
  simp at d0 d1
  have hdr : Below W.heap.size W W.drew := ⟨rfl, rfl, rfl, Nat.le_refl _, fun _ _ => rfl⟩
  have KD : Hid (∀ w2, Below W.drew.heap.size W.drew w2 → w2.cell? ⟨w.heap.size, 0, none⟩ = some (.int .i64 wh) ∧ w2.cell? ⟨w.heap.size, 1, none⟩ = some (.string p)) := fun w2 h => ⟨cell_later h d0, cell_later h d1⟩
  have KB : Hid (∀ w2, Below W.drew.heap.size W.drew w2 → Below w.heap.size w w2) := fun w2 h => hb0.trans ((hdr.trans h).mono (by omega))
  clear hb0 hh hs0 hdr
  go_region_with (go_at_call 31; refine (hcl _).mono ?_; rintro e w2 ⟨rfl, hb2⟩; obtain ⟨d0, d1⟩ := KD.out _ hb2)
  all_goals
    have hbx := KB.out _ hb2
    have hhn := heap_alloc_new w2 (.cells #[.int .i64 wh, .string p, .slice ah q ch] 26)
    have hB : Hid (Below w.heap.size w (w2.alloc (.cells #[.int .i64 wh, .string p, .slice ah q ch] 26))) := hbx.alloc hbx.size _
    have hle : Hid (w.heap.size ≤ w2.heap.size) := hbx.size
    have HH : Hid ((w2.alloc (.cells #[.int .i64 wh, .string p, .slice ah q ch] 26)).heap[w2.heap.size]? = _) := hhn
    clear hbx hhn d0 d1 KD KB hcl
    go_wp2
    go_ret
    exact ⟨w2.heap.size, rfl, hle.out, hB.out, HH.out⟩

end Go.Proofs.YtnkdmgekpajfhaeDoor
