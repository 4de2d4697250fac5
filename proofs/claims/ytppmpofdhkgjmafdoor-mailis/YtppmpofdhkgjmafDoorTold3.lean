/-
  Walks of plain.Told and of the comparison of an error with its number: at nil and at an api.Errno.
-/
import Derived.Test.YtppmpofdhkgjmafDoorTold2

namespace Go.Proofs.YtppmpofdhkgjmafDoor
open Go.RowKit

/-- The variable errors.errorType, as it is laid. -/
def TypeLaid (w : World) : Prop := w.cell? ⟨0, 0, none⟩ = some (.iface 172 (.agg #[.pointer (some ⟨7, 29, none⟩)]))

theorem TypeLaid.below {w w' : World} (h : TypeLaid w) (hb : Below w.heap.size w w') : TypeLaid w' := cell_later hb h

set_option maxHeartbeats 400000 in
theorem told_nil (w : World) : Calls Tryd.prog 40 #[.nilIface] w fun ev w' => ev = .returned (.int .i64 0) ∧ w' = w := by
  go_enter Tryd.func40, Tryd.ntmps40
  go_wp2
  go_ret
  exact ⟨rfl, rfl⟩

set_option maxHeartbeats 1000000 in
theorem told_err (e : Int) (w : World) (hg : TypeLaid w) : Calls Tryd.prog 40 #[.iface 33 (.int .i64 e)] w fun ev w' => ev = .returned (.int .i64 e) ∧ Below w.heap.size w w' := by
  have hg1 : TypeLaid (w.alloc (.cells #[.int .i64 0] 33)) := hg.below ((Below.refl _ _).alloc (Nat.le_refl _) _)
  have has := as_hit e ⟨w.heap.size, 0, none⟩ (.int .i64 0) (w.alloc (.cells #[.int .i64 0] 33)) hg1 (by simp) (by simp)
  have hx : ∃ W, W = ((((w.alloc (.cells #[.int .i64 0] 33)).alloc (.cells #[.pointer (some ⟨w.heap.size, 0, none⟩)] 127)).alloc (.cells #[.pointer (some ⟨7, 127, none⟩), .pointer (some ⟨(w.alloc (.cells #[.int .i64 0] 33)).heap.size, 0, none⟩), .int .u64 150] 147)).alloc (.cells #[.pointer (some ⟨7, 127, none⟩), .pointer (some ⟨(w.alloc (.cells #[.int .i64 0] 33)).heap.size, 0, none⟩), .int .u64 150] 147)).alloc (.cells #[.int .i64 e] 33) ∧ Below w.heap.size w W ∧ w.heap.size < W.heap.size ∧ W.cell? ⟨w.heap.size, 0, none⟩ = some (.int .i64 0) := by
    refine ⟨_, rfl, ?_, ?_, ?_⟩
    · exact (((((Below.refl _ _).alloc (Nat.le_refl _) _).alloc (by simp) _).alloc (by simp; omega) _).alloc (by simp; omega) _).alloc (by simp; omega) _
    · simp; omega
    · rw [World.cell?_alloc_lt _ _ ⟨w.heap.size, 0, none⟩ (by simp; omega), World.cell?_alloc_lt _ _ ⟨w.heap.size, 0, none⟩ (by simp; omega), World.cell?_alloc_lt _ _ ⟨w.heap.size, 0, none⟩ (by simp; omega), World.cell?_alloc_lt _ _ ⟨w.heap.size, 0, none⟩ (by simp)]
      simp
  obtain ⟨W, hW, hb, hs, hc⟩ := hx
  rw [← hW] at has
  have hc2 : (W.setCell ⟨w.heap.size, 0, none⟩ (.int .i64 e)).cell? ⟨w.heap.size, 0, none⟩ = some (.int .i64 e) := World.cell?_setCell_same _ _ _ hc
  have hb2 : Below w.heap.size w (W.setCell ⟨w.heap.size, 0, none⟩ (.int .i64 e)) := hb.setCell (Nat.le_refl _) _
  clear hW
  obtain ⟨W2, hW2⟩ : ∃ W2, W2 = W.setCell ⟨w.heap.size, 0, none⟩ (.int .i64 e) := ⟨_, rfl⟩
  rw [← hW2] at has hc2 hb2
  clear hW2 hc hs hb
  go_enter Tryd.func40, Tryd.ntmps40
  go_wp2_with (go_at_call 65; refine has.mono ?_; rintro ev w' ⟨rfl, hw⟩; rw [hw])
  go_ret
  exact ⟨rfl, hb2⟩

set_option maxHeartbeats 400000 in
theorem error_nil (e : Int) (w : World) : Calls Tryd.prog 13 #[.nilIface, .int .i64 e] w fun ev w' => ev = .returned (.bool (0 == e)) ∧ w' = w := by
  go_enter Tryd.func13, Tryd.ntmps13
  go_wp2_with (go_at_call 40; refine (told_nil _).mono ?_; rintro ev w' ⟨rfl, hw⟩; rw [hw])
  go_ret
  exact ⟨rfl, rfl⟩

set_option maxHeartbeats 400000 in
theorem error_err (f e : Int) (w : World) (hg : TypeLaid w) : Calls Tryd.prog 13 #[.iface 33 (.int .i64 f), .int .i64 e] w fun ev w' => ev = .returned (.bool (f == e)) ∧ Below w.heap.size w w' := by
  have ht := told_err f w hg
  clear hg
  go_enter Tryd.func13, Tryd.ntmps13
  go_wp2_with (go_at_call 40; refine ht.mono ?_)
  rintro ev w' ⟨rfl, hb⟩
  go_wp2
  go_ret
  exact ⟨rfl, hb⟩

/-- An error that is told by its own number. -/
theorem error_same (f : Int) (w : World) (hg : TypeLaid w) : Calls Tryd.prog 13 #[errV f, .int .i64 f] w fun ev w' => ev = .returned (.bool true) ∧ Below w.heap.size w w' := by
  by_cases h : f = 0
  · subst h
    exact (error_nil 0 w).mono fun ev w' ⟨he, hw⟩ => ⟨he, by rw [hw]; exact Below.refl _ _⟩
  · rw [errV_not h]
    exact (error_err f f w hg).mono fun ev w' ⟨he, hb⟩ => ⟨by rw [he]; simp, hb⟩

end Go.Proofs.YtppmpofdhkgjmafDoor
