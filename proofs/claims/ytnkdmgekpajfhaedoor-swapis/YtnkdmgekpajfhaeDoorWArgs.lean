/-
  Arguments as the walks want them: a hunk.
-/
import Derived.Test.YtnkdmgekpajfhaeDoorHArgs
import Derived.Lib.SmallJoins

namespace Go.Proofs.YtnkdmgekpajfhaeDoor
open Go.ChangeShapes Go.WideShapes Go.ChangeAt Go.RowKit

set_option maxRecDepth 100000 in
/-- A hunk that came in. -/
theorem hunk_of {H : Type} {enc : TypeId × Value → H} {W : World} {r : Reach} {b0 : Nat} {v : Value} {d : DataW H} {p : List MemPlace} (hv : Value.okWide Tryd.prog W r b0 40 v) (h : DataW.Trod enc Tryd.prog W 0 (fun _ => true) true 40 v d p) :
    ∃ (o q : Int) (am : Option Addr) (ms : List (Int × ByteArray)) (cm : Nat), v = .agg #[.int .i64 o, .int .i64 q, .slice am ms.length cm] ∧ ms.length ≤ maxLen ∧ Mks W am ms ∧ (∀ m ∈ ms, m.2.size ≤ maxLen) ∧ ms.length ≤ cm := by
  obtain ⟨v0, v1, v2, y0, y1, y2, n, rfl, _, _, t0, t1, t2⟩ := Go.Joins.open_agg3 Tryd.underlying40 (by kernel_rfl) (by kernel_rfl) hv h
  obtain ⟨o, ho, _, _⟩ := DataW.trod_int Tryd.underlying3 t0
  obtain ⟨q, hq, _, _⟩ := DataW.trod_int Tryd.underlying3 t1
  have e0 : v0 = .int .i64 o := by simpa using ho
  have e1 : v1 = .int .i64 q := by simpa using hq
  obtain ⟨am, lm, cm, rfl⟩ : ∃ am lm cm, v2 = .slice am lm cm := by
    rcases Deep.open_slice Tryd.underlying38 t2 with h0 | ⟨a', len', cap', _, _, _, _, h0, _⟩
    · have := h0.1; simp at this; exact ⟨_, _, _, this⟩
    · simp at h0; exact ⟨_, _, _, h0⟩
  have hcp := mks_cap (a := am) (len := lm) (cap := cm) (d := y2.1) (p := y2.2) ⟨n, by simpa [Value.cells] using t2⟩
  obtain ⟨ms, hl1, hl2, hmk, hsz⟩ := mks_of (a := am) (len := lm) (cap := cm) (d := y2.1) (p := y2.2) ⟨n, by simpa [Value.cells] using t2⟩
  subst e0 e1 hl1
  exact ⟨o, q, am, ms, cm, rfl, hl2, hmk, hsz, hcp⟩

end Go.Proofs.YtnkdmgekpajfhaeDoor
