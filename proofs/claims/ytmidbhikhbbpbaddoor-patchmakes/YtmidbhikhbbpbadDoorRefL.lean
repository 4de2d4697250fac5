/-
  Walks of the document's own answers for lines: the fault of a line and of lines.
-/
import Derived.Test.YtmidbhikhbbpbadDoorMem

namespace Go.Proofs.YtmidbhikhbbpbadDoor
open Go.RowKit

theorem ret_i {a b : Int} (h : a = b) : Ending.returned (.int .i64 a) = .returned (.int .i64 b) := by rw [h]

theorem mem_at (s : ByteArray) (k : Nat) (h : k < s.size) : s[k] ∈ s.data.toList := by
  have : s.data.toList[k]'(by simpa using h) = s[k] := rfl
  rw [← this]; exact List.getElem_mem _

theorem not_mem_at (s : ByteArray) (c : UInt8) (h : ∀ (k : Nat) (hk : k < s.size), s[k] ≠ c) : c ∉ s.data.toList := by
  intro hm
  obtain ⟨j, hj, e⟩ := List.getElem_of_mem hm
  exact h j (by simpa using hj) e

theorem byte_eq (a c : UInt8) : ((a.toNat : Int) == (c.toNat : Int)) = true ↔ a = c := by
  rw [beq_iff_eq]
  constructor
  · intro h; exact UInt8.toNat_inj.1 (by omega)
  · intro h; rw [h]

end Go.Proofs.YtmidbhikhbbpbadDoor
