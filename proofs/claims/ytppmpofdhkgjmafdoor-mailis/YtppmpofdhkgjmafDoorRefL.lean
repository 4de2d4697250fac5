/-
  Walks of the document's own answers for lines: the fault of a line and of lines.
-/
import Derived.Test.YtppmpofdhkgjmafDoorMem

namespace Go.Proofs.YtppmpofdhkgjmafDoor
open Go.RowKit

theorem ret_i {a b : Int} (h : a = b) : Ending.returned (.int .i64 a) = .returned (.int .i64 b) := by rw [h]

theorem mem_at (s : ByteArray) (k : Nat) (h : k < s.size) : s[k] ∈ s.data.toList := by
  have : s.data.toList[k]'(by simpa using h) = s[k] := rfl
  rw [← this]; exact List.getElem_mem _

theorem not_mem_at (s : ByteArray) (c : UInt8) (h : ∀ (k : Nat) (hk : k < s.size), s[k] ≠ c) : c ∉ s.data.toList := by
  intro hm
  obtain ⟨j, hj, e⟩ := List.getElem_of_mem hm
  exact h j (by simpa using hj) e

theorem byte_eq (a c : UInt8) : ((a.toNat : Int) == (c.toNat : Int)) = true ↔ a = c := by
  rw [beq_iff_eq]
  constructor
  · intro h; exact UInt8.toNat_inj.1 (by omega)
  · intro h; rw [h]

set_option maxHeartbeats 400000 in
theorem lineFault (s : ByteArray) (w : World) (hs : s.size ≤ maxLen) : Calls Tryd.prog 82 #[.string s] w fun e w' => e = .returned (.int .i64 (lf s.data.toList)) ∧ w' = w := by
  unfold maxLen at hs
  go_enter Tryd.func82, Tryd.ntmps82
  go_wp2
  go_loop [3] (fun i => ∃ k : Nat, k ≤ s.size ∧ i = .int .i64 k ∧ ∀ (j : Nat) (h : j < s.size), j < k → s[j] ≠ 10) (fun i => s.size - (intOf i).toNat)
  case atStart => exact ⟨0, Nat.zero_le _, rfl, by simp⟩
  case round =>
    obtain ⟨k, hk, rfl, hall⟩ := hrel
    have HA : Hid (∀ (j : Nat) (h : j < s.size), j < k → s[j] ≠ 10) := hall
    clear hall
    by_cases hlt : k < s.size
    · by_cases hb : ((s[k].toNat : Int) == 10) = true
      · have HB : Hid (lf s.data.toList = 2) := by
          show lf s.data.toList = 2
          unfold lf
          rw [if_pos]
          have := (byte_eq s[k] 10).1 hb
          rw [← this]; exact mem_at s k hlt
        go_wp2
        go_ret
        exact ⟨ret_i HB.out.symm, rfl⟩
      · have hb : ((s[k].toNat : Int) == 10) = false := by simpa using hb
        have HB : Hid (s[k] ≠ 10) := fun e => by rw [e] at hb; simp at hb
        go_wp2
        go_round
        case rel => exact ⟨k + 1, by omega, by go_num, fun j h hj => by
          by_cases e : j = k
          · subst e; exact HB.out
          · exact HA.out j h (by omega)⟩
        case measure => simp [intOf]; omega
    · have HM : Hid (10 ∉ s.data.toList) := not_mem_at s 10 (fun j h => HA.out j h (by omega))
      by_cases hl : 80 < (s.size : Int)
      · go_wp2
        go_ret
        refine ⟨ret_i ?_, rfl⟩
        unfold lf; rw [if_neg HM.out, if_pos (by rw [← Lib.size_eq]; omega)]
      · go_wp2
        go_ret
        refine ⟨ret_i ?_, rfl⟩
        unfold lf; rw [if_neg HM.out, if_neg (by rw [← Lib.size_eq]; omega)]

end Go.Proofs.YtppmpofdhkgjmafDoor
