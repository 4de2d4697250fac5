/-
  Walks of the document's Starts, Ends, Find: texts that begin, end, have another one.
-/
import Derived.Test.YtppmpofdhkgjmafDoorStrs
import Derived.Lib.IndexBytes

namespace Go.Proofs.YtppmpofdhkgjmafDoor
open Go.RowKit

theorem beq_bool (x y : ByteArray) : (x.toList == y.toList) = decide (x = y) := by
  rw [Lib.toList_data, Lib.toList_data, Bool.eq_iff_iff, beq_iff_eq, decide_eq_true_eq]
  constructor
  · intro h; exact ByteArray.ext (Array.toList_inj.1 h)
  · intro h; rw [h]

set_option maxHeartbeats 400000 in
theorem starts (s t : ByteArray) (w : World) : Calls Tryd.prog 48 #[.string s, .string t] w fun e w' => e = .returned (.bool (Lib.hasPrefix s.data.toList t.data.toList)) ∧ w' = w := by
  have E : Hid (∀ b, Lib.hasPrefix s.data.toList t.data.toList = b → Ending.returned (.bool b) = .returned (.bool (Lib.hasPrefix s.data.toList t.data.toList))) := fun b hb => by rw [hb]
  by_cases h : t.size ≤ s.size
  · have h' : (t.size : Int) ≤ s.size := by omega
    have HX : Hid (Lib.hasPrefix s.data.toList t.data.toList = ((s.extract 0 t.size).toList == t.toList)) := by
      show Lib.hasPrefix s.data.toList t.data.toList = _
      rw [Lib.toList_data, Lib.toList_data, Lib.extract_data, List.drop_zero, Nat.sub_zero, Bool.eq_iff_iff, beq_iff_eq]
      unfold Lib.hasPrefix
      rw [List.isPrefixOf_iff_prefix, List.prefix_iff_eq_take, Lib.size_eq]
      exact ⟨fun h => h.symm, fun h => h.symm⟩
    go_enter Tryd.func48, Tryd.ntmps48
    go_wp2
    go_ret
    exact ⟨E.out _ HX.out, rfl⟩
  · have h' : ¬ (t.size : Int) ≤ s.size := by omega
    have HX : Hid (Lib.hasPrefix s.data.toList t.data.toList = false) := by
      show Lib.hasPrefix s.data.toList t.data.toList = false
      unfold Lib.hasPrefix
      rw [Bool.eq_false_iff]
      intro e
      have := (List.isPrefixOf_iff_prefix.1 e).length_le
      rw [← Lib.size_eq, ← Lib.size_eq] at this
      omega
    go_enter Tryd.func48, Tryd.ntmps48
    go_wp2
    go_ret
    exact ⟨E.out _ HX.out, rfl⟩

set_option maxHeartbeats 400000 in
theorem ends (s t : ByteArray) (w : World) (hs : s.size ≤ maxLen) : Calls Tryd.prog 49 #[.string s, .string t] w fun e w' => e = .returned (.bool (Lib.hasSuffix s.data.toList t.data.toList)) ∧ w' = w := by
  unfold maxLen at hs
  have E : Hid (∀ b, Lib.hasSuffix s.data.toList t.data.toList = b → Ending.returned (.bool b) = .returned (.bool (Lib.hasSuffix s.data.toList t.data.toList))) := fun b hb => by rw [hb]
  by_cases h : t.size ≤ s.size
  · have h' : (t.size : Int) ≤ s.size := by omega
    have HX : Hid (Lib.hasSuffix s.data.toList t.data.toList = ((s.extract (s.size - t.size) s.size).toList == t.toList)) := by
      show Lib.hasSuffix s.data.toList t.data.toList = _
      rw [Lib.toList_data, Lib.toList_data, Lib.extract_data, Bool.eq_iff_iff, beq_iff_eq]
      unfold Lib.hasSuffix
      rw [List.isSuffixOf_iff_suffix, List.suffix_iff_eq_drop, ← Lib.size_eq, ← Lib.size_eq, List.take_of_length_le (by rw [List.length_drop, ← Lib.size_eq]; exact Nat.le_refl _)]
      exact ⟨fun h => h.symm, fun h => h.symm⟩
    go_enter Tryd.func49, Tryd.ntmps49
    go_wp2
    go_ret
    exact ⟨E.out _ HX.out, rfl⟩
  · have h' : ¬ (t.size : Int) ≤ s.size := by omega
    have HX : Hid (Lib.hasSuffix s.data.toList t.data.toList = false) := by
      show Lib.hasSuffix s.data.toList t.data.toList = false
      unfold Lib.hasSuffix
      rw [Bool.eq_false_iff]
      intro e
      have := (List.isSuffixOf_iff_suffix.1 e).length_le
      rw [← Lib.size_eq, ← Lib.size_eq] at this
      omega
    go_enter Tryd.func49, Tryd.ntmps49
    go_wp2
    go_ret
    exact ⟨E.out _ HX.out, rfl⟩

set_option maxRecDepth 100000 in
set_option maxHeartbeats 1000000 in
theorem findIn (s t : ByteArray) (w : World) (hs : s.size ≤ 400000) (h1 : 1 ≤ t.size) (h2 : t.size ≤ 10) : Calls Tryd.prog 43 #[.string s, .string t] w fun e w' => e = .returned (.int .i64 (Lib.index s.data.toList t.data.toList)) ∧ w' = w := by
  have HX : Hid (∀ r, Lib.indexB s t = r → Ending.returned (.int .i64 r) = .returned (.int .i64 (Lib.index s.data.toList t.data.toList))) := fun r hr => by rw [← hr]
  go_enter Tryd.func43, Tryd.ntmps43
  go_wp2
  go_loop [5] (fun i => ∃ k : Nat, k ≤ s.size + 1 ∧ i = .int .i64 k ∧ Lib.NoOccB s t k) (fun i => s.size + 2 - (intOf i).toNat)
  case atStart => exact ⟨0, Nat.zero_le _, rfl, fun j hj => absurd hj (Nat.not_lt_zero _)⟩
  case round =>
    obtain ⟨k, hk, rfl, hno⟩ := hrel
    have HNO : Hid (Lib.NoOccB s t k) := hno
    clear hno
    by_cases hlt : k + t.size ≤ s.size
    · have hl1 : (k : Int) + t.size ≤ s.size := by omega
      have hl2 : (0 : Int) ≤ k := by omega
      have hl3 : (k : Int) ≤ (k : Int) + t.size := by omega
      by_cases hp : ((s.extract k (k + t.size)).toList == t.toList) = true
      · have HR : Hid (Lib.indexB s t = k) := Lib.hit s t k HNO.out hlt hp
        go_wp2
        go_ret
        exact ⟨HX.out _ HR.out, rfl⟩
      · have hp : ((s.extract k (k + t.size)).toList == t.toList) = false := by simpa using hp
        have HN : Hid (Lib.NoOccB s t (k + 1)) := Lib.miss_piece s t k HNO.out hlt hp
        go_wp2
        go_round
        case rel => exact ⟨k + 1, by omega, by go_num, HN.out⟩
        case measure => simp [intOf]; omega
    · have hl1 : ¬ (k : Int) + t.size ≤ s.size := by omega
      have HR : Hid (Lib.indexB s t = -1) := Lib.past s t k HNO.out h1 (by omega)
      go_wp2
      go_ret
      exact ⟨HX.out _ HR.out, rfl⟩

end Go.Proofs.YtppmpofdhkgjmafDoor
