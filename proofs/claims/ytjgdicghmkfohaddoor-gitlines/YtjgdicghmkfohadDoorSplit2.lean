/-
  Walks of strings.SplitN, line.cut and line.Split.
-/
import Derived.Test.YtjgdicghmkfohadDoorSplit

namespace Go.Proofs.YtjgdicghmkfohadDoor
open Go.RowKit

theorem parts_len (c : UInt8) (s : List UInt8) : (parts c s).1.length ≤ s.length := by
  have h := parts_join c s
  have := joinC_len c (parts c s).1
  have := congrArg List.length h
  simp at this
  omega

theorem take_data (ps : List ByteArray) (k : Nat) : bts (ps.take k) = (bts ps).take k := by unfold bts; rw [List.map_take]

theorem lsf_take (l : List (List UInt8)) : lsf (l.take 61) = lsf l := by
  by_cases h : l.length ≤ 61
  · rw [List.take_of_length_le h]
  · unfold lsf
    rw [List.length_take, if_pos (by omega), if_pos (by omega)]

theorem suffix_iff (s : List UInt8) : Lib.hasSuffix s [10] = true ↔ ∃ r, s = r ++ [10] := by
  unfold Lib.hasSuffix
  rw [List.isSuffixOf_iff_suffix]
  constructor
  · rintro ⟨r, rfl⟩; exact ⟨r, rfl⟩
  · rintro ⟨r, rfl⟩; exact ⟨r, rfl⟩

theorem isEmpty_str (s : ByteArray) : s.toList.isEmpty = true ↔ s.data.toList = [] := by rw [Lib.toList_data]; simp

theorem split_front (s : ByteArray) (h : (parts 10 s.data.toList).2 = []) : s.toList.isEmpty = true ∨ (s.toList.isEmpty = false ∧ Lib.hasSuffix s.data.toList [10] = true) := by
  by_cases he : s.toList.isEmpty = true
  · exact Or.inl he
  · rcases (last_of s.data.toList).1 h with h0 | h0
    · exact absurd ((isEmpty_str s).2 h0) he
    · exact Or.inr ⟨by simpa using he, (suffix_iff _).2 h0⟩

end Go.Proofs.YtjgdicghmkfohadDoor
