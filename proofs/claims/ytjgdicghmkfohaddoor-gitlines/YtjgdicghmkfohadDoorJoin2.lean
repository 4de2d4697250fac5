/-
  Walk of line.Join: good lines are joined, the others are refused.
-/
import Derived.Test.YtjgdicghmkfohadDoorJoin

namespace Go.Proofs.YtjgdicghmkfohadDoor
open Go.RowKit

/-- Bytes as a string. -/
def str (l : List UInt8) : ByteArray := ⟨l.toArray⟩
theorem str_data (l : List UInt8) : (str l).data.toList = l := by simp [str]
theorem data_str (s : ByteArray) : str s.data.toList = s := by cases s; simp [str]
theorem str_size (l : List UInt8) : (str l).size = l.length := by simp [str, ByteArray.size]

theorem joinC_snoc (c : UInt8) (l : List (List UInt8)) (x : List UInt8) : joinC c (l ++ [x]) = joinC c l ++ (x ++ [c]) := by
  rw [joinC_append]; simp [joinC]

end Go.Proofs.YtjgdicghmkfohadDoor
