/-
  Walk of edit.toEnd: the array of arrays tells at each two places how far it is from there on.
-/
import Derived.Test.YtjgdicghmkfohacGreatDoorDist
import Derived.Test.YtjgdicghmkfohacGreatDoorStrs
import Derived.BigRegion
import Derived.Lib.Walk
import Derived.Lib.Builder
import Derived.KernelRfl

namespace Go.Proofs.YtjgdicghmkfohacGreatDoor
open Go.RowKit Dist

def aggSize : Value → Nat
  | .agg cs => cs.size
  | _ => 0

theorem run_ti {P : Program} {w : World} {t : TypeId} {i : TypeInfo} (h : P.info? t = some i) : (typeInfo t).run P w = .ok i w := by
  simp [typeInfo, h]

theorem dist_end {xs ys : List ByteArray} {j : Nat} (hj : j ≤ ys.length) : ((ys.length : Int) - j) = (dist (xs.drop xs.length) (ys.drop j) : Nat) := by
  rw [List.drop_of_length_le (Nat.le_refl _), dist_nil, List.length_drop]; omega

theorem dist_end' {xs ys : List ByteArray} {i : Nat} (hi : i ≤ xs.length) : ((xs.length : Int) - i) = (dist (xs.drop i) (ys.drop ys.length) : Nat) := by
  rw [List.drop_of_length_le (Nat.le_refl ys.length), dist_nil', List.length_drop]; omega

theorem drop_at {xs : List ByteArray} {i : Nat} (hi : i < xs.length) : xs.drop i = xs.getD i ByteArray.empty :: xs.drop (i + 1) := by
  rw [List.drop_eq_getElem_cons hi]; simp [hi]

theorem dist_hit {xs ys : List ByteArray} {i j : Nat} (hi : i < xs.length) (hj : j < ys.length) (e : xs.getD i ByteArray.empty = ys.getD j ByteArray.empty) :
    dist (xs.drop i) (ys.drop j) = dist (xs.drop (i + 1)) (ys.drop (j + 1)) := by
  rw [drop_at hi, drop_at hj, dist_cons, if_pos e]

theorem dist_miss {xs ys : List ByteArray} {i j : Nat} (hi : i < xs.length) (hj : j < ys.length) (e : xs.getD i ByteArray.empty ≠ ys.getD j ByteArray.empty) :
    dist (xs.drop i) (ys.drop j) = 1 + min (dist (xs.drop (i + 1)) (ys.drop j)) (dist (xs.drop i) (ys.drop (j + 1))) := by
  conv => lhs; rw [drop_at hi, drop_at hj, dist_cons, if_neg e]
  rw [← drop_at hi, ← drop_at hj]

theorem bytes_eq {x y : ByteArray} (h : (x.toList == y.toList) = true) : x = y := by
  have := beq_iff_eq.1 h
  rw [Lib.toList_data, Lib.toList_data] at this
  exact ByteArray.ext (Array.toList_inj.1 this)

theorem bytes_ne {x y : ByteArray} (h : (x.toList == y.toList) = false) : x ≠ y := fun e => by subst e; simp at h

end Go.Proofs.YtjgdicghmkfohacGreatDoor
