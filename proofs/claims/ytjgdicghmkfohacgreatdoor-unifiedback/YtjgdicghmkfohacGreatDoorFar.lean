/-
  Walks of edit.checkBoth and edit.Far: how far it is from good lines to good lines; the first fault else.
-/
import Derived.Test.YtjgdicghmkfohacGreatDoorMem
import Derived.Test.YtjgdicghmkfohacGreatDoorEnd

namespace Go.Proofs.YtjgdicghmkfohacGreatDoor
open Go.RowKit Dist

/-- The first of two faults. -/
def both (f g : Int) : Int := if f = 0 then g else f

theorem both_zero {f g : Int} (h : both f g = 0) : f = 0 ∧ g = 0 := by
  unfold both at h
  by_cases e : f = 0
  · rw [if_pos e] at h; exact ⟨e, h⟩
  · rw [if_neg e] at h; exact absurd h e

/-- The fault of two files. -/
def ff (xs ys : List ByteArray) : Int := both (lsf (bts xs)) (lsf (bts ys))

theorem ff_zero {xs ys : List ByteArray} (h : ff xs ys = 0) : lsf (bts xs) = 0 ∧ lsf (bts ys) = 0 := both_zero h
theorem ff_of {xs ys : List ByteArray} (h1 : lsf (bts xs) = 0) (h2 : lsf (bts ys) = 0) : ff xs ys = 0 := by unfold ff both; rw [if_pos h1, h2]

theorem lsf_len {xs : List ByteArray} (h : lsf (bts xs) = 0) : xs.length ≤ 60 := by have := (lsf_zero h).1; rwa [bts_length] at this

/-- How far it is, 0 where a file has a fault. -/
def farOf (xs ys : List ByteArray) : Int := if ff xs ys = 0 then dist xs ys else 0

end Go.Proofs.YtjgdicghmkfohacGreatDoor
