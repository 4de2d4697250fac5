/-
  Walk of edit.toEnd: the array of arrays tells at each two places how far it is from there on. Walks of edit.checkBoth and edit.Far: how far it is from good lines to good lines; the first fault else. Walks of edit.mark, of the array's step and of edit.Script: the first of the scripts of the fewest lines. Walks of the comparison of two lists of the same marks, and of edit.Script where a file has a fault.
-/
import Derived.Test.YtfmhapajdnmhoafDoorXi
import Derived.Test.YtfmhapajdnmhoafDoorXm
import Derived.BigRegion
import Derived.Lib.Walk
import Derived.Lib.Builder
import Derived.KernelRfl
import Derived.Test.YtfmhapajdnmhoafDoorLess
namespace Go.Proofs.YtfmhapajdnmhoafDoor
open Go.RowKit Dist

def aggSize : Value → Nat
  | .agg cs => cs.size
  | _ => 0

theorem run_ti {P : Program} {w : World} {t : TypeId} {i : TypeInfo} (h : P.info? t = some i) : (typeInfo t).run P w = .ok i w := by
  simp [typeInfo, h]

theorem dist_end {xs ys : List ByteArray} {j : Nat} (hj : j ≤ ys.length) : ((ys.length : Int) - j) = (dist (xs.drop xs.length) (ys.drop j) : Nat) := by
  rw [List.drop_of_length_le (Nat.le_refl _), dist_nil, List.length_drop]; omega

theorem dist_end' {xs ys : List ByteArray} {i : Nat} (hi : i ≤ xs.length) : ((xs.length : Int) - i) = (dist (xs.drop i) (ys.drop ys.length) : Nat) := by
  rw [List.drop_of_length_le (Nat.le_refl ys.length), dist_nil', List.length_drop]; omega

theorem drop_at {xs : List ByteArray} {i : Nat} (hi : i < xs.length) : xs.drop i = xs.getD i ByteArray.empty :: xs.drop (i + 1) := by
  rw [List.drop_eq_getElem_cons hi]; simp [hi]

theorem dist_hit {xs ys : List ByteArray} {i j : Nat} (hi : i < xs.length) (hj : j < ys.length) (e : xs.getD i ByteArray.empty = ys.getD j ByteArray.empty) :
    dist (xs.drop i) (ys.drop j) = dist (xs.drop (i + 1)) (ys.drop (j + 1)) := by
  rw [drop_at hi, drop_at hj, dist_cons, if_pos e]

theorem dist_miss {xs ys : List ByteArray} {i j : Nat} (hi : i < xs.length) (hj : j < ys.length) (e : xs.getD i ByteArray.empty ≠ ys.getD j ByteArray.empty) :
    dist (xs.drop i) (ys.drop j) = 1 + min (dist (xs.drop (i + 1)) (ys.drop j)) (dist (xs.drop i) (ys.drop (j + 1))) := by
  conv => lhs; rw [drop_at hi, drop_at hj, dist_cons, if_neg e]
  rw [← drop_at hi, ← drop_at hj]

theorem bytes_eq {x y : ByteArray} (h : (x.toList == y.toList) = true) : x = y := by
  have := beq_iff_eq.1 h
  rw [Lib.toList_data, Lib.toList_data] at this
  exact ByteArray.ext (Array.toList_inj.1 this)

theorem bytes_ne {x y : ByteArray} (h : (x.toList == y.toList) = false) : x ≠ y := fun e => by subst e; simp at h

end Go.Proofs.YtfmhapajdnmhoafDoor
namespace Go.Proofs.YtfmhapajdnmhoafDoor
open Go.RowKit Dist

/-- The first of two faults. -/
def both (f g : Int) : Int := if f = 0 then g else f

theorem both_zero {f g : Int} (h : both f g = 0) : f = 0 ∧ g = 0 := by
  unfold both at h
  by_cases e : f = 0
  · rw [if_pos e] at h; exact ⟨e, h⟩
  · rw [if_neg e] at h; exact absurd h e

/-- The fault of two files. -/
def ff (xs ys : List ByteArray) : Int := both (lsf (bts xs)) (lsf (bts ys))

theorem ff_zero {xs ys : List ByteArray} (h : ff xs ys = 0) : lsf (bts xs) = 0 ∧ lsf (bts ys) = 0 := both_zero h
theorem ff_of {xs ys : List ByteArray} (h1 : lsf (bts xs) = 0) (h2 : lsf (bts ys) = 0) : ff xs ys = 0 := by unfold ff both; rw [if_pos h1, h2]

theorem lsf_len {xs : List ByteArray} (h : lsf (bts xs) = 0) : xs.length ≤ 60 := by have := (lsf_zero h).1; rwa [bts_length] at this

/-- How far it is, 0 where a file has a fault. -/
def farOf (xs ys : List ByteArray) : Int := if ff xs ys = 0 then dist xs ys else 0

end Go.Proofs.YtfmhapajdnmhoafDoor
namespace Go.Proofs.YtfmhapajdnmhoafDoor
open Go.RowKit Dist

/-- The sign of the next mark. -/
def stp (xs ys : List ByteArray) (i j : Nat) : Int :=
  if i = xs.length then 43 else if j = ys.length then 45 else if xs.getD i ByteArray.empty = ys.getD j ByteArray.empty then 32
  else if dist (xs.drop (i + 1)) (ys.drop j) ≤ dist (xs.drop i) (ys.drop (j + 1)) then 45 else 43

theorem stp_cases {xs ys : List ByteArray} {i j : Nat} (hi : i ≤ xs.length) (hj : j ≤ ys.length) (h : i < xs.length ∨ j < ys.length) :
    (stp xs ys i j = 32 ∧ i < xs.length ∧ j < ys.length ∧ scr (xs.drop i) (ys.drop j) = (32, xs.getD i ByteArray.empty) :: scr (xs.drop (i + 1)) (ys.drop (j + 1))) ∨
    (stp xs ys i j = 45 ∧ i < xs.length ∧ scr (xs.drop i) (ys.drop j) = (45, xs.getD i ByteArray.empty) :: scr (xs.drop (i + 1)) (ys.drop j)) ∨
    (stp xs ys i j = 43 ∧ j < ys.length ∧ scr (xs.drop i) (ys.drop j) = (43, ys.getD j ByteArray.empty) :: scr (xs.drop i) (ys.drop (j + 1))) := by
  unfold stp
  by_cases e1 : i = xs.length
  · refine .inr (.inr ⟨if_pos e1, by omega, ?_⟩)
    rw [e1, List.drop_of_length_le (Nat.le_refl _), drop_at (xs := ys) (i := j) (by omega), scr_put]
  rw [if_neg e1]
  by_cases e2 : j = ys.length
  · refine .inr (.inl ⟨if_pos e2, by omega, ?_⟩)
    rw [e2, List.drop_of_length_le (Nat.le_refl ys.length), drop_at (xs := xs) (i := i) (by omega), scr_take]
  rw [if_neg e2]
  have h1 : i < xs.length := by omega
  have h2 : j < ys.length := by omega
  have hs : scr (xs.drop i) (ys.drop j) = if xs.getD i ByteArray.empty = ys.getD j ByteArray.empty then (32, xs.getD i ByteArray.empty) :: scr (xs.drop (i + 1)) (ys.drop (j + 1)) else if dist (xs.drop (i + 1)) (ys.drop j) ≤ dist (xs.drop i) (ys.drop (j + 1)) then (45, xs.getD i ByteArray.empty) :: scr (xs.drop (i + 1)) (ys.drop j) else (43, ys.getD j ByteArray.empty) :: scr (xs.drop i) (ys.drop (j + 1)) := by
    conv => lhs; rw [drop_at h1, drop_at h2, scr_cons]
    rw [← drop_at h1, ← drop_at h2]
  rw [hs]
  by_cases e3 : xs.getD i ByteArray.empty = ys.getD j ByteArray.empty
  · exact .inl ⟨if_pos e3, h1, h2, if_pos e3⟩
  rw [if_neg e3, if_neg e3]
  by_cases e4 : dist (xs.drop (i + 1)) (ys.drop j) ≤ dist (xs.drop i) (ys.drop (j + 1))
  · exact .inr (.inl ⟨if_pos e4, h1, if_pos e4⟩)
  · exact .inr (.inr ⟨if_neg e4, h2, if_neg e4⟩)

theorem Tryd.infoMark : (Tryd.prog.info? 69).map (fun i => (i.zero, i.size, i.bytes)) = some (some (.agg #[.int .u8 0, .string ByteArray.empty]), 2, 24) := by kernel_rfl

theorem cell_two_new (w : World) (x y : Value) (t : TypeId) : ∀ j u, [x, y][j]? = some u → (w.alloc (.cells #[x, y] t)).cell? ((⟨w.heap.size, 0, none⟩ : Addr).add j) = some u := by
  intro j u hj
  have hblk := heap_alloc_new w (.cells #[x, y] t)
  match j, hj with
  | 0, hj =>
    simp at hj
    subst hj
    exact Lib.cell_of_heap hblk 0
  | 1, hj =>
    simp at hj
    subst hj
    exact Lib.cell_of_heap hblk 1

theorem mem_getD {xs : List ByteArray} {i : Nat} (hi : i < xs.length) : xs.getD i ByteArray.empty ∈ xs := by
  have e : xs.getD i ByteArray.empty = xs[i] := by simp [hi]
  rw [e]; exact List.getElem_mem _

theorem line_small {xs : List ByteArray} (h : lsf (bts xs) = 0) {i : Nat} (hi : i < xs.length) : (xs.getD i ByteArray.empty).size ≤ 80 := by
  have := (lsf_zero h).2 _ (List.mem_map.2 ⟨_, mem_getD hi, rfl⟩)
  have := (lf_zero this).2
  rw [Lib.size_eq]; exact this

end Go.Proofs.YtfmhapajdnmhoafDoor
namespace Go.Proofs.YtfmhapajdnmhoafDoor
open Go.RowKit Dist

end Go.Proofs.YtfmhapajdnmhoafDoor
