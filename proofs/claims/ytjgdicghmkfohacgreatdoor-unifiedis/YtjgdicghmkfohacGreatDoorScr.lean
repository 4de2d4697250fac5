/-
  Walks of edit.mark, of the array's step and of edit.Script: the first of the scripts of the fewest lines.
-/
import Derived.Test.YtjgdicghmkfohacGreatDoorLess
import Derived.Test.YtjgdicghmkfohacGreatDoorFar

namespace Go.Proofs.YtjgdicghmkfohacGreatDoor
open Go.RowKit Dist

set_option maxHeartbeats 400000 in
theorem markOf (c : Int) (t : ByteArray) (w : World) (ht : t.size ≤ 80) : Calls Tryz.prog 123 #[.int .u8 c, .string t] w fun e w' => e = .returned (.agg #[.int .u8 c, .string t]) ∧ Below w.heap.size w w' := by
  have hcl := clone t (w.alloc (.cells #[.int .u8 0, .string ⟨#[]⟩] 39)) (by omega)
  have hb0 := below_alloc w (.cells #[.int .u8 0, .string ⟨#[]⟩] 39)
  have hblk := heap_alloc_new w (.cells #[.int .u8 0, .string ⟨#[]⟩] 39)
  have hsz : w.heap.size < (w.alloc (.cells #[.int .u8 0, .string ⟨#[]⟩] 39)).heap.size := by simp
  have HB0 : Hid (Below w.heap.size w (w.alloc (.cells #[.int .u8 0, .string ⟨#[]⟩] 39))) := hb0
  have HBLK : Hid ((w.alloc (.cells #[.int .u8 0, .string ⟨#[]⟩] 39)).heap[w.heap.size]? = some (.cells #[.int .u8 0, .string ⟨#[]⟩] 39)) := hblk
  have HSZ : Hid (w.heap.size < (w.alloc (.cells #[.int .u8 0, .string ⟨#[]⟩] 39)).heap.size) := hsz
  clear hb0 hblk hsz ht
  go_enter Tryz.func123, Tryz.ntmps123
  go_wp2_with (go_at_call 41; refine hcl.mono ?_)
  rintro e w1 ⟨rfl, hb1⟩
  clear hcl
  have hblk := blk_below hb1 HSZ.out HBLK.out
  have hb1 := HB0.out.trans (hb1.mono HB0.out.size)
  have hc1 : w1.cell? ⟨w.heap.size, 0, none⟩ = some (.int .u8 0) := by rw [Lib.cell_of_heap hblk]; rfl
  have hc2 : w1.cell? ⟨w.heap.size, 1, none⟩ = some (.string ⟨#[]⟩) := by rw [Lib.cell_of_heap hblk]; rfl
  have hf1 := Lib.frozen_of_heap hblk 0
  have hf2 := Lib.frozen_of_heap hblk 1
  have hblk2 := blk_set (i := 1) (blk_set (i := 0) hblk (.int .u8 c)) (.string t)
  have hc3 := Lib.cell_of_heap hblk2 0
  have hc4 := Lib.cell_of_heap hblk2 1
  simp at hc3 hc4
  clear hblk
  go_wp2
  refine bodyPost_ret (v := .agg #[.int .u8 c, .string t]) (by simp [results, Tryz.results123, go_sem, hc3, hc4]) rfl ⟨rfl, ?_⟩
  exact (hb1.setCell (Nat.le_refl _) _).setCell (Nat.le_refl _) _

/-- The sign of the next mark. -/
def stp (xs ys : List ByteArray) (i j : Nat) : Int :=
  if i = xs.length then 43 else if j = ys.length then 45 else if xs.getD i ByteArray.empty = ys.getD j ByteArray.empty then 32
  else if dist (xs.drop (i + 1)) (ys.drop j) ≤ dist (xs.drop i) (ys.drop (j + 1)) then 45 else 43

theorem stp_cases {xs ys : List ByteArray} {i j : Nat} (hi : i ≤ xs.length) (hj : j ≤ ys.length) (h : i < xs.length ∨ j < ys.length) :
    (stp xs ys i j = 32 ∧ i < xs.length ∧ j < ys.length ∧ scr (xs.drop i) (ys.drop j) = (32, xs.getD i ByteArray.empty) :: scr (xs.drop (i + 1)) (ys.drop (j + 1))) ∨
    (stp xs ys i j = 45 ∧ i < xs.length ∧ scr (xs.drop i) (ys.drop j) = (45, xs.getD i ByteArray.empty) :: scr (xs.drop (i + 1)) (ys.drop j)) ∨
    (stp xs ys i j = 43 ∧ j < ys.length ∧ scr (xs.drop i) (ys.drop j) = (43, ys.getD j ByteArray.empty) :: scr (xs.drop i) (ys.drop (j + 1))) := by
  unfold stp
  by_cases e1 : i = xs.length
  · refine .inr (.inr ⟨if_pos e1, by omega, ?_⟩)
    rw [e1, List.drop_of_length_le (Nat.le_refl _), drop_at (xs := ys) (i := j) (by omega), scr_put]
  rw [if_neg e1]
  by_cases e2 : j = ys.length
  · refine .inr (.inl ⟨if_pos e2, by omega, ?_⟩)
    rw [e2, List.drop_of_length_le (Nat.le_refl ys.length), drop_at (xs := xs) (i := i) (by omega), scr_take]
  rw [if_neg e2]
  have h1 : i < xs.length := by omega
  have h2 : j < ys.length := by omega
  have hs : scr (xs.drop i) (ys.drop j) = if xs.getD i ByteArray.empty = ys.getD j ByteArray.empty then (32, xs.getD i ByteArray.empty) :: scr (xs.drop (i + 1)) (ys.drop (j + 1)) else if dist (xs.drop (i + 1)) (ys.drop j) ≤ dist (xs.drop i) (ys.drop (j + 1)) then (45, xs.getD i ByteArray.empty) :: scr (xs.drop (i + 1)) (ys.drop j) else (43, ys.getD j ByteArray.empty) :: scr (xs.drop i) (ys.drop (j + 1)) := by
    conv => lhs; rw [drop_at h1, drop_at h2, scr_cons]
    rw [← drop_at h1, ← drop_at h2]
  rw [hs]
  by_cases e3 : xs.getD i ByteArray.empty = ys.getD j ByteArray.empty
  · exact .inl ⟨if_pos e3, h1, h2, if_pos e3⟩
  rw [if_neg e3, if_neg e3]
  by_cases e4 : dist (xs.drop (i + 1)) (ys.drop j) ≤ dist (xs.drop i) (ys.drop (j + 1))
  · exact .inr (.inl ⟨if_pos e4, h1, if_pos e4⟩)
  · exact .inr (.inr ⟨if_neg e4, h2, if_neg e4⟩)

theorem Tryz.infoMark : (Tryz.prog.info? 39).map (fun i => (i.zero, i.size, i.bytes)) = some (some (.agg #[.int .u8 0, .string ByteArray.empty]), 2, 24) := by kernel_rfl

theorem cell_two_new (w : World) (x y : Value) (t : TypeId) : ∀ j u, [x, y][j]? = some u → (w.alloc (.cells #[x, y] t)).cell? ((⟨w.heap.size, 0, none⟩ : Addr).add j) = some u := by
  intro j u hj
  have hblk := heap_alloc_new w (.cells #[x, y] t)
  match j, hj with
  | 0, hj =>
    simp at hj
    subst hj
    exact Lib.cell_of_heap hblk 0
  | 1, hj =>
    simp at hj
    subst hj
    exact Lib.cell_of_heap hblk 1

theorem mem_getD {xs : List ByteArray} {i : Nat} (hi : i < xs.length) : xs.getD i ByteArray.empty ∈ xs := by
  have e : xs.getD i ByteArray.empty = xs[i] := by simp [hi]
  rw [e]; exact List.getElem_mem _

theorem line_small {xs : List ByteArray} (h : lsf (bts xs) = 0) {i : Nat} (hi : i < xs.length) : (xs.getD i ByteArray.empty).size ≤ 80 := by
  have := (lsf_zero h).2 _ (List.mem_map.2 ⟨_, mem_getD hi, rfl⟩)
  have := (lf_zero this).2
  rw [Lib.size_eq]; exact this

end Go.Proofs.YtjgdicghmkfohacGreatDoor
