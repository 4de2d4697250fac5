/-
  Walk of the law ApplyMakes: it returns true and writes nothing that was there.
-/
import Derived.Test.YtnkdmgekpajfhaeDoorStrict
import Derived.Test.YtnkdmgekpajfhaeDoorHMk

namespace Go.Proofs.YtnkdmgekpajfhaeDoor
open Go.RowKit Dist

theorem lsf_of {xs : List ByteArray} (hl : xs.length ≤ 60) (h : ∀ x ∈ xs, lf x.data.toList = 0) : lsf (bts xs) = 0 := by
  unfold lsf
  rw [bts_length, if_neg (by omega)]
  clear hl
  induction xs with
  | nil => rfl
  | cons x r ih =>
    unfold bts at ih ⊢
    rw [List.map_cons, lsg, if_pos (h x (by simp))]
    exact ih fun y hy => h y (List.mem_cons_of_mem _ hy)

/-- What is done is undone. -/
theorem stF_undo {xs : List ByteArray} {l : List Hk} (h : (stF xs l).2 = 0) : stF (sR xs l) (trn l) = (0, 0) ∧ stO (sR xs l) (trn l) = xs := by
  obtain ⟨h1, h2, h3, h4⟩ := stF_zero h
  obtain ⟨g, _, _⟩ := hf_good h2
  obtain ⟨u1, u2⟩ := undo g (clash_stand h3)
  have e : stF (sR xs l) (trn l) = (0, 0) := stF_ok (lsf_of h4 (sR_lines h1 h2)) (by rw [hf_trn h2]) (clash_none u1) (by rw [u2]; have := lsf_len h1; omega)
  refine ⟨e, ?_⟩
  rw [stO_ok (by rw [e]), u2]

/-- What was found is done. -/
theorem stF_make {xs ys : List ByteArray} {n : Int} (h : mkf xs ys n = 0) : stF xs (mOfH xs ys n) = (0, 0) ∧ sR xs (mOfH xs ys n) = ys := by
  have hff : ff xs ys = 0 := by
    by_cases e : ff xs ys = 0
    · exact e
    · unfold mkf at h; rw [if_pos e] at h; exact absurd h e
  obtain ⟨f1, f2⟩ := ff_zero hff
  obtain ⟨o1, o2, _, _, hm⟩ := scr_ok xs ys
  have hs : ∀ m ∈ scr xs ys, sgn m.1 := fun m hmem => (hm m hmem).1
  obtain ⟨c1, c2⟩ := cut_stand hs n.toNat
  have c3 := cut_makes hs n.toNat
  rw [o1] at c2 c3
  rw [o2] at c3
  have e : mOfH xs ys n = cut (scr xs ys) n.toNat := by unfold mOfH; rw [if_pos h]
  have hcf := scr_cf (n := n) hff
  rw [h] at hcf
  obtain ⟨k1, _, _, k4, k5⟩ := cf_zero hcf
  have hhf := hf_cut k1 k4 k5 n.toNat
  rw [e]
  refine ⟨stF_ok f1 (by rw [hhf]) (clash_none c2) (by rw [c3]; have := lsf_len f2; omega), c3⟩

theorem fact_x : stF [] [((0 : Int), (0 : Int), [((43 : Int), (⟨#[120]⟩ : ByteArray))])] = (0, 0) ∧ stO [] [((0 : Int), (0 : Int), [((43 : Int), (⟨#[120]⟩ : ByteArray))])] = [⟨#[120]⟩] := by decide

/-- One hunk of one mark, new. -/
theorem hks_one (w : World) (o p c : Int) (s : ByteArray) : Hks ((w.alloc (.cells #[.int .u8 c, .string s] 37)).alloc (.cells #[.int .i64 o, .int .i64 p, .slice (some ⟨w.heap.size, 0, none⟩) 1 1] 40)) (some ⟨w.heap.size + 1, 0, none⟩) [(o, p, [(c, s)])] := by
  intro i hi
  obtain rfl : i = 0 := by simpa using hi
  have k1 := heap_alloc_new w (.cells #[.int .u8 c, .string s] 37)
  have k2 := heap_alloc_new (w.alloc (.cells #[.int .u8 c, .string s] 37)) (.cells #[.int .i64 o, .int .i64 p, .slice (some ⟨w.heap.size, 0, none⟩) 1 1] 40)
  have hb := below_alloc (w.alloc (.cells #[.int .u8 c, .string s] 37)) (.cells #[.int .i64 o, .int .i64 p, .slice (some ⟨w.heap.size, 0, none⟩) 1 1] 40)
  rw [show (w.alloc (.cells #[.int .u8 c, .string s] 37)).heap.size = w.heap.size + 1 by simp] at k2
  have k3 := blk_below hb (by simp) k1
  refine ⟨w.heap.size + 1, 0, some ⟨w.heap.size, 0, none⟩, 1, rfl, ?_, ?_, ?_, ?_, Nat.le_refl _⟩
  · rw [Lib.cell_of_heap k2]; rfl
  · rw [Lib.cell_of_heap k2]; rfl
  · rw [Lib.cell_of_heap k2]; rfl
  · intro j hj
    obtain rfl : j = 0 := by simpa using hj
    exact ⟨w.heap.size, 0, rfl, by rw [Lib.cell_of_heap k3]; rfl, by rw [Lib.cell_of_heap k3]; rfl⟩

theorem texts_eq (a b : Option Addr) (xs : List ByteArray) (ca cb : Nat) (w : World) (ha : Strs w a xs) (hb : Strs w b xs) (hm : xs.length ≤ maxLen) : Calls Tryd.prog 18 #[.slice a xs.length ca, .slice b xs.length cb] w fun e w' => e = .returned (.bool true) ∧ Below w.heap.size w w' :=
  (texts_same a b xs xs ca cb w ha hb rfl hm).mono fun e w' ⟨he, n, hw⟩ => ⟨by rw [he]; exact ret_b (decide_eq_true rfl), by rw [hw]; exact below_drawn (Below.refl _ _)⟩

theorem strs_nil (w : World) (a : Option Addr) : Strs w a [] := fun _ hi => absurd hi (Nat.not_lt_zero _)

/-- One line, new. -/
theorem strs_one (w : World) (s : ByteArray) (t : TypeId) : Strs (w.alloc (.cells #[.string s] t)) (some ⟨w.heap.size, 0, none⟩) [s] := by
  intro i hi
  obtain rfl : i = 0 := by simpa using hi
  exact ⟨w.heap.size, 0, rfl, by rw [Lib.cell_of_heap (heap_alloc_new w _)]; rfl⟩

end Go.Proofs.YtnkdmgekpajfhaeDoor
