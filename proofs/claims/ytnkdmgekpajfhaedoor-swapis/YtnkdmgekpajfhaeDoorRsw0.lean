/-
  Walk of the document's own answer for two hunks the other way round.
-/
import Derived.Test.YtnkdmgekpajfhaeDoorRefH
import Derived.Test.YtnkdmgekpajfhaeDoorHsame
import Derived.Test.YtnkdmgekpajfhaeDoorSwm
import Derived.Test.YtnkdmgekpajfhaeDoorAgr
import Derived.Deep.RegionWith
import Derived.Deep.RegionHeld3
import Derived.Deep.DrawnRows

namespace Go.Proofs.YtnkdmgekpajfhaeDoor
open Go.RowKit Dist

/-- Two structs of three cells stored. -/
theorem put_both {w w0 : World} {B C D : Nat} (hne : C ≠ D) {a b c a' b' c' x y z x' y' z' : Value} {t : TypeId} (h1 : w.heap[C]? = some (.cells #[a, b, c] t (0, 0))) (h2 : w.heap[D]? = some (.cells #[a', b', c'] t (0, 0))) (hb : Below B w0 w) (hC : B ≤ C) (hD : B ≤ D) :
    ((((((w.setCell ⟨C, 0, none⟩ x).setCell ⟨C, 1, none⟩ y).setCell ⟨C, 2, none⟩ z).setCell ⟨D, 0, none⟩ x').setCell ⟨D, 1, none⟩ y').setCell ⟨D, 2, none⟩ z').heap[C]? = some (.cells #[x, y, z] t (0, 0)) ∧ ((((((w.setCell ⟨C, 0, none⟩ x).setCell ⟨C, 1, none⟩ y).setCell ⟨C, 2, none⟩ z).setCell ⟨D, 0, none⟩ x').setCell ⟨D, 1, none⟩ y').setCell ⟨D, 2, none⟩ z').heap[D]? = some (.cells #[x', y', z'] t (0, 0)) ∧ Below B w0 ((((((w.setCell ⟨C, 0, none⟩ x).setCell ⟨C, 1, none⟩ y).setCell ⟨C, 2, none⟩ z).setCell ⟨D, 0, none⟩ x').setCell ⟨D, 1, none⟩ y').setCell ⟨D, 2, none⟩ z') := by
  have u1 : (((w.setCell ⟨C, 0, none⟩ x).setCell ⟨C, 1, none⟩ y).setCell ⟨C, 2, none⟩ z).heap[C]? = some (.cells #[x, y, z] t (0, 0)) := by
    have := blk_set (i := 2) (blk_set (i := 1) (blk_set (i := 0) h1 x) y) z
    simpa using this
  have other : ∀ (W : World) (g k i : Nat) (v : Value) (o : Obj), k ≠ g → W.heap[k]? = some o → (W.setCell ⟨g, i, none⟩ v).heap[k]? = some o := by
    intro W g k i v o hk h
    simp only [World.setCell, Array.getElem?_modify]
    rw [if_neg (fun e => hk e.symm)]; exact h
  have u2 := other _ C D 2 z _ (fun e => hne e.symm) (other _ C D 1 y _ (fun e => hne e.symm) (other _ C D 0 x _ (fun e => hne e.symm) h2))
  have v2 : ((((((w.setCell ⟨C, 0, none⟩ x).setCell ⟨C, 1, none⟩ y).setCell ⟨C, 2, none⟩ z).setCell ⟨D, 0, none⟩ x').setCell ⟨D, 1, none⟩ y').setCell ⟨D, 2, none⟩ z').heap[D]? = some (.cells #[x', y', z'] t (0, 0)) := by
    have := blk_set (i := 2) (blk_set (i := 1) (blk_set (i := 0) u2 x') y') z'
    simpa using this
  refine ⟨other _ D C 2 z' _ hne (other _ D C 1 y' _ hne (other _ D C 0 x' _ hne u1)), v2, ?_⟩
  exact (((((hb.setCell (p := ⟨C, 0, none⟩) hC _).setCell (p := ⟨C, 1, none⟩) hC _).setCell (p := ⟨C, 2, none⟩) hC _).setCell (p := ⟨D, 0, none⟩) hD _).setCell (p := ⟨D, 1, none⟩) hD _).setCell (p := ⟨D, 2, none⟩) hD _

/-- A hunk in a block of its own; an empty one. -/
def Bx (w : World) (g : Nat) (o n : Int) (a : Option Addr) (q c : Nat) : Prop := w.heap[g]? = some (.cells #[.int .i64 o, .int .i64 n, .slice a q c] 40 (0, 0))

theorem Bx.cells {w : World} {g : Nat} {o n : Int} {a : Option Addr} {q c : Nat} (hb : Bx w g o n a q c) : w.cell? ⟨g, 0, none⟩ = some (.int .i64 o) ∧ w.cell? ⟨g, 1, none⟩ = some (.int .i64 n) ∧ w.cell? ⟨g, 2, none⟩ = some (.slice a q c) := by
  have c0 := Lib.cell_of_heap hb 0
  have c1 := Lib.cell_of_heap hb 1
  have c2 := Lib.cell_of_heap hb 2
  simp at c0 c1 c2
  exact ⟨c0, c1, c2⟩

theorem Bx.frozen {w : World} {g : Nat} {o n : Int} {a : Option Addr} {q c : Nat} (hb : Bx w g o n a q c) : w.frozen? ⟨g, 0, none⟩ = false ∧ w.frozen? ⟨g, 1, none⟩ = false ∧ w.frozen? ⟨g, 2, none⟩ = false :=
  ⟨Lib.frozen_of_heap hb 0, Lib.frozen_of_heap hb 1, Lib.frozen_of_heap hb 2⟩

theorem Bx.lt {w : World} {g : Nat} {o n : Int} {a : Option Addr} {q c : Nat} (hb : Bx w g o n a q c) : g < w.heap.size := by
  by_cases e : g < w.heap.size
  · exact e
  · unfold Bx at hb; rw [Array.getElem?_eq_none (by omega)] at hb; cases hb

theorem Bx.below {w w' : World} {g : Nat} {o n : Int} {a : Option Addr} {q c : Nat} (hb : Bx w g o n a q c) (hw : Below w.heap.size w w') : Bx w' g o n a q c := blk_below hw hb.lt hb

/-- The four blocks of SwapOf: both hunks, both answers. -/
def Sq (w0 w : World) (B : Nat) (ho hn : Int) (am : Option Addr) (hq cm : Nat) (ko kn : Int) (an : Option Addr) (kq cn : Nat) : Prop :=
  Bx w B ho hn am hq cm ∧ Bx w (B + 1) ko kn an kq cn ∧ Bx w (B + 1 + 1) 0 0 none 0 0 ∧ Bx w (B + 1 + 1 + 1) 0 0 none 0 0 ∧ Below B w0 w

theorem Sq.below {w0 w w' : World} {B : Nat} {ho hn : Int} {am : Option Addr} {hq cm : Nat} {ko kn : Int} {an : Option Addr} {kq cn : Nat} (h : Sq w0 w B ho hn am hq cm ko kn an kq cn) (hb : Below w.heap.size w w') : Sq w0 w' B ho hn am hq cm ko kn an kq cn :=
  ⟨h.1.below hb, h.2.1.below hb, h.2.2.1.below hb, h.2.2.2.1.below hb, h.2.2.2.2.trans (hb.mono (by have := h.1.lt; omega))⟩

/-- As SwapOf begins. -/
theorem Sq.start {w : World} {B : Nat} (hB : w.heap.size = B) (ho hn : Int) (am : Option Addr) (hq cm : Nat) (ko kn : Int) (an : Option Addr) (kq cn : Nat) :
    Sq w ((((w.alloc (.cells #[.int .i64 ho, .int .i64 hn, .slice am hq cm] 40)).alloc (.cells #[.int .i64 ko, .int .i64 kn, .slice an kq cn] 40)).alloc (.cells #[.int .i64 0, .int .i64 0, .slice none 0 0] 40)).alloc (.cells #[.int .i64 0, .int .i64 0, .slice none 0 0] 40)) B ho hn am hq cm ko kn an kq cn ∧ ((((w.alloc (.cells #[.int .i64 ho, .int .i64 hn, .slice am hq cm] 40)).alloc (.cells #[.int .i64 ko, .int .i64 kn, .slice an kq cn] 40)).alloc (.cells #[.int .i64 0, .int .i64 0, .slice none 0 0] 40)).alloc (.cells #[.int .i64 0, .int .i64 0, .slice none 0 0] 40)).heap.size = B + 1 + 1 + 1 + 1 := by
  subst hB
  obtain ⟨w1, h1⟩ : ∃ x, w.alloc (.cells #[.int .i64 ho, .int .i64 hn, .slice am hq cm] 40) = x := ⟨_, rfl⟩
  have a1 : Bx w1 w.heap.size ho hn am hq cm := by rw [← h1]; exact heap_alloc_new w _
  have b1 : Below w.heap.size w w1 := by rw [← h1]; exact below_alloc w _
  have s1 : w1.heap.size = w.heap.size + 1 := by rw [← h1]; simp
  rw [h1]
  obtain ⟨w2, h2⟩ : ∃ x, w1.alloc (.cells #[.int .i64 ko, .int .i64 kn, .slice an kq cn] 40) = x := ⟨_, rfl⟩
  have a2 : Bx w2 (w.heap.size + 1) ko kn an kq cn := by rw [← h2, ← s1]; exact heap_alloc_new w1 _
  have b2 : Below w1.heap.size w1 w2 := by rw [← h2]; exact below_alloc w1 _
  have s2 : w2.heap.size = w.heap.size + 1 + 1 := by rw [← h2, World.size_alloc, s1]
  rw [h2]
  obtain ⟨w3, h3⟩ : ∃ x, w2.alloc (.cells #[.int .i64 0, .int .i64 0, .slice none 0 0] 40) = x := ⟨_, rfl⟩
  have a3 : Bx w3 (w.heap.size + 1 + 1) 0 0 none 0 0 := by rw [← h3, ← s2]; exact heap_alloc_new w2 _
  have b3 : Below w2.heap.size w2 w3 := by rw [← h3]; exact below_alloc w2 _
  have s3 : w3.heap.size = w.heap.size + 1 + 1 + 1 := by rw [← h3, World.size_alloc, s2]
  rw [h3]
  obtain ⟨w4, h4⟩ : ∃ x, w3.alloc (.cells #[.int .i64 0, .int .i64 0, .slice none 0 0] 40) = x := ⟨_, rfl⟩
  have a4 : Bx w4 (w.heap.size + 1 + 1 + 1) 0 0 none 0 0 := by rw [← h4, ← s3]; exact heap_alloc_new w3 _
  have b4 : Below w3.heap.size w3 w4 := by rw [← h4]; exact below_alloc w3 _
  have s4 : w4.heap.size = w.heap.size + 1 + 1 + 1 + 1 := by rw [← h4, World.size_alloc, s3]
  rw [h4]
  exact ⟨⟨((a1.below b2).below b3).below b4, (a2.below b3).below b4, a3.below b4, a4, ((b1.trans (b2.mono b1.size)).trans (b3.mono (Nat.le_trans b1.size b2.size))).trans (b4.mono (Nat.le_trans b1.size (Nat.le_trans b2.size b3.size)))⟩, s4⟩

/-- Empty hunks stored as answers. -/
theorem Sq.empty {w0 w : World} {B : Nat} {ho hn : Int} {am : Option Addr} {hq cm : Nat} {ko kn : Int} {an : Option Addr} {kq cn : Nat} (h : Sq w0 w B ho hn am hq cm ko kn an kq cn) {x y z x' y' z' : Value} :
    ((((((w.setCell ⟨B + 1 + 1, 0, none⟩ x).setCell ⟨B + 1 + 1, 1, none⟩ y).setCell ⟨B + 1 + 1, 2, none⟩ z).setCell ⟨B + 1 + 1 + 1, 0, none⟩ x').setCell ⟨B + 1 + 1 + 1, 1, none⟩ y').setCell ⟨B + 1 + 1 + 1, 2, none⟩ z').heap[B + 1 + 1]? = some (.cells #[x, y, z] 40 (0, 0)) ∧ ((((((w.setCell ⟨B + 1 + 1, 0, none⟩ x).setCell ⟨B + 1 + 1, 1, none⟩ y).setCell ⟨B + 1 + 1, 2, none⟩ z).setCell ⟨B + 1 + 1 + 1, 0, none⟩ x').setCell ⟨B + 1 + 1 + 1, 1, none⟩ y').setCell ⟨B + 1 + 1 + 1, 2, none⟩ z').heap[B + 1 + 1 + 1]? = some (.cells #[x', y', z'] 40 (0, 0)) ∧ Below B w0 ((((((w.setCell ⟨B + 1 + 1, 0, none⟩ x).setCell ⟨B + 1 + 1, 1, none⟩ y).setCell ⟨B + 1 + 1, 2, none⟩ z).setCell ⟨B + 1 + 1 + 1, 0, none⟩ x').setCell ⟨B + 1 + 1 + 1, 1, none⟩ y').setCell ⟨B + 1 + 1 + 1, 2, none⟩ z') :=
  put_both (by omega) h.2.2.1 h.2.2.2.1 h.2.2.2.2 (by omega) (by omega)

theorem set_other {W : World} {g k i : Nat} (v : Value) {o : Obj} (hk : k ≠ g) (h : W.heap[k]? = some o) : (W.setCell ⟨g, i, none⟩ v).heap[k]? = some o := by
  simp only [World.setCell, Array.getElem?_modify]
  rw [if_neg (fun e => hk e.symm)]; exact h

/-- A hunk moved. -/
theorem Sq.moveH {w0 w : World} {B : Nat} {ho hn : Int} {am : Option Addr} {hq cm : Nat} {ko kn : Int} {an : Option Addr} {kq cn : Nat} (h : Sq w0 w B ho hn am hq cm ko kn an kq cn) (o n : Int) : Sq w0 ((w.setCell ⟨B, 0, none⟩ (.int .i64 o)).setCell ⟨B, 1, none⟩ (.int .i64 n)) B o n am hq cm ko kn an kq cn := by
  have own : Bx ((w.setCell ⟨B, 0, none⟩ (.int .i64 o)).setCell ⟨B, 1, none⟩ (.int .i64 n)) B o n am hq cm := by
    have := blk_set (i := 1) (blk_set (i := 0) h.1 (.int .i64 o)) (.int .i64 n)
    unfold Bx; simpa using this
  have other : ∀ (g : Nat) (ob : Obj), g ≠ B → w.heap[g]? = some ob → ((w.setCell ⟨B, 0, none⟩ (.int .i64 o)).setCell ⟨B, 1, none⟩ (.int .i64 n)).heap[g]? = some ob := fun g ob hg hh => set_other _ hg (set_other _ hg hh)
  exact ⟨own, other _ _ (by omega) h.2.1, other _ _ (by omega) h.2.2.1, other _ _ (by omega) h.2.2.2.1, (h.2.2.2.2.setCell (p := ⟨B, 0, none⟩) (by simp) _).setCell (p := ⟨B, 1, none⟩) (by simp) _⟩

theorem Sq.moveK {w0 w : World} {B : Nat} {ho hn : Int} {am : Option Addr} {hq cm : Nat} {ko kn : Int} {an : Option Addr} {kq cn : Nat} (h : Sq w0 w B ho hn am hq cm ko kn an kq cn) (o n : Int) : Sq w0 ((w.setCell ⟨B + 1, 0, none⟩ (.int .i64 o)).setCell ⟨B + 1, 1, none⟩ (.int .i64 n)) B ho hn am hq cm o n an kq cn := by
  have own : Bx ((w.setCell ⟨B + 1, 0, none⟩ (.int .i64 o)).setCell ⟨B + 1, 1, none⟩ (.int .i64 n)) (B + 1) o n an kq cn := by
    have := blk_set (i := 1) (blk_set (i := 0) h.2.1 (.int .i64 o)) (.int .i64 n)
    unfold Bx; simpa using this
  have other : ∀ (g : Nat) (ob : Obj), g ≠ (B + 1) → w.heap[g]? = some ob → ((w.setCell ⟨B + 1, 0, none⟩ (.int .i64 o)).setCell ⟨B + 1, 1, none⟩ (.int .i64 n)).heap[g]? = some ob := fun g ob hg hh => set_other _ hg (set_other _ hg hh)
  exact ⟨other _ _ (by omega) h.1, own, other _ _ (by omega) h.2.2.1, other _ _ (by omega) h.2.2.2.1, (h.2.2.2.2.setCell (p := ⟨B + 1, 0, none⟩) (by simp) _).setCell (p := ⟨B + 1, 1, none⟩) (by simp) _⟩

theorem drew_heap {w : World} {g : Nat} {o : Obj} (h : w.heap[g]? = some o) : w.drew.heap[g]? = some o := h
theorem drew_below {w w' : World} {B : Nat} (h : Below B w w') : Below B w w'.drew := h.trans ⟨rfl, rfl, rfl, Nat.le_refl _, fun _ _ => rfl⟩

/-- What SwapOf answers. -/
def SwP (h k : Hk) (e : Ending) (w' : World) : Prop := ∃ x1 c1 x2 c2, e = .returned (.tuple #[.agg #[.int .i64 (swO h k).1.1, .int .i64 (swO h k).1.2.1, .slice x1 (swO h k).1.2.2.length c1], .agg #[.int .i64 (swO h k).2.1, .int .i64 (swO h k).2.2.1, .slice x2 (swO h k).2.2.2.length c2], .int .i64 (swF h k)]) ∧ Mks w' x1 (swO h k).1.2.2 ∧ Mks w' x2 (swO h k).2.2.2

theorem SwP.bad {h k : Hk} {f : Int} (e : swF h k = f) (hf : f ≠ 0) (w' : World) : SwP h k (.returned (.tuple #[.agg #[.int .i64 0, .int .i64 0, .slice none 0 0], .agg #[.int .i64 0, .int .i64 0, .slice none 0 0], .int .i64 f])) w' := by
  unfold SwP
  rw [swO_bad (by rw [e]; exact hf), e]
  exact ⟨none, 0, none, 0, rfl, fun _ hi => absurd hi (Nat.not_lt_zero _), fun _ hi => absurd hi (Nat.not_lt_zero _)⟩

theorem SwP.ok {h k x y : Hk} (e : swF h k = 0) (e2 : swP h k = (x, y)) {o1 n1 o2 n2 : Int} {a1 a2 : Option Addr} {q1 c1 q2 c2 : Nat} (ex : x.1 = o1 ∧ x.2.1 = n1 ∧ x.2.2.length = q1) (ey : y.1 = o2 ∧ y.2.1 = n2 ∧ y.2.2.length = q2) {w' : World} (mx : Mks w' a1 x.2.2) (my : Mks w' a2 y.2.2) :
    SwP h k (.returned (.tuple #[.agg #[.int .i64 o2, .int .i64 n2, .slice a2 q2 c2], .agg #[.int .i64 o1, .int .i64 n1, .slice a1 q1 c1], .int .i64 0])) w' := by
  unfold SwP
  rw [swO_ok e, e, e2]
  obtain ⟨rfl, rfl, rfl⟩ := ex
  obtain ⟨rfl, rfl, rfl⟩ := ey
  exact ⟨a2, c2, a1, c1, rfl, my, mx⟩

end Go.Proofs.YtnkdmgekpajfhaeDoor
