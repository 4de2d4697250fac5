/-
  Series of patches as they lie in memory; the walk of the comparison of two of the same; rows of patches that a call has made and lengthens. What lay in memory lies there still; a patch of one change, hunks of one, as blocks that a call has made.
-/
import Derived.Test.YtnkdmgekpajfhaeDoorDrw
import Derived.Lib.SmallJoins
import Derived.Deep.RegionWith
namespace Go.Proofs.YtnkdmgekpajfhaeDoor
open Go.RowKit Dist

/-- Patches as they lie in memory. -/
def Srs (w : World) (a : Option Addr) (l : List (List Ch)) : Prop :=
  ∀ i : Nat, i < l.length → ∃ b off ac cc, a = some ⟨b, off, none⟩ ∧ w.cell? ⟨b, off + i, none⟩ = some (.slice ac (l.getD i []).length cc) ∧ Chs w ac (l.getD i [])

theorem Srs.below {w w' : World} {a : Option Addr} {l : List (List Ch)} (h : Srs w a l) (hb : Below w.heap.size w w') : Srs w' a l := by
  intro i hi
  obtain ⟨b, off, ac, cc, rfl, h1, h2⟩ := h i hi
  exact ⟨b, off, ac, cc, rfl, cell_later hb h1, h2.below hb⟩

theorem Srs.nil (w : World) (a : Option Addr) : Srs w a [] := fun _ hi => absurd hi (Nat.not_lt_zero _)

theorem Srs.addr {w : World} {a : Option Addr} {l : List (List Ch)} (h : Srs w a l) {i : Nat} (hi : i < l.length) : ∃ b off, a = some ⟨b, off, none⟩ := by
  obtain ⟨b, off, _, _, e, _⟩ := h i hi
  exact ⟨b, off, e⟩

theorem Srs.at {w : World} {b off : Nat} {l : List (List Ch)} (h : Srs w (some ⟨b, off, none⟩) l) {i : Nat} (hi : i < l.length) :
    ∃ ac cc, w.cell? ⟨b, off + i, none⟩ = some (.slice ac (l.getD i []).length cc) ∧ Chs w ac (l.getD i []) := by
  obtain ⟨b', off', ac, cc, e, h1, h2⟩ := h i hi
  simp only [Option.some.injEq, Addr.mk.injEq] at e
  obtain ⟨rfl, rfl, _⟩ := e
  exact ⟨ac, cc, h1, h2⟩

theorem mem_getDs {l : List (List Ch)} {k : Nat} (hk : k < l.length) : l.getD k [] ∈ l := by
  have e : l.getD k [] = l[k] := by simp [hk]
  rw [e]; exact List.getElem_mem _

theorem Tryd.infoPatch : (Tryd.prog.info? 23).map (fun i => (i.zero, i.size, i.bytes)) = some (some (.slice none 0 0), 1, 24) := by kernel_rfl

/-- Patches as values of a row: changes that stand whatever becomes of the row's block. -/
def SvS (w : World) (r : Option Nat) (xs : List Value) (l : List (List Ch)) : Prop :=
  ∀ i, i < l.length → ∃ ac cc, xs[i]? = some (.slice ac (l.getD i []).length cc) ∧ (l.getD i []).length ≤ cc ∧ ∀ w', Gr w w' r → Chs w' ac (l.getD i [])

/-- A row of patches that a call has made. -/
def SOwn (w : World) (B : Nat) (v : Value) (l : List (List Ch)) : Prop := ∃ xs : List Value, w.ownsRow B 23 1 v l.length xs ∧ SvS w v.ownBlock xs l

theorem SOwn.zero (w : World) (B : Nat) : SOwn w B (.slice none 0 0) [] := ⟨[], World.ownsRow_nil w B _ _, fun _ hi => absurd hi (Nat.not_lt_zero _)⟩

theorem SvS.below {w w1 : World} {r : Option Nat} {xs : List Value} {l : List (List Ch)} (h : SvS w r xs l) (hb : Below w.heap.size w w1) : SvS w1 r xs l := by
  intro i hi
  obtain ⟨ac, cc, a1, a2, a3⟩ := h i hi
  exact ⟨ac, cc, a1, a2, fun w' hg => a3 w' (hg.of_below hb)⟩

theorem SOwn.below {w w1 : World} {B : Nat} {v : Value} {l : List (List Ch)} (h : SOwn w B v l) (hb : Below w.heap.size w w1) : SOwn w1 B v l := by
  obtain ⟨xs, h1, h2⟩ := h
  exact ⟨xs, own_later h1 hb, h2.below hb⟩

/-- A patch more. -/
theorem SOwn.snoc {w w' : World} {B : Nat} {v v' : Value} {l : List (List Ch)} {xs : List Value} {p : List Ch} {ac : Option Addr} {cc : Nat}
    (hown : w.ownsRow B 23 1 v l.length xs) (h2 : SvS w v.ownBlock xs l)
    (hown' : w'.ownsRow B 23 1 v' (l.length + 1) (xs ++ [.slice ac p.length cc])) (hg : w.grownBy w' v.ownBlock) (hv : v'.ownBlock = v.ownBlock ∨ v'.ownBlock = some w.heap.size)
    (hc : p.length ≤ cc) (hh : ∀ w2, Gr w w2 v.ownBlock → Chs w2 ac p) : SOwn w' B v' (l ++ [p]) := by
  refine ⟨_, by rw [List.length_append]; exact hown', fun i hi => ?_⟩
  rw [List.length_append] at hi
  simp only [List.length_cons, List.length_nil, Nat.zero_add] at hi
  have hl := hown.1
  by_cases e : i < l.length
  · obtain ⟨g1, c1, a1, a2, a3⟩ := h2 i e
    have e2 : (l ++ [p]).getD i [] = l.getD i [] := by simp [List.getElem?_append, e]
    rw [e2, List.getElem?_append_left (by omega)]
    exact ⟨g1, c1, a1, a2, fun w2 hw2 => a3 w2 (hw2.of_grown hg hv)⟩
  · obtain rfl : i = l.length := by omega
    have e2 : (l ++ [p]).getD l.length [] = p := by simp
    rw [e2, List.getElem?_append_right (by omega), show l.length - xs.length = 0 by omega]
    exact ⟨ac, cc, by simp, hc, fun w2 hw2 => hh w2 (hw2.of_grown hg hv)⟩

theorem SOwn.slc {w : World} {B : Nat} {v : Value} {l : List (List Ch)} (h : SOwn w B v l) : ∃ a n c, v = .slice a n c := by
  obtain ⟨xs, h1, _⟩ := h
  rcases h1.2 with ⟨h0, _⟩ | ⟨g, cap, cur, hv, _⟩
  · exact ⟨_, _, _, h0⟩
  · exact ⟨_, _, _, hv⟩

theorem SOwn.up {w : World} {B B' : Nat} {v : Value} {l : List (List Ch)} (h : SOwn w B v l) (hB : B' ≤ B) : SOwn w B' v l := by
  obtain ⟨xs, h1, h2⟩ := h
  exact ⟨xs, Joins.ownsRow_le h1 hB, h2⟩

theorem SOwn.srs {w : World} {B : Nat} {v : Value} {l : List (List Ch)} (h : SOwn w B v l) : ∃ a cap, v = .slice a l.length cap ∧ Srs w a l ∧ l.length ≤ cap := by
  obtain ⟨xs, hown, h2⟩ := h
  rcases hown.2 with ⟨rfl, h0⟩ | ⟨g, cap, cur, rfl, hB, hh, hlc, _, hcs, ht⟩
  · have : l = [] := List.length_eq_zero_iff.1 h0
    subst this
    exact ⟨_, 0, rfl, Srs.nil _ _, Nat.le_refl _⟩
  · refine ⟨some ⟨g, 0, none⟩, cap, rfl, fun i hi => ?_, hlc⟩
    obtain ⟨ac, cc, a1, a2, a3⟩ := h2 i hi
    have hc : ∀ j, j < l.length → w.cell? ⟨g, j, none⟩ = xs[j]? := fun j hj => by
      rw [Lib.cell_of_heap hh, ← Array.getElem?_toList, ← ht, List.getElem?_take, if_pos (by omega)]
    refine ⟨g, 0, ac, cc, rfl, ?_, a3 w (Gr.refl _ _)⟩
    rw [Nat.zero_add, hc _ hi]; exact a1

end Go.Proofs.YtnkdmgekpajfhaeDoor
namespace Go.Proofs.YtnkdmgekpajfhaeDoor
open Go.RowKit Dist

/-- What lay there lies there. -/
def Ag (w w' : World) : Prop := ∀ k, k < w.heap.size → w'.heap[k]? = w.heap[k]?

theorem Ag.of_below {w w' : World} (h : Below w.heap.size w w') : Ag w w' := fun k hk => by
  cases e : w.heap[k]? with
  | none => rw [Array.getElem?_eq_getElem hk] at e; cases e
  | some o => exact blk_below h hk e

theorem Ag.gr {w w1 w2 : World} {r : Option Nat} (h : Ag w w1) (hs : w.heap.size ≤ w1.heap.size) (hg : Gr w1 w2 r) (hr : ∀ x, r = some x → w.heap.size ≤ x) : Ag w w2 := fun k hk =>
  (hg.2 k (Nat.lt_of_lt_of_le hk hs) (fun e => by have := hr k e.symm; omega)).trans (h k hk)

theorem Ag.cell {w w' : World} (h : Ag w w') {a : Addr} {v : Value} (hc : w.cell? a = some v) : w'.cell? a = some v :=
  (World.cell?_of_block (h a.block (World.block_lt_of_cell? w a hc))).trans hc

theorem Mks.ag {w w' : World} {a : Option Addr} {ms : List (Int × ByteArray)} (h : Mks w a ms) (hg : Ag w w') : Mks w' a ms := by
  intro i hi
  obtain ⟨b, off, e, h1, h2⟩ := h i hi
  exact ⟨b, off, e, hg.cell h1, hg.cell h2⟩

theorem Hks.ag {w w' : World} {a : Option Addr} {hs : List Hk} (h : Hks w a hs) (hg : Ag w w') : Hks w' a hs := by
  intro i hi
  obtain ⟨b, off, am, cm, e, h1, h2, h3, h4, h5⟩ := h i hi
  exact ⟨b, off, am, cm, e, hg.cell h1, hg.cell h2, hg.cell h3, h4.ag hg, h5⟩

theorem hks_block {w : World} {D : Nat} {o n : Int} {am : Option Addr} {ms : List (Int × ByteArray)} {cm : Nat} {t : TypeId} {fr : Nat × Nat} (h : w.heap[D]? = some (.cells #[.int .i64 o, .int .i64 n, .slice am ms.length cm] t fr)) (hm : Mks w am ms) (hc : ms.length ≤ cm) : Hks w (some ⟨D, 0, none⟩) [(o, n, ms)] := by
  intro i hi
  obtain rfl : i = 0 := by simp at hi; omega
  have c0 := Lib.cell_of_heap h 0
  have c1 := Lib.cell_of_heap h 1
  have c2 := Lib.cell_of_heap h 2
  simp at c0 c1 c2
  exact ⟨D, 0, am, cm, rfl, c0, c1, c2, hm, hc⟩

theorem chs_block {w : World} {D : Nat} {wh : Int} {p : ByteArray} {ah : Option Addr} {hs : List Hk} {ch : Nat} {t : TypeId} {fr : Nat × Nat} (h : w.heap[D]? = some (.cells #[.int .i64 wh, .string p, .slice ah hs.length ch] t fr)) (hm : Hks w ah hs) (hc : hs.length ≤ ch) : Chs w (some ⟨D, 0, none⟩) [(wh, p, hs)] := by
  intro i hi
  obtain rfl : i = 0 := by simp at hi; omega
  have c0 := Lib.cell_of_heap h 0
  have c1 := Lib.cell_of_heap h 1
  have c2 := Lib.cell_of_heap h 2
  simp at c0 c1 c2
  exact ⟨D, 0, ah, ch, rfl, c0, c1, c2, hm, hc⟩

theorem Gr.block {w w' : World} {r : Option Nat} (hg : Gr w w' r) {k : Nat} {o : Obj} (h : w.heap[k]? = some o) (hne : r ≠ some k) : w'.heap[k]? = some o := by
  have hk : k < w.heap.size := by
    by_cases e : k < w.heap.size
    · exact e
    · rw [Array.getElem?_eq_none (by omega)] at h; cases h
  rw [hg.2 k hk (fun e => hne e.symm)]; exact h

end Go.Proofs.YtnkdmgekpajfhaeDoor
