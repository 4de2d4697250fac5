/-
  Rows of changes that a call has made and lengthens, each change with hunks that stand whatever becomes of the row. Series of patches as they lie in memory; the walk of the comparison of two of the same; rows of patches that a call has made and lengthens.
-/
import Derived.Test.YtfmhapajdnmhoafDoorChs
import Derived.Test.YtfmhapajdnmhoafDoorXy
import Derived.Lib.SmallJoins
import Derived.Deep.RegionWith
namespace Go.Proofs.YtfmhapajdnmhoafDoor
open Go.RowKit Dist

theorem Tryd.infoChange : (Tryd.prog.info? 25).map (fun i => (i.zero, i.size, i.bytes)) = some (some (.agg #[.int .i64 0, .string ByteArray.empty, .slice none 0 0]), 3, 48) := by kernel_rfl

/-- A world grown: what lay there before lies there, but for one block. -/
def Gr (w w' : World) (r : Option Nat) : Prop := w.heap.size ≤ w'.heap.size ∧ ∀ k, k < w.heap.size → some k ≠ r → w'.heap[k]? = w.heap[k]?

theorem Gr.refl (w : World) (r : Option Nat) : Gr w w r := ⟨Nat.le_refl _, fun _ _ _ => rfl⟩
theorem Gr.of_below {w w1 w2 : World} {r : Option Nat} (hb : Below w.heap.size w w1) (h : Gr w1 w2 r) : Gr w w2 r := by
  refine ⟨Nat.le_trans hb.size h.1, fun k hk hr => ?_⟩
  rw [h.2 k (Nat.lt_of_lt_of_le hk hb.size) hr]
  cases e : w.heap[k]? with
  | none => rw [Array.getElem?_eq_getElem hk] at e; cases e
  | some o => exact blk_below hb hk e
theorem Gr.of_grown {w w1 w2 : World} {r r' : Option Nat} (hg : w.grownBy w1 r) (hr : r' = r ∨ r' = some w.heap.size) (h : Gr w1 w2 r') : Gr w w2 r := by
  refine ⟨Nat.le_trans hg.size h.1, fun k hk hk2 => ?_⟩
  rw [h.2 k (Nat.lt_of_lt_of_le hk hg.size) ?_, hg.block k hk hk2]
  rcases hr with e | e
  · rw [e]; exact hk2
  · rw [e]; intro e2; have := Option.some.inj e2; omega

theorem Gr.cell {w w' : World} {r : Option Nat} (hg : Gr w w' r) {a : Addr} {v : Value} (h : w.cell? a = some v) (hne : some a.block ≠ r) : w'.cell? a = some v :=
  (World.cell?_of_block (hg.2 a.block (World.block_lt_of_cell? w a h) hne)).trans h

theorem Mks.gr {w w' : World} {g : Nat} {ms : List (Int × ByteArray)} {row : Option Nat} (h : Mks w (some ⟨g, 0, none⟩) ms) (hg : Gr w w' row) (hne : row ≠ some g) : Mks w' (some ⟨g, 0, none⟩) ms := by
  intro i hi
  obtain ⟨b, off, e, h1, h2⟩ := h i hi
  obtain rfl : g = b := by
    have := congrArg (fun o => o.map Addr.block) e
    simpa using this
  exact ⟨g, off, e, hg.cell h1 (fun e => hne e.symm), hg.cell h2 (fun e => hne e.symm)⟩

/-- Hunks that a call has made stand, whatever becomes of a block that lay there before. -/
theorem HOwn.gr {w w' : World} {B : Nat} {v : Value} {hs : List Hk} {row : Option Nat} (h : HOwn w B v hs) (hg : Gr w w' row) (hr : ∀ r, row = some r → r < B) : HOwn w' B v hs := by
  obtain ⟨xs, h1, h2⟩ := h
  refine ⟨xs, ⟨h1.1, ?_⟩, fun i hi => ?_⟩
  · rcases h1.2 with h0 | ⟨g, cap, cur, hv, hB, hh, r⟩
    · exact .inl h0
    · refine .inr ⟨g, cap, cur, hv, hB, ?_, r⟩
      have hlt : g < w.heap.size := by
        by_cases e : g < w.heap.size
        · exact e
        · rw [Array.getElem?_eq_none (by omega)] at hh; cases hh
      rw [hg.2 g hlt (fun e => by have := hr g e.symm; omega)]
      exact hh
  · obtain ⟨g1, c1, a1, a2, a3, a4, a5, a6, a7, a8⟩ := h2 i hi
    exact ⟨g1, c1, a1, a2, a3, a4, Nat.lt_of_lt_of_le a5 hg.1, a6.gr hg (fun e => by have := hr g1 e; omega), a7, a8⟩

/-- Changes as values of a row: hunks that stand whatever becomes of the row's block. -/
def CvS (w : World) (r : Option Nat) (xs : List Value) (l : List Ch) : Prop :=
  ∀ i, i < l.length → ∃ ah ch, xs[i * 3]? = some (.int .i64 (l.getD i cz).1) ∧ xs[i * 3 + 1]? = some (.string (l.getD i cz).2.1) ∧ xs[i * 3 + 2]? = some (.slice ah (l.getD i cz).2.2.length ch) ∧ (l.getD i cz).2.2.length ≤ ch ∧ ∀ w', Gr w w' r → Hks w' ah (l.getD i cz).2.2

/-- A row of changes that a call has made. -/
def DOwn (w : World) (B : Nat) (v : Value) (l : List Ch) : Prop := ∃ xs : List Value, w.ownsRow B 25 3 v l.length xs ∧ CvS w v.ownBlock xs l

theorem DOwn.zero (w : World) (B : Nat) : DOwn w B (.slice none 0 0) [] := ⟨[], World.ownsRow_nil w B _ _, fun _ hi => absurd hi (Nat.not_lt_zero _)⟩

theorem CvS.below {w w1 : World} {r : Option Nat} {xs : List Value} {l : List Ch} (h : CvS w r xs l) (hb : Below w.heap.size w w1) : CvS w1 r xs l := by
  intro i hi
  obtain ⟨ah, ch, a1, a2, a3, a4, a5⟩ := h i hi
  exact ⟨ah, ch, a1, a2, a3, a4, fun w' hg => a5 w' (hg.of_below hb)⟩

theorem DOwn.below {w w1 : World} {B : Nat} {v : Value} {l : List Ch} (h : DOwn w B v l) (hb : Below w.heap.size w w1) : DOwn w1 B v l := by
  obtain ⟨xs, h1, h2⟩ := h
  exact ⟨xs, own_later h1 hb, h2.below hb⟩

/-- A change more. -/
theorem DOwn.snoc {w w' : World} {B : Nat} {v v' : Value} {l : List Ch} {xs : List Value} {wh : Int} {p : ByteArray} {hs : List Hk} {ah : Option Addr} {ch : Nat}
    (hown : w.ownsRow B 25 3 v l.length xs) (h2 : CvS w v.ownBlock xs l)
    (hown' : w'.ownsRow B 25 3 v' (l.length + 1) (xs ++ [.int .i64 wh, .string p, .slice ah hs.length ch])) (hg : w.grownBy w' v.ownBlock) (hv : v'.ownBlock = v.ownBlock ∨ v'.ownBlock = some w.heap.size)
    (hc : hs.length ≤ ch) (hh : ∀ w2, Gr w w2 v.ownBlock → Hks w2 ah hs) : DOwn w' B v' (l ++ [(wh, p, hs)]) := by
  refine ⟨_, by rw [List.length_append]; exact hown', fun i hi => ?_⟩
  rw [List.length_append] at hi
  simp only [List.length_cons, List.length_nil, Nat.zero_add] at hi
  have hl := hown.1
  by_cases e : i < l.length
  · obtain ⟨g1, c1, a1, a2, a3, a4, a5⟩ := h2 i e
    have e2 : (l ++ [(wh, p, hs)]).getD i cz = l.getD i cz := by simp [List.getElem?_append, e]
    rw [e2, List.getElem?_append_left (by omega), List.getElem?_append_left (by omega), List.getElem?_append_left (by omega)]
    exact ⟨g1, c1, a1, a2, a3, a4, fun w2 hw2 => a5 w2 (hw2.of_grown hg hv)⟩
  · obtain rfl : i = l.length := by omega
    have e2 : (l ++ [(wh, p, hs)]).getD l.length cz = (wh, p, hs) := by simp
    rw [e2, List.getElem?_append_right (by omega), List.getElem?_append_right (by omega), List.getElem?_append_right (by omega), hl]
    refine ⟨ah, ch, by simp, by simp, by simp, hc, fun w2 hw2 => hh w2 (hw2.of_grown hg hv)⟩

theorem DOwn.chs {w : World} {B : Nat} {v : Value} {l : List Ch} (h : DOwn w B v l) : ∃ a cap, v = .slice a l.length cap ∧ Chs w a l ∧ l.length ≤ cap := by
  obtain ⟨xs, hown, h2⟩ := h
  rcases hown.2 with ⟨rfl, h0⟩ | ⟨g, cap, cur, rfl, hB, hh, hlc, _, hcs, ht⟩
  · have : l = [] := List.length_eq_zero_iff.1 h0
    subst this
    exact ⟨_, 0, rfl, Chs.nil _ _, Nat.le_refl _⟩
  · refine ⟨some ⟨g, 0, none⟩, cap, rfl, fun i hi => ?_, hlc⟩
    obtain ⟨ah, ch, a1, a2, a3, a4, a5⟩ := h2 i hi
    have hc : ∀ j, j < l.length * 3 → w.cell? ⟨g, j, none⟩ = xs[j]? := fun j hj => by
      rw [Lib.cell_of_heap hh, ← Array.getElem?_toList, ← ht, List.getElem?_take, if_pos hj]
    refine ⟨g, 0, ah, ch, rfl, ?_, ?_, ?_, a5 w (Gr.refl _ _), a4⟩
    · rw [Nat.zero_add, hc _ (by omega)]; exact a1
    · rw [Nat.zero_add, hc _ (by omega)]; exact a2
    · rw [Nat.zero_add, hc _ (by omega)]; exact a3

end Go.Proofs.YtfmhapajdnmhoafDoor
namespace Go.Proofs.YtfmhapajdnmhoafDoor
open Go.RowKit Dist

/-- Patches as they lie in memory. -/
def Srs (w : World) (a : Option Addr) (l : List (List Ch)) : Prop :=
  ∀ i : Nat, i < l.length → ∃ b off ac cc, a = some ⟨b, off, none⟩ ∧ w.cell? ⟨b, off + i, none⟩ = some (.slice ac (l.getD i []).length cc) ∧ Chs w ac (l.getD i [])

theorem Srs.below {w w' : World} {a : Option Addr} {l : List (List Ch)} (h : Srs w a l) (hb : Below w.heap.size w w') : Srs w' a l := by
  intro i hi
  obtain ⟨b, off, ac, cc, rfl, h1, h2⟩ := h i hi
  exact ⟨b, off, ac, cc, rfl, cell_later hb h1, h2.below hb⟩

theorem Srs.nil (w : World) (a : Option Addr) : Srs w a [] := fun _ hi => absurd hi (Nat.not_lt_zero _)

theorem Srs.addr {w : World} {a : Option Addr} {l : List (List Ch)} (h : Srs w a l) {i : Nat} (hi : i < l.length) : ∃ b off, a = some ⟨b, off, none⟩ := by
  obtain ⟨b, off, _, _, e, _⟩ := h i hi
  exact ⟨b, off, e⟩

theorem Srs.at {w : World} {b off : Nat} {l : List (List Ch)} (h : Srs w (some ⟨b, off, none⟩) l) {i : Nat} (hi : i < l.length) :
    ∃ ac cc, w.cell? ⟨b, off + i, none⟩ = some (.slice ac (l.getD i []).length cc) ∧ Chs w ac (l.getD i []) := by
  obtain ⟨b', off', ac, cc, e, h1, h2⟩ := h i hi
  simp only [Option.some.injEq, Addr.mk.injEq] at e
  obtain ⟨rfl, rfl, _⟩ := e
  exact ⟨ac, cc, h1, h2⟩

theorem mem_getDs {l : List (List Ch)} {k : Nat} (hk : k < l.length) : l.getD k [] ∈ l := by
  have e : l.getD k [] = l[k] := by simp [hk]
  rw [e]; exact List.getElem_mem _

theorem Tryd.infoPatch : (Tryd.prog.info? 26).map (fun i => (i.zero, i.size, i.bytes)) = some (some (.slice none 0 0), 1, 24) := by kernel_rfl

/-- Patches as values of a row: changes that stand whatever becomes of the row's block. -/
def SvS (w : World) (r : Option Nat) (xs : List Value) (l : List (List Ch)) : Prop :=
  ∀ i, i < l.length → ∃ ac cc, xs[i]? = some (.slice ac (l.getD i []).length cc) ∧ (l.getD i []).length ≤ cc ∧ ∀ w', Gr w w' r → Chs w' ac (l.getD i [])

/-- A row of patches that a call has made. -/
def SOwn (w : World) (B : Nat) (v : Value) (l : List (List Ch)) : Prop := ∃ xs : List Value, w.ownsRow B 26 1 v l.length xs ∧ SvS w v.ownBlock xs l

theorem SOwn.zero (w : World) (B : Nat) : SOwn w B (.slice none 0 0) [] := ⟨[], World.ownsRow_nil w B _ _, fun _ hi => absurd hi (Nat.not_lt_zero _)⟩

theorem SvS.below {w w1 : World} {r : Option Nat} {xs : List Value} {l : List (List Ch)} (h : SvS w r xs l) (hb : Below w.heap.size w w1) : SvS w1 r xs l := by
  intro i hi
  obtain ⟨ac, cc, a1, a2, a3⟩ := h i hi
  exact ⟨ac, cc, a1, a2, fun w' hg => a3 w' (hg.of_below hb)⟩

theorem SOwn.below {w w1 : World} {B : Nat} {v : Value} {l : List (List Ch)} (h : SOwn w B v l) (hb : Below w.heap.size w w1) : SOwn w1 B v l := by
  obtain ⟨xs, h1, h2⟩ := h
  exact ⟨xs, own_later h1 hb, h2.below hb⟩

/-- A patch more. -/
theorem SOwn.snoc {w w' : World} {B : Nat} {v v' : Value} {l : List (List Ch)} {xs : List Value} {p : List Ch} {ac : Option Addr} {cc : Nat}
    (hown : w.ownsRow B 26 1 v l.length xs) (h2 : SvS w v.ownBlock xs l)
    (hown' : w'.ownsRow B 26 1 v' (l.length + 1) (xs ++ [.slice ac p.length cc])) (hg : w.grownBy w' v.ownBlock) (hv : v'.ownBlock = v.ownBlock ∨ v'.ownBlock = some w.heap.size)
    (hc : p.length ≤ cc) (hh : ∀ w2, Gr w w2 v.ownBlock → Chs w2 ac p) : SOwn w' B v' (l ++ [p]) := by
  refine ⟨_, by rw [List.length_append]; exact hown', fun i hi => ?_⟩
  rw [List.length_append] at hi
  simp only [List.length_cons, List.length_nil, Nat.zero_add] at hi
  have hl := hown.1
  by_cases e : i < l.length
  · obtain ⟨g1, c1, a1, a2, a3⟩ := h2 i e
    have e2 : (l ++ [p]).getD i [] = l.getD i [] := by simp [List.getElem?_append, e]
    rw [e2, List.getElem?_append_left (by omega)]
    exact ⟨g1, c1, a1, a2, fun w2 hw2 => a3 w2 (hw2.of_grown hg hv)⟩
  · obtain rfl : i = l.length := by omega
    have e2 : (l ++ [p]).getD l.length [] = p := by simp
    rw [e2, List.getElem?_append_right (by omega), show l.length - xs.length = 0 by omega]
    exact ⟨ac, cc, by simp, hc, fun w2 hw2 => hh w2 (hw2.of_grown hg hv)⟩

theorem SOwn.slc {w : World} {B : Nat} {v : Value} {l : List (List Ch)} (h : SOwn w B v l) : ∃ a n c, v = .slice a n c := by
  obtain ⟨xs, h1, _⟩ := h
  rcases h1.2 with ⟨h0, _⟩ | ⟨g, cap, cur, hv, _⟩
  · exact ⟨_, _, _, h0⟩
  · exact ⟨_, _, _, hv⟩

theorem SOwn.up {w : World} {B B' : Nat} {v : Value} {l : List (List Ch)} (h : SOwn w B v l) (hB : B' ≤ B) : SOwn w B' v l := by
  obtain ⟨xs, h1, h2⟩ := h
  exact ⟨xs, Joins.ownsRow_le h1 hB, h2⟩

theorem SOwn.srs {w : World} {B : Nat} {v : Value} {l : List (List Ch)} (h : SOwn w B v l) : ∃ a cap, v = .slice a l.length cap ∧ Srs w a l ∧ l.length ≤ cap := by
  obtain ⟨xs, hown, h2⟩ := h
  rcases hown.2 with ⟨rfl, h0⟩ | ⟨g, cap, cur, rfl, hB, hh, hlc, _, hcs, ht⟩
  · have : l = [] := List.length_eq_zero_iff.1 h0
    subst this
    exact ⟨_, 0, rfl, Srs.nil _ _, Nat.le_refl _⟩
  · refine ⟨some ⟨g, 0, none⟩, cap, rfl, fun i hi => ?_, hlc⟩
    obtain ⟨ac, cc, a1, a2, a3⟩ := h2 i hi
    have hc : ∀ j, j < l.length → w.cell? ⟨g, j, none⟩ = xs[j]? := fun j hj => by
      rw [Lib.cell_of_heap hh, ← Array.getElem?_toList, ← ht, List.getElem?_take, if_pos (by omega)]
    refine ⟨g, 0, ac, cc, rfl, ?_, a3 w (Gr.refl _ _)⟩
    rw [Nat.zero_add, hc _ hi]; exact a1

end Go.Proofs.YtfmhapajdnmhoafDoor
