/-
  Rows of hunks that a call has made and lengthens, each hunk with marks of its own.
-/
import Derived.Test.YtnkdmgekpajfhaeDoorPcs
import Derived.Laws.OwnMore

namespace Go.Proofs.YtnkdmgekpajfhaeDoor
open Go.RowKit Dist

/-- A row of hunks that a call has made, each with marks that lie in a block of their own. -/
def HOwn (w : World) (B : Nat) (v : Value) (hs : List (Int × Int × List (Int × ByteArray))) : Prop :=
  ∃ xs : List Value, w.ownsRow B 40 3 v hs.length xs ∧ ∀ i, i < hs.length → ∃ g cap, xs[i * 3]? = some (.int .i64 (hs.getD i (0, 0, [])).1) ∧ xs[i * 3 + 1]? = some (.int .i64 (hs.getD i (0, 0, [])).2.1) ∧ xs[i * 3 + 2]? = some (.slice (some ⟨g, 0, none⟩) (hs.getD i (0, 0, [])).2.2.length cap) ∧ v.ownBlock ≠ some g ∧ g < w.heap.size ∧ Mks w (some ⟨g, 0, none⟩) (hs.getD i (0, 0, [])).2.2 ∧ (hs.getD i (0, 0, [])).2.2.length ≤ cap ∧ B ≤ g

theorem HOwn.zero (w : World) (B : Nat) : HOwn w B (.slice none 0 0) [] := ⟨[], World.ownsRow_nil w B _ _, fun _ hi => absurd hi (Nat.not_lt_zero _)⟩

theorem HOwn.below {w w' : World} {B : Nat} {v : Value} {hs : List (Int × Int × List (Int × ByteArray))} (h : HOwn w B v hs) (hb : Below w.heap.size w w') : HOwn w' B v hs := by
  obtain ⟨xs, h1, h2⟩ := h
  refine ⟨xs, own_later h1 hb, fun i hi => ?_⟩
  obtain ⟨g, cap, a1, a2, a3, a4, a5, a6, a7, a8⟩ := h2 i hi
  exact ⟨g, cap, a1, a2, a3, a4, Nat.lt_of_lt_of_le a5 hb.size, a6.below hb, a7, a8⟩

theorem Mks.grown {w w' : World} {g : Nat} {ms : List (Int × ByteArray)} {row : Option Nat} (h : Mks w (some ⟨g, 0, none⟩) ms) (hg : w.grownBy w' row) (hne : row ≠ some g) : Mks w' (some ⟨g, 0, none⟩) ms := by
  intro i hi
  obtain ⟨b, off, e, h1, h2⟩ := h i hi
  obtain rfl : g = b := by
    have := congrArg (fun o => o.map Addr.block) e
    simpa using this
  exact ⟨g, off, e, hg.cell h1 (fun e => hne e.symm), hg.cell h2 (fun e => hne e.symm)⟩

/-- A hunk more. -/
theorem HOwn.snoc {w w' : World} {B : Nat} {v v' : Value} {hs : List (Int × Int × List (Int × ByteArray))} {xs : List Value} {o p : Int} {ms : List (Int × ByteArray)} {g cap : Nat}
    (hown : w.ownsRow B 40 3 v hs.length xs)
    (h2 : ∀ i, i < hs.length → ∃ g cap, xs[i * 3]? = some (.int .i64 (hs.getD i (0, 0, [])).1) ∧ xs[i * 3 + 1]? = some (.int .i64 (hs.getD i (0, 0, [])).2.1) ∧ xs[i * 3 + 2]? = some (.slice (some ⟨g, 0, none⟩) (hs.getD i (0, 0, [])).2.2.length cap) ∧ v.ownBlock ≠ some g ∧ g < w.heap.size ∧ Mks w (some ⟨g, 0, none⟩) (hs.getD i (0, 0, [])).2.2 ∧ (hs.getD i (0, 0, [])).2.2.length ≤ cap ∧ B ≤ g)
    (hown' : w'.ownsRow B 40 3 v' (hs.length + 1) (xs ++ [.int .i64 o, .int .i64 p, .slice (some ⟨g, 0, none⟩) ms.length cap])) (hg : w.grownBy w' v.ownBlock) (hv : v'.ownBlock = v.ownBlock ∨ v'.ownBlock = some w.heap.size)
    (hgl : g < w.heap.size) (hgv : v.ownBlock ≠ some g) (hmk : Mks w (some ⟨g, 0, none⟩) ms) (hcp : ms.length ≤ cap) (hgB : B ≤ g) : HOwn w' B v' (hs ++ [(o, p, ms)]) := by
  have hne : ∀ {x : Nat}, x < w.heap.size → v.ownBlock ≠ some x → v'.ownBlock ≠ some x := by
    intro x hx hvx e
    rcases hv with h | h
    · exact hvx (h ▸ e)
    · rw [h] at e; simp at e; omega
  refine ⟨_, by rw [List.length_append]; exact hown', fun i hi => ?_⟩
  rw [List.length_append] at hi
  simp only [List.length_cons, List.length_nil, Nat.zero_add] at hi
  have hl := hown.1
  by_cases e : i < hs.length
  · obtain ⟨g1, c1, a1, a2, a3, a4, a5, a6, a7, a8⟩ := h2 i e
    have e2 : (hs ++ [(o, p, ms)]).getD i (0, 0, []) = hs.getD i (0, 0, []) := by simp [List.getElem?_append, e]
    rw [e2, List.getElem?_append_left (by omega), List.getElem?_append_left (by omega), List.getElem?_append_left (by omega)]
    exact ⟨g1, c1, a1, a2, a3, hne a5 a4, Nat.lt_of_lt_of_le a5 hg.size, a6.grown hg a4, a7, a8⟩
  · obtain rfl : i = hs.length := by omega
    have e2 : (hs ++ [(o, p, ms)]).getD hs.length (0, 0, []) = (o, p, ms) := by simp
    rw [e2, List.getElem?_append_right (by omega), List.getElem?_append_right (by omega), List.getElem?_append_right (by omega), hl]
    refine ⟨g, cap, by simp, by simp, by simp, hne hgl hgv, Nat.lt_of_lt_of_le hgl hg.size, hmk.grown hg hgv, hcp, hgB⟩

theorem HOwn.hks {w : World} {B : Nat} {v : Value} {hs : List (Int × Int × List (Int × ByteArray))} (h : HOwn w B v hs) : ∃ a cap, v = .slice a hs.length cap ∧ Hks w a hs := by
  obtain ⟨xs, hown, h2⟩ := h
  rcases hown.2 with ⟨rfl, h0⟩ | ⟨g, cap, cur, rfl, hB, hh, _, _, hcs, ht⟩
  · have : hs = [] := List.length_eq_zero_iff.1 h0
    subst this
    exact ⟨_, 0, rfl, Hks.nil _ _⟩
  · refine ⟨some ⟨g, 0, none⟩, cap, rfl, fun i hi => ?_⟩
    obtain ⟨g1, c1, a1, a2, a3, _, _, a6, a7, _⟩ := h2 i hi
    have hc : ∀ j, j < hs.length * 3 → w.cell? ⟨g, j, none⟩ = xs[j]? := fun j hj => by
      rw [Lib.cell_of_heap hh, ← Array.getElem?_toList, ← ht, List.getElem?_take, if_pos hj]
    refine ⟨g, 0, some ⟨g1, 0, none⟩, c1, rfl, ?_, ?_, ?_, a6, a7⟩
    · rw [Nat.zero_add, hc _ (by omega)]; exact a1
    · rw [Nat.zero_add, hc _ (by omega)]; exact a2
    · rw [Nat.zero_add, hc _ (by omega)]; exact a3

theorem Tryd.infoHunk : (Tryd.prog.info? 40).map (fun i => (i.zero, i.size, i.bytes)) = some (some (.agg #[.int .i64 0, .int .i64 0, .slice none 0 0]), 3, 40) := by kernel_rfl

theorem cell_three_new (w : World) (x y z : Value) (t : TypeId) : ∀ j u, [x, y, z][j]? = some u → (w.alloc (.cells #[x, y, z] t)).cell? ((⟨w.heap.size, 0, none⟩ : Addr).add j) = some u := by
  intro j u hj
  have hblk := heap_alloc_new w (.cells #[x, y, z] t)
  match j, hj with
  | 0, hj =>
    simp at hj
    subst hj
    exact Lib.cell_of_heap hblk 0
  | 1, hj =>
    simp at hj
    subst hj
    exact Lib.cell_of_heap hblk 1
  | 2, hj =>
    simp at hj
    subst hj
    exact Lib.cell_of_heap hblk 2

theorem HOwn.mono {w : World} {B B' : Nat} {v : Value} {hs : List (Int × Int × List (Int × ByteArray))} (h : HOwn w B v hs) (hb : B' ≤ B) : HOwn w B' v hs := by
  obtain ⟨xs, h1, h2⟩ := h
  refine ⟨xs, ⟨h1.1, ?_⟩, fun i hi => ?_⟩
  rotate_left
  · obtain ⟨g1, c1, a1, a2, a3, a4, a5, a6, a7, a8⟩ := h2 i hi
    exact ⟨g1, c1, a1, a2, a3, a4, a5, a6, a7, Nat.le_trans hb a8⟩
  rcases h1.2 with h0 | ⟨g, cap, cur, hv, hB, hr⟩
  · exact .inl h0
  · exact .inr ⟨g, cap, cur, hv, Nat.le_trans hb hB, hr⟩

/-- Hunks that a call has made stand, whatever becomes of a block that lay there before. -/
theorem HOwn.stays {w w' : World} {B : Nat} {v : Value} {hs : List (Int × Int × List (Int × ByteArray))} {row : Option Nat} (h : HOwn w B v hs) (hg : w.grownBy w' row) (hr : ∀ r, row = some r → r < B) : HOwn w' B v hs := by
  obtain ⟨xs, h1, h2⟩ := h
  refine ⟨xs, ⟨h1.1, ?_⟩, fun i hi => ?_⟩
  · rcases h1.2 with h0 | ⟨g, cap, cur, hv, hB, hh, r⟩
    · exact .inl h0
    · refine .inr ⟨g, cap, cur, hv, hB, ?_, r⟩
      have hlt : g < w.heap.size := by
        by_cases e : g < w.heap.size
        · exact e
        · rw [Array.getElem?_eq_none (by omega)] at hh; cases hh
      rw [hg.block g hlt (fun e => by have := hr g e.symm; omega)]
      exact hh
  · obtain ⟨g1, c1, a1, a2, a3, a4, a5, a6, a7, a8⟩ := h2 i hi
    exact ⟨g1, c1, a1, a2, a3, a4, Nat.lt_of_lt_of_le a5 hg.size, a6.grown hg (fun e => by have := hr g1 e; omega), a7, a8⟩

theorem HOwn.room {w : World} {B : Nat} {v : Value} {hs : List (Int × Int × List (Int × ByteArray))} (h : HOwn w B v hs) : ∃ a cap, v = .slice a hs.length cap ∧ Hks w a hs ∧ hs.length ≤ cap := by
  obtain ⟨a, cap, e, hk⟩ := h.hks
  obtain ⟨xs, h1, h2⟩ := h
  refine ⟨a, cap, e, hk, ?_⟩
  rcases h1.2 with ⟨e1, e2⟩ | ⟨g, cap', cur, hv, _, _, h3, _⟩
  · omega
  · rw [e] at hv
    simp only [Value.slice.injEq] at hv
    omega

end Go.Proofs.YtnkdmgekpajfhaeDoor
