/-
  Rows of marks that a call has made and fills; walks of edit.Copy, hunk.turnSign, hunk.turnMarks: the same marks in memory of their own, and turned. Rows of hunks that a call has made and lengthens, each hunk with marks of its own.
-/
import Derived.Test.YtfmhapajdnmhoafDoorXbb
import Derived.Laws.OwnMore
namespace Go.Proofs.YtfmhapajdnmhoafDoor
open Go.RowKit Dist

/-- A row of marks that a call has made: at the places that P names it has what f says. -/
def MRow (w : World) (B n : Nat) (P : Nat → Prop) (f : Nat → Int × ByteArray) : Prop :=
  ∃ cs : Array Value, w.heap[B]? = some (.cells cs 69 (0, 0)) ∧ cs.size = n * 2 ∧ ∀ j, j < n → P j → cs[j * 2]? = some (.int .u8 (f j).1) ∧ cs[j * 2 + 1]? = some (.string (f j).2)

theorem MRow.any {w : World} {B n : Nat} {P : Nat → Prop} {f : Nat → Int × ByteArray} (h : MRow w B n P f) {i : Nat} (hi : i < n * 2) : ∃ v, w.cell? ⟨B, i, none⟩ = some v := by
  obtain ⟨cs, hc, hs, _⟩ := h
  rw [Lib.cell_of_heap hc]
  exact ⟨_, Array.getElem?_eq_getElem (by omega)⟩

theorem MRow.frozen {w : World} {B n : Nat} {P : Nat → Prop} {f : Nat → Int × ByteArray} (h : MRow w B n P f) (i : Nat) : w.frozen? ⟨B, i, none⟩ = false := by
  obtain ⟨cs, hc, _⟩ := h
  exact Lib.frozen_of_heap hc i

theorem MRow.lt {w : World} {B n : Nat} {P : Nat → Prop} {f : Nat → Int × ByteArray} (h : MRow w B n P f) : B < w.heap.size := by
  obtain ⟨cs, hc, _⟩ := h
  by_cases e : B < w.heap.size
  · exact e
  · rw [Array.getElem?_eq_none (by omega)] at hc; cases hc

theorem MRow.below {w w' : World} {B n : Nat} {P : Nat → Prop} {f : Nat → Int × ByteArray} (h : MRow w B n P f) (hb : Below w.heap.size w w') : MRow w' B n P f := by
  have hl := h.lt
  obtain ⟨cs, hc, h2⟩ := h
  exact ⟨cs, blk_below hb hl hc, h2⟩

theorem MRow.cell {w : World} {B n : Nat} {P : Nat → Prop} {f : Nat → Int × ByteArray} (h : MRow w B n P f) {j : Nat} (hj : j < n) (hp : P j) : w.cell? ⟨B, j * 2, none⟩ = some (.int .u8 (f j).1) ∧ w.cell? ⟨B, j * 2 + 1, none⟩ = some (.string (f j).2) := by
  obtain ⟨cs, hc, _, hat⟩ := h
  rw [Lib.cell_of_heap hc, Lib.cell_of_heap hc]; exact hat j hj hp

theorem MRow.mono {w : World} {B n : Nat} {P Q : Nat → Prop} {f g : Nat → Int × ByteArray} (h : MRow w B n P f) (hq : ∀ j, j < n → Q j → P j ∧ f j = g j) : MRow w B n Q g := by
  obtain ⟨cs, hc, hs, hat⟩ := h
  refine ⟨cs, hc, hs, fun j hj hp => ?_⟩
  obtain ⟨h1, h2⟩ := hq j hj hp
  rw [← h2]; exact hat j hj h1

theorem MRow.set {w : World} {B n : Nat} {P : Nat → Prop} {f : Nat → Int × ByteArray} (h : MRow w B n P f) {k : Nat} (hk : k < n) (c : Int) (t : ByteArray) :
    MRow ((w.setCell ⟨B, k * 2, none⟩ (.int .u8 c)).setCell ⟨B, k * 2 + 1, none⟩ (.string t)) B n (fun j => j = k ∨ P j) (fun j => if j = k then (c, t) else f j) := by
  obtain ⟨cs, hc, hs, hat⟩ := h
  refine ⟨_, blk_set (blk_set hc _) _, by simpa using hs, fun j hj hp => ?_⟩
  dsimp only at hp ⊢
  by_cases e : j = k
  · subst e
    rw [if_pos rfl]
    rw [Array.getElem?_setIfInBounds_ne (by omega), Array.getElem?_setIfInBounds_self_of_lt (by omega), Array.getElem?_setIfInBounds_self_of_lt (by simp; omega)]
    exact ⟨rfl, rfl⟩
  · rw [if_neg e]
    rw [Array.getElem?_setIfInBounds_ne (by omega), Array.getElem?_setIfInBounds_ne (by omega), Array.getElem?_setIfInBounds_ne (by omega), Array.getElem?_setIfInBounds_ne (by omega)]
    exact hat j hj (hp.resolve_left e)

theorem MRow.sign {w : World} {B n : Nat} {P : Nat → Prop} {f : Nat → Int × ByteArray} (h : MRow w B n P f) {k : Nat} (hk : k < n) (c : Int) :
    MRow (w.setCell ⟨B, k * 2, none⟩ (.int .u8 c)) B n P (fun j => if j = k then (c, (f j).2) else f j) := by
  obtain ⟨cs, hc, hs, hat⟩ := h
  refine ⟨_, blk_set hc _, by simpa using hs, fun j hj hp => ?_⟩
  dsimp only
  by_cases e : j = k
  · subst e
    rw [if_pos rfl]
    rw [Array.getElem?_setIfInBounds_self_of_lt (by omega), Array.getElem?_setIfInBounds_ne (by omega)]
    exact ⟨rfl, (hat j hj hp).2⟩
  · rw [if_neg e]
    rw [Array.getElem?_setIfInBounds_ne (by omega), Array.getElem?_setIfInBounds_ne (by omega)]
    exact hat j hj hp

theorem MRow.mks {w : World} {B : Nat} {P : Nat → Prop} {f : Nat → Int × ByteArray} {ms : List (Int × ByteArray)} (h : MRow w B ms.length P f) (hp : ∀ j, j < ms.length → P j ∧ f j = ms.getD j (0, ByteArray.empty)) : Mks w (some ⟨B, 0, none⟩) ms := by
  intro i hi
  obtain ⟨h1, h2⟩ := hp i hi
  have := h.cell hi h1
  rw [h2] at this
  exact ⟨B, 0, rfl, by rw [Nat.zero_add]; exact this⟩

/-- A row of marks, new. -/
theorem run_make_marks (kl kc : IntKind) (n : Nat) (hn : n ≤ 1000) (w : World) :
    (Instr.makeSlice 49 (.int kl (n : Int)) (.int kc (n : Int))).run Tryd.prog w = .ok (.slice (some ⟨w.heap.size, 0, none⟩) n n) (w.alloc (.cells (madeCells #[.int .u8 0, .string ByteArray.empty] (n * 2)) 69)) := by
  obtain ⟨i0, hi, hz0, hz1, hz2⟩ := info_parts Tryd.infoMark
  have hr := run_make (P := Tryd.prog) w 49 69 i0 _ Tryd.underlying49 hi hz0 kl kc n n (by omega) (Int.le_refl _) (by rw [hz2]; omega) (by omega)
  rw [hz1] at hr
  exact hr

theorem swm_getD (ms : List (Int × ByteArray)) (j : Nat) (hj : j < ms.length) : (swm ms).getD j (0, ByteArray.empty) = (sw (ms.getD j (0, ByteArray.empty)).1, (ms.getD j (0, ByteArray.empty)).2) := by
  unfold swm
  simp [hj]

end Go.Proofs.YtfmhapajdnmhoafDoor
namespace Go.Proofs.YtfmhapajdnmhoafDoor
open Go.RowKit Dist

/-- A row of hunks that a call has made, each with marks that lie in a block of their own. -/
def HOwn (w : World) (B : Nat) (v : Value) (hs : List (Int × Int × List (Int × ByteArray))) : Prop :=
  ∃ xs : List Value, w.ownsRow B 51 3 v hs.length xs ∧ ∀ i, i < hs.length → ∃ g cap, xs[i * 3]? = some (.int .i64 (hs.getD i (0, 0, [])).1) ∧ xs[i * 3 + 1]? = some (.int .i64 (hs.getD i (0, 0, [])).2.1) ∧ xs[i * 3 + 2]? = some (.slice (some ⟨g, 0, none⟩) (hs.getD i (0, 0, [])).2.2.length cap) ∧ v.ownBlock ≠ some g ∧ g < w.heap.size ∧ Mks w (some ⟨g, 0, none⟩) (hs.getD i (0, 0, [])).2.2 ∧ (hs.getD i (0, 0, [])).2.2.length ≤ cap ∧ B ≤ g

theorem HOwn.zero (w : World) (B : Nat) : HOwn w B (.slice none 0 0) [] := ⟨[], World.ownsRow_nil w B _ _, fun _ hi => absurd hi (Nat.not_lt_zero _)⟩

theorem HOwn.below {w w' : World} {B : Nat} {v : Value} {hs : List (Int × Int × List (Int × ByteArray))} (h : HOwn w B v hs) (hb : Below w.heap.size w w') : HOwn w' B v hs := by
  obtain ⟨xs, h1, h2⟩ := h
  refine ⟨xs, own_later h1 hb, fun i hi => ?_⟩
  obtain ⟨g, cap, a1, a2, a3, a4, a5, a6, a7, a8⟩ := h2 i hi
  exact ⟨g, cap, a1, a2, a3, a4, Nat.lt_of_lt_of_le a5 hb.size, a6.below hb, a7, a8⟩

theorem Mks.grown {w w' : World} {g : Nat} {ms : List (Int × ByteArray)} {row : Option Nat} (h : Mks w (some ⟨g, 0, none⟩) ms) (hg : w.grownBy w' row) (hne : row ≠ some g) : Mks w' (some ⟨g, 0, none⟩) ms := by
  intro i hi
  obtain ⟨b, off, e, h1, h2⟩ := h i hi
  obtain rfl : g = b := by
    have := congrArg (fun o => o.map Addr.block) e
    simpa using this
  exact ⟨g, off, e, hg.cell h1 (fun e => hne e.symm), hg.cell h2 (fun e => hne e.symm)⟩

/-- A hunk more. -/
theorem HOwn.snoc {w w' : World} {B : Nat} {v v' : Value} {hs : List (Int × Int × List (Int × ByteArray))} {xs : List Value} {o p : Int} {ms : List (Int × ByteArray)} {g cap : Nat}
    (hown : w.ownsRow B 51 3 v hs.length xs)
    (h2 : ∀ i, i < hs.length → ∃ g cap, xs[i * 3]? = some (.int .i64 (hs.getD i (0, 0, [])).1) ∧ xs[i * 3 + 1]? = some (.int .i64 (hs.getD i (0, 0, [])).2.1) ∧ xs[i * 3 + 2]? = some (.slice (some ⟨g, 0, none⟩) (hs.getD i (0, 0, [])).2.2.length cap) ∧ v.ownBlock ≠ some g ∧ g < w.heap.size ∧ Mks w (some ⟨g, 0, none⟩) (hs.getD i (0, 0, [])).2.2 ∧ (hs.getD i (0, 0, [])).2.2.length ≤ cap ∧ B ≤ g)
    (hown' : w'.ownsRow B 51 3 v' (hs.length + 1) (xs ++ [.int .i64 o, .int .i64 p, .slice (some ⟨g, 0, none⟩) ms.length cap])) (hg : w.grownBy w' v.ownBlock) (hv : v'.ownBlock = v.ownBlock ∨ v'.ownBlock = some w.heap.size)
    (hgl : g < w.heap.size) (hgv : v.ownBlock ≠ some g) (hmk : Mks w (some ⟨g, 0, none⟩) ms) (hcp : ms.length ≤ cap) (hgB : B ≤ g) : HOwn w' B v' (hs ++ [(o, p, ms)]) := by
  have hne : ∀ {x : Nat}, x < w.heap.size → v.ownBlock ≠ some x → v'.ownBlock ≠ some x := by
    intro x hx hvx e
    rcases hv with h | h
    · exact hvx (h ▸ e)
    · rw [h] at e; simp at e; omega
  refine ⟨_, by rw [List.length_append]; exact hown', fun i hi => ?_⟩
  rw [List.length_append] at hi
  simp only [List.length_cons, List.length_nil, Nat.zero_add] at hi
  have hl := hown.1
  by_cases e : i < hs.length
  · obtain ⟨g1, c1, a1, a2, a3, a4, a5, a6, a7, a8⟩ := h2 i e
    have e2 : (hs ++ [(o, p, ms)]).getD i (0, 0, []) = hs.getD i (0, 0, []) := by simp [List.getElem?_append, e]
    rw [e2, List.getElem?_append_left (by omega), List.getElem?_append_left (by omega), List.getElem?_append_left (by omega)]
    exact ⟨g1, c1, a1, a2, a3, hne a5 a4, Nat.lt_of_lt_of_le a5 hg.size, a6.grown hg a4, a7, a8⟩
  · obtain rfl : i = hs.length := by omega
    have e2 : (hs ++ [(o, p, ms)]).getD hs.length (0, 0, []) = (o, p, ms) := by simp
    rw [e2, List.getElem?_append_right (by omega), List.getElem?_append_right (by omega), List.getElem?_append_right (by omega), hl]
    refine ⟨g, cap, by simp, by simp, by simp, hne hgl hgv, Nat.lt_of_lt_of_le hgl hg.size, hmk.grown hg hgv, hcp, hgB⟩

theorem HOwn.hks {w : World} {B : Nat} {v : Value} {hs : List (Int × Int × List (Int × ByteArray))} (h : HOwn w B v hs) : ∃ a cap, v = .slice a hs.length cap ∧ Hks w a hs := by
  obtain ⟨xs, hown, h2⟩ := h
  rcases hown.2 with ⟨rfl, h0⟩ | ⟨g, cap, cur, rfl, hB, hh, _, _, hcs, ht⟩
  · have : hs = [] := List.length_eq_zero_iff.1 h0
    subst this
    exact ⟨_, 0, rfl, Hks.nil _ _⟩
  · refine ⟨some ⟨g, 0, none⟩, cap, rfl, fun i hi => ?_⟩
    obtain ⟨g1, c1, a1, a2, a3, _, _, a6, a7, _⟩ := h2 i hi
    have hc : ∀ j, j < hs.length * 3 → w.cell? ⟨g, j, none⟩ = xs[j]? := fun j hj => by
      rw [Lib.cell_of_heap hh, ← Array.getElem?_toList, ← ht, List.getElem?_take, if_pos hj]
    refine ⟨g, 0, some ⟨g1, 0, none⟩, c1, rfl, ?_, ?_, ?_, a6, a7⟩
    · rw [Nat.zero_add, hc _ (by omega)]; exact a1
    · rw [Nat.zero_add, hc _ (by omega)]; exact a2
    · rw [Nat.zero_add, hc _ (by omega)]; exact a3

theorem Tryd.infoHunk : (Tryd.prog.info? 51).map (fun i => (i.zero, i.size, i.bytes)) = some (some (.agg #[.int .i64 0, .int .i64 0, .slice none 0 0]), 3, 40) := by kernel_rfl

theorem cell_three_new (w : World) (x y z : Value) (t : TypeId) : ∀ j u, [x, y, z][j]? = some u → (w.alloc (.cells #[x, y, z] t)).cell? ((⟨w.heap.size, 0, none⟩ : Addr).add j) = some u := by
  intro j u hj
  have hblk := heap_alloc_new w (.cells #[x, y, z] t)
  match j, hj with
  | 0, hj =>
    simp at hj
    subst hj
    exact Lib.cell_of_heap hblk 0
  | 1, hj =>
    simp at hj
    subst hj
    exact Lib.cell_of_heap hblk 1
  | 2, hj =>
    simp at hj
    subst hj
    exact Lib.cell_of_heap hblk 2

theorem HOwn.mono {w : World} {B B' : Nat} {v : Value} {hs : List (Int × Int × List (Int × ByteArray))} (h : HOwn w B v hs) (hb : B' ≤ B) : HOwn w B' v hs := by
  obtain ⟨xs, h1, h2⟩ := h
  refine ⟨xs, ⟨h1.1, ?_⟩, fun i hi => ?_⟩
  rotate_left
  · obtain ⟨g1, c1, a1, a2, a3, a4, a5, a6, a7, a8⟩ := h2 i hi
    exact ⟨g1, c1, a1, a2, a3, a4, a5, a6, a7, Nat.le_trans hb a8⟩
  rcases h1.2 with h0 | ⟨g, cap, cur, hv, hB, hr⟩
  · exact .inl h0
  · exact .inr ⟨g, cap, cur, hv, Nat.le_trans hb hB, hr⟩

/-- Hunks that a call has made stand, whatever becomes of a block that lay there before. -/
theorem HOwn.stays {w w' : World} {B : Nat} {v : Value} {hs : List (Int × Int × List (Int × ByteArray))} {row : Option Nat} (h : HOwn w B v hs) (hg : w.grownBy w' row) (hr : ∀ r, row = some r → r < B) : HOwn w' B v hs := by
  obtain ⟨xs, h1, h2⟩ := h
  refine ⟨xs, ⟨h1.1, ?_⟩, fun i hi => ?_⟩
  · rcases h1.2 with h0 | ⟨g, cap, cur, hv, hB, hh, r⟩
    · exact .inl h0
    · refine .inr ⟨g, cap, cur, hv, hB, ?_, r⟩
      have hlt : g < w.heap.size := by
        by_cases e : g < w.heap.size
        · exact e
        · rw [Array.getElem?_eq_none (by omega)] at hh; cases hh
      rw [hg.block g hlt (fun e => by have := hr g e.symm; omega)]
      exact hh
  · obtain ⟨g1, c1, a1, a2, a3, a4, a5, a6, a7, a8⟩ := h2 i hi
    exact ⟨g1, c1, a1, a2, a3, a4, Nat.lt_of_lt_of_le a5 hg.size, a6.grown hg (fun e => by have := hr g1 e; omega), a7, a8⟩

theorem HOwn.room {w : World} {B : Nat} {v : Value} {hs : List (Int × Int × List (Int × ByteArray))} (h : HOwn w B v hs) : ∃ a cap, v = .slice a hs.length cap ∧ Hks w a hs ∧ hs.length ≤ cap := by
  obtain ⟨a, cap, e, hk⟩ := h.hks
  obtain ⟨xs, h1, h2⟩ := h
  refine ⟨a, cap, e, hk, ?_⟩
  rcases h1.2 with ⟨e1, e2⟩ | ⟨g, cap', cur, hv, _, _, h3, _⟩
  · omega
  · rw [e] at hv
    simp only [Value.slice.injEq] at hv
    omega

end Go.Proofs.YtfmhapajdnmhoafDoor
