/-
  The document's own answer for a script in pieces: which marks are near, mark by mark; rows of hunks of which the last one's marks are lengthened.
-/
import Derived.Test.YtmidbhikhbbpbacDoorRefT
import Derived.Test.YtmidbhikhbbpbacDoorTurn
import Derived.Test.YtmidbhikhbbpbacDoorRefE
import Derived.Deep.RegionHeld3
import Derived.Deep.RegionLaw

namespace Go.Proofs.YtmidbhikhbbpbacDoor
open Go.RowKit Dist

attribute [local go_sem] Go.wp_at_zero Go.wp_at_succ

/-- Of the first marks one that changes something is near. -/
def nt (ms : List (Int × ByteArray)) (n i t : Nat) : Bool := (List.range t).any fun k => (ms.getD k (0, ByteArray.empty)).1 != 32 && (decide (k ≤ i + n) && decide (i ≤ k + n))

theorem nt_succ (ms : List (Int × ByteArray)) (n i t : Nat) : nt ms n i (t + 1) = (nt ms n i t || ((ms.getD t (0, ByteArray.empty)).1 != 32 && (decide (t ≤ i + n) && decide (i ≤ t + n)))) := by
  unfold nt; rw [List.range_succ, List.any_append]; simp

/-- The mark at i itself, or one of the first t. -/
def ni (ms : List (Int × ByteArray)) (n i t : Nat) : Bool := (ms.getD i (0, ByteArray.empty)).1 != 32 || nt ms n i t

theorem ni_near (ms : List (Int × ByteArray)) (n i : Nat) (hi : i < ms.length) : ni ms n i ms.length = near ms n i := by
  have e : nt ms n i ms.length = near ms n i := by unfold near nt; rw [decide_eq_true hi, Bool.true_and]
  unfold ni
  rw [e]
  by_cases h : (ms.getD i (0, ByteArray.empty)).1 = 32
  · rw [h]; simp
  · have : near ms n i = true := (near_iff _ _ _).2 ⟨hi, i, hi, h, by omega, by omega⟩
    rw [this]; simp

/-- The row of hunks, the last one's marks in a row that grows. -/
def COwn (w : World) (B : Nat) (v : Value) (hs : List (Int × Int × List (Int × ByteArray))) (o p : Int) (cur : List (Int × ByteArray)) : Prop :=
  ∃ (xs : List Value) (vl : Value) (g c B1 : Nat), v = .slice (some ⟨g, 0, none⟩) (hs.length + 1) c ∧ w.ownsRow B 80 3 v (hs.length + 1) (xs ++ [.int .i64 o, .int .i64 p, vl]) ∧ g < B1 ∧ B1 ≤ w.heap.size ∧ w.ownsRow B1 82 2 vl cur.length (mcells cur) ∧ xs.length = hs.length * 3 ∧
    ∀ i, i < hs.length → ∃ gm cap, xs[i * 3]? = some (.int .i64 (hs.getD i (0, 0, [])).1) ∧ xs[i * 3 + 1]? = some (.int .i64 (hs.getD i (0, 0, [])).2.1) ∧ xs[i * 3 + 2]? = some (.slice (some ⟨gm, 0, none⟩) (hs.getD i (0, 0, [])).2.2.length cap) ∧ gm ≠ g ∧ gm < B1 ∧ Mks w (some ⟨gm, 0, none⟩) (hs.getD i (0, 0, [])).2.2 ∧ (hs.getD i (0, 0, [])).2.2.length ≤ cap ∧ B ≤ gm

theorem COwn.below {w w' : World} {B : Nat} {v : Value} {hs : List (Int × Int × List (Int × ByteArray))} {o p : Int} {cur : List (Int × ByteArray)} (h : COwn w B v hs o p cur) (hb : Below w.heap.size w w') : COwn w' B v hs o p cur := by
  obtain ⟨xs, vl, g, c, B1, hv, h1, h2, h3, h4, h5, h6⟩ := h
  refine ⟨xs, vl, g, c, B1, hv, own_later h1 hb, h2, Nat.le_trans h3 hb.size, own_later h4 hb, h5, fun i hi => ?_⟩
  obtain ⟨gm, cap, a1, a2, a3, a4, a5, a6, a7, a8⟩ := h6 i hi
  exact ⟨gm, cap, a1, a2, a3, a4, a5, a6.below hb, a7, a8⟩

/-- The last hunk's marks are full: it is a hunk like the others. -/
theorem COwn.shut {w : World} {B : Nat} {v : Value} {hs : List (Int × Int × List (Int × ByteArray))} {o p : Int} {cur : List (Int × ByteArray)} (h : COwn w B v hs o p cur) (hc : 0 < cur.length) : HOwn w B v (hs ++ [(o, p, cur)]) := by
  obtain ⟨xs, vl, g, c, B1, rfl, h1, h2, h3, h4, h5, h6⟩ := h
  obtain ⟨gl, cl', rfl, hg1, hg2⟩ := h4.form hc
  have hcl : cur.length ≤ cl' := by
    rcases h4.2 with ⟨e, _⟩ | ⟨_, _, _, e, _, _, h7, _⟩
    · simp at e
    · simp only [Value.slice.injEq] at e; omega
  obtain ⟨a', cap', ea, hmk⟩ := mks_of_own h4
  simp only [Value.slice.injEq] at ea
  rw [← ea.1] at hmk
  refine ⟨_, by rw [List.length_append]; exact h1, fun i hi => ?_⟩
  rw [List.length_append] at hi
  simp only [List.length_cons, List.length_nil, Nat.zero_add] at hi
  have hob : ∀ {x y z : Nat}, (Value.slice (some ⟨g, 0, none⟩) y z).ownBlock ≠ some x ↔ x ≠ g := fun {x y z} => by
    simp [Value.ownBlock]; exact ⟨fun h e => h e.symm, fun h e => h e.symm⟩
  by_cases e : i < hs.length
  · obtain ⟨g1, c1, a1, a2, a3, a4, a5, a6, a7, a8⟩ := h6 i e
    have e2 : (hs ++ [(o, p, cur)]).getD i (0, 0, []) = hs.getD i (0, 0, []) := by simp [List.getElem?_append, e]
    rw [e2, List.getElem?_append_left (by omega), List.getElem?_append_left (by omega), List.getElem?_append_left (by omega)]
    exact ⟨g1, c1, a1, a2, a3, hob.2 a4, by omega, a6, a7, a8⟩
  · obtain rfl : i = hs.length := by omega
    have e2 : (hs ++ [(o, p, cur)]).getD hs.length (0, 0, []) = (o, p, cur) := by simp
    rw [e2, List.getElem?_append_right (by omega), List.getElem?_append_right (by omega), List.getElem?_append_right (by omega), h5]
    exact ⟨gl, cl', by simp, by simp, by simp, hob.2 (by omega), hg2, hmk, hcl, by have := (h1.lt g rfl).1; omega⟩

/-- A hunk is opened. -/
theorem COwn.begin {w w' : World} {B g c : Nat} {v : Value} {hs : List (Int × Int × List (Int × ByteArray))} {xs : List Value} {o p : Int}
    (hown : w.ownsRow B 80 3 v hs.length xs)
    (h2 : ∀ i, i < hs.length → ∃ g cap, xs[i * 3]? = some (.int .i64 (hs.getD i (0, 0, [])).1) ∧ xs[i * 3 + 1]? = some (.int .i64 (hs.getD i (0, 0, [])).2.1) ∧ xs[i * 3 + 2]? = some (.slice (some ⟨g, 0, none⟩) (hs.getD i (0, 0, [])).2.2.length cap) ∧ v.ownBlock ≠ some g ∧ g < w.heap.size ∧ Mks w (some ⟨g, 0, none⟩) (hs.getD i (0, 0, [])).2.2 ∧ (hs.getD i (0, 0, [])).2.2.length ≤ cap ∧ B ≤ g)
    (hown' : w'.ownsRow B 80 3 (.slice (some ⟨g, 0, none⟩) (hs.length + 1) c) (hs.length + 1) (xs ++ [.int .i64 o, .int .i64 p, .slice none 0 0])) (hg : w.grownBy w' v.ownBlock) (hv : v.ownBlock = some g ∨ g = w.heap.size) (hlt : g < w'.heap.size) :
    COwn w' B (.slice (some ⟨g, 0, none⟩) (hs.length + 1) c) hs o p [] := by
  refine ⟨xs, .slice none 0 0, g, c, w'.heap.size, rfl, hown', hlt, Nat.le_refl _, World.ownsRow_nil _ _ _ _, hown.1, fun i hi => ?_⟩
  obtain ⟨g1, c1, a1, a2, a3, a4, a5, a6, a7, a8⟩ := h2 i hi
  refine ⟨g1, c1, a1, a2, a3, ?_, Nat.lt_of_lt_of_le a5 hg.size, a6.grown hg a4, a7, a8⟩
  intro e
  rcases hv with h | h
  · exact a4 (by rw [h, e])
  · omega

/-- A mark more in the last hunk. -/
theorem COwn.push {w W2 w3 : World} {B g c B1 X : Nat} {xs : List Value} {vl vl' : Value} {hs : List (Int × Int × List (Int × ByteArray))} {o p : Int} {cur : List (Int × ByteArray)} {c' : Int} {t : ByteArray}
    (h1 : w.ownsRow B 80 3 (.slice (some ⟨g, 0, none⟩) (hs.length + 1) c) (hs.length + 1) (xs ++ [.int .i64 o, .int .i64 p, vl])) (h2 : g < B1) (h3 : B1 ≤ w.heap.size) (h4 : w.ownsRow B1 82 2 vl cur.length (mcells cur)) (h5 : xs.length = hs.length * 3)
    (h6 : ∀ i, i < hs.length → ∃ gm cap, xs[i * 3]? = some (.int .i64 (hs.getD i (0, 0, [])).1) ∧ xs[i * 3 + 1]? = some (.int .i64 (hs.getD i (0, 0, [])).2.1) ∧ xs[i * 3 + 2]? = some (.slice (some ⟨gm, 0, none⟩) (hs.getD i (0, 0, [])).2.2.length cap) ∧ gm ≠ g ∧ gm < B1 ∧ Mks w (some ⟨gm, 0, none⟩) (hs.getD i (0, 0, [])).2.2 ∧ (hs.getD i (0, 0, [])).2.2.length ≤ cap ∧ B ≤ gm)
    (hb2 : Below w.heap.size w W2) (hX : w.heap.size ≤ X) (hX2 : X < W2.heap.size) (hgrow : W2.grownBy w3 vl.ownBlock) (hown3 : w3.ownsRow B1 82 2 vl' (cur.length + 1) (mcells cur ++ [.int .u8 c', .string t])) (hat : vl'.ownBlock = vl.ownBlock ∨ vl'.ownBlock = some W2.heap.size) :
    COwn ((((w3.setCell ⟨X, 2, none⟩ vl').setCell ⟨g, hs.length * 3, none⟩ (.int .i64 o)).setCell ⟨g, hs.length * 3 + 1, none⟩ (.int .i64 p)).setCell ⟨g, hs.length * 3 + 2, none⟩ vl') B (.slice (some ⟨g, 0, none⟩) (hs.length + 1) c) hs o p (cur ++ [(c', t)]) := by
  have hgX : g ≠ X := by omega
  have hvb : ∀ y, vl.ownBlock = some y → B1 ≤ y ∧ y < w.heap.size := fun y hy => h4.lt y hy
  have hv'X : vl'.ownBlock ≠ some X := by
    intro e
    rcases hat with h | h
    · have := hvb X (by rw [← h]; exact e); omega
    · rw [h] at e; simp at e; omega
  have hv'g : vl'.ownBlock ≠ some g := by
    intro e
    have := (hown3.lt g e).1
    omega
  have hr1 : W2.ownsRow B 80 3 (.slice (some ⟨g, 0, none⟩) (hs.length + 1) c) (hs.length + 1) (xs ++ [.int .i64 o, .int .i64 p, vl]) := own_later h1 hb2
  have hr2 := hr1.kept hgrow (.inr (fun e => by have := (hvb g (by rw [← e]; rfl)).1; omega))
  have hr3 := own_ne hr2 (G := X) (i := 2) (by simp [Value.ownBlock]; exact hgX) vl'
  have hr4 := (((hr3.stored (hs.length * 3) (.int .i64 o)).1.stored (hs.length * 3 + 1) (.int .i64 p)).1.stored (hs.length * 3 + 2) vl').1
  refine ⟨xs, vl', g, c, B1, rfl, ?_, h2, ?_, ?_, h5, fun i hi => ?_⟩
  · have e : (((xs ++ [.int .i64 o, .int .i64 p, vl]).set (hs.length * 3) (.int .i64 o)).set (hs.length * 3 + 1) (.int .i64 p)).set (hs.length * 3 + 2) vl' = xs ++ [.int .i64 o, .int .i64 p, vl'] := by
      rw [← h5]; simp
    rw [e] at hr4
    exact hr4
  · simp
    have := hgrow.size
    have := hb2.size
    omega
  · rw [List.length_append, mcells_append]
    exact own_ne (own_ne (own_ne (own_ne hown3 hv'X _) hv'g _) hv'g _) hv'g _
  · obtain ⟨gm, cap, a1, a2, a3, a4, a5, a6, a7, a8⟩ := h6 i hi
    refine ⟨gm, cap, a1, a2, a3, a4, a5, ?_⟩
    have m1 := (a6.below hb2).grown hgrow (fun e => by have := (hvb gm e).1; omega)
    exact ⟨(((m1.other (show gm ≠ X by omega) _).other a4 _).other a4 _).other a4 _, a7, a8⟩

end Go.Proofs.YtmidbhikhbbpbacDoor
