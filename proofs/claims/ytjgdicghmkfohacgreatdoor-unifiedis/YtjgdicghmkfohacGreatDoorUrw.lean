/-
  Rows of hunks of which the last one's marks grow, and the block of what is still wanted.
-/
import Derived.Test.YtjgdicghmkfohacGreatDoorUbk
import Derived.Test.YtjgdicghmkfohacGreatDoorLess
import Derived.Test.YtjgdicghmkfohacGreatDoorHown
import Derived.Deep.AppendLies

namespace Go.Proofs.YtjgdicghmkfohacGreatDoor
open Go.RowKit Dist

/-- Hunks of a row whose marks lie in rows of their own, none in block r. -/
def Olds (w : World) (B : Nat) (hs : List Uk) (xs : List Value) (r : Option Nat) : Prop :=
  xs.length = hs.length * 3 ∧ ∀ i, i < hs.length → ∃ vm, xs[i * 3]? = some (.int .i64 (hs.getD i (0, 0, [])).1) ∧ xs[i * 3 + 1]? = some (.int .i64 (hs.getD i (0, 0, [])).2.1) ∧ xs[i * 3 + 2]? = some vm ∧ w.ownsRow B 39 2 vm (hs.getD i (0, 0, [])).2.2.length (mcells (hs.getD i (0, 0, [])).2.2) ∧ (vm.ownBlock = none ∨ vm.ownBlock ≠ r)

/-- A row of hunks, the last one open. -/
def Rop (w : World) (B : Nat) (v : Value) (hs : List Uk) (o p : Int) (cur : List (Int × ByteArray)) : Prop :=
  ∃ (xs : List Value) (vl : Value), w.ownsRow B 42 3 v (hs.length + 1) (xs ++ [.int .i64 o, .int .i64 p, vl]) ∧ w.ownsRow B 39 2 vl cur.length (mcells cur) ∧ Olds w B hs xs vl.ownBlock

/-- A row of hunks. -/
def Rcl (w : World) (B : Nat) (v : Value) (hs : List Uk) : Prop :=
  ∃ xs : List Value, w.ownsRow B 42 3 v hs.length xs ∧ Olds w B hs xs none

theorem own_slc {w : World} {B : Nat} {e : TypeId} {k : Nat} {v : Value} {n : Nat} {xs : List Value} (h : w.ownsRow B e k v n xs) : ∃ a m c, v = .slice a m c := by
  rcases h.2 with ⟨h0, _⟩ | ⟨g, cap, cur, hv, _⟩
  · exact ⟨_, _, _, h0⟩
  · exact ⟨_, _, _, hv⟩

theorem own_type {w : World} {B : Nat} {e : TypeId} {k : Nat} {v : Value} {n : Nat} {xs : List Value} (h : w.ownsRow B e k v n xs) {g : Nat} (hg : v.ownBlock = some g) : ∃ (cs : Array Value) (fr : Nat × Nat), w.heap[g]? = some (.cells cs e fr) := by
  rcases h.2 with ⟨rfl, _⟩ | ⟨g', cap, cur, rfl, _, hgg, _⟩
  · simp [Value.ownBlock] at hg
  · simp [Value.ownBlock] at hg
    subst hg
    exact ⟨cur, (0, 0), hgg⟩

/-- Rows of two types lie in two blocks. -/
theorem own_two {w : World} {B B' : Nat} {e e' : TypeId} {k k' : Nat} {v v' : Value} {n n' : Nat} {xs xs' : List Value} (h : w.ownsRow B e k v n xs) (h' : w.ownsRow B' e' k' v' n' xs') (hne : e ≠ e') : v.ownBlock = none ∨ v.ownBlock ≠ v'.ownBlock := by
  cases hv : v.ownBlock with
  | none => exact .inl rfl
  | some g =>
    refine .inr fun e0 => ?_
    obtain ⟨c1, f1, h1⟩ := own_type h hv
    obtain ⟨c2, f2, h2⟩ := own_type h' e0.symm
    rw [h1] at h2
    simp only [Option.some.injEq, Obj.cells.injEq] at h2
    exact hne h2.2.1

/-- A store into a block of another type. -/
theorem own_set {w : World} {B : Nat} {e : TypeId} {k : Nat} {v : Value} {n : Nat} {xs : List Value} (h : w.ownsRow B e k v n xs) {G i : Nat} {cs : Array Value} {t : TypeId} {fr : Nat × Nat} (hG : w.heap[G]? = some (.cells cs t fr)) (hne : e ≠ t) (x : Value) : (w.setCell ⟨G, i, none⟩ x).ownsRow B e k v n xs := by
  refine own_ne h (fun e0 => ?_) x
  obtain ⟨c1, f1, h1⟩ := own_type h e0
  rw [hG] at h1
  simp only [Option.some.injEq, Obj.cells.injEq] at h1
  exact hne h1.2.1.symm

theorem Olds.mono {w w' : World} {B : Nat} {hs : List Uk} {xs : List Value} {r r' : Option Nat} (h : Olds w B hs xs r)
    (hk : ∀ vm n ms, w.ownsRow B 39 2 vm n (mcells ms) → (vm.ownBlock = none ∨ vm.ownBlock ≠ r) → w'.ownsRow B 39 2 vm n (mcells ms) ∧ (vm.ownBlock = none ∨ vm.ownBlock ≠ r')) : Olds w' B hs xs r' := by
  refine ⟨h.1, fun i hi => ?_⟩
  obtain ⟨vm, a1, a2, a3, a4, a5⟩ := h.2 i hi
  obtain ⟨b4, b5⟩ := hk vm _ _ a4 a5
  exact ⟨vm, a1, a2, a3, b4, b5⟩

theorem Olds.below {w w' : World} {B : Nat} {hs : List Uk} {xs : List Value} {r : Option Nat} (h : Olds w B hs xs r) (hb : Below w.heap.size w w') : Olds w' B hs xs r :=
  h.mono fun _ _ _ h1 h2 => ⟨own_later h1 hb, h2⟩

theorem Rop.below {w w' : World} {B : Nat} {v : Value} {hs : List Uk} {o p : Int} {cur : List (Int × ByteArray)} (h : Rop w B v hs o p cur) (hb : Below w.heap.size w w') : Rop w' B v hs o p cur := by
  obtain ⟨xs, vl, h1, h2, h3⟩ := h
  exact ⟨xs, vl, own_later h1 hb, own_later h2 hb, h3.below hb⟩

theorem Rcl.below {w w' : World} {B : Nat} {v : Value} {hs : List Uk} (h : Rcl w B v hs) (hb : Below w.heap.size w w') : Rcl w' B v hs := by
  obtain ⟨xs, h1, h2⟩ := h
  exact ⟨xs, own_later h1 hb, h2.below hb⟩

/-- A store into a block of another type. -/
theorem Rop.set {w : World} {B : Nat} {v : Value} {hs : List Uk} {o p : Int} {cur : List (Int × ByteArray)} (h : Rop w B v hs o p cur) {G i : Nat} {cs : Array Value} {t : TypeId} {fr : Nat × Nat} (hG : w.heap[G]? = some (.cells cs t fr)) (h1 : 42 ≠ t) (h2 : 39 ≠ t) (x : Value) : Rop (w.setCell ⟨G, i, none⟩ x) B v hs o p cur := by
  obtain ⟨xs, vl, a1, a2, a3⟩ := h
  exact ⟨xs, vl, own_set a1 hG h1 x, own_set a2 hG h2 x, a3.mono fun _ _ _ b1 b2 => ⟨own_set b1 hG h2 x, b2⟩⟩

theorem Rcl.set {w : World} {B : Nat} {v : Value} {hs : List Uk} (h : Rcl w B v hs) {G i : Nat} {cs : Array Value} {t : TypeId} {fr : Nat × Nat} (hG : w.heap[G]? = some (.cells cs t fr)) (h1 : 42 ≠ t) (h2 : 39 ≠ t) (x : Value) : Rcl (w.setCell ⟨G, i, none⟩ x) B v hs := by
  obtain ⟨xs, a1, a3⟩ := h
  exact ⟨xs, own_set a1 hG h1 x, a3.mono fun _ _ _ b1 b2 => ⟨own_set b1 hG h2 x, b2⟩⟩

theorem Rcl.zero (w : World) (B : Nat) : Rcl w B (.slice none 0 0) [] := ⟨[], World.ownsRow_nil w B _ _, rfl, fun _ hi => absurd hi (Nat.not_lt_zero _)⟩

/-- The last hunk is one like the others. -/
theorem Rop.shut {w : World} {B : Nat} {v : Value} {hs : List Uk} {o p : Int} {cur : List (Int × ByteArray)} (h : Rop w B v hs o p cur) : Rcl w B v (hs ++ [(o, p, cur)]) := by
  obtain ⟨xs, vl, h1, h2, h3, h4⟩ := h
  have any : ∀ r : Option Nat, r = none ∨ r ≠ none := fun r => by cases r <;> simp
  refine ⟨_, by rw [List.length_append]; exact h1, by simp [h3]; omega, fun i hi => ?_⟩
  rw [List.length_append] at hi
  simp only [List.length_cons, List.length_nil, Nat.zero_add] at hi
  by_cases e : i < hs.length
  · obtain ⟨vm, a1, a2, a3, a4, a5⟩ := h4 i e
    have e2 : (hs ++ [(o, p, cur)]).getD i (0, 0, []) = hs.getD i (0, 0, []) := by simp [List.getElem?_append, e]
    rw [e2, List.getElem?_append_left (by omega), List.getElem?_append_left (by omega), List.getElem?_append_left (by omega)]
    exact ⟨vm, a1, a2, a3, a4, any _⟩
  · obtain rfl : i = hs.length := by omega
    have e2 : (hs ++ [(o, p, cur)]).getD hs.length (0, 0, []) = (o, p, cur) := by simp
    rw [e2, List.getElem?_append_right (by omega), List.getElem?_append_right (by omega), List.getElem?_append_right (by omega), h3]
    exact ⟨vl, by simp, by simp, by simp, h2, any _⟩

/-- A hunk is opened: one is put behind the row. -/
theorem Rop.begin {w w' : World} {B : Nat} {v v' : Value} {hs : List Uk} {xs : List Value} {o p : Int} (h1 : w.ownsRow B 42 3 v hs.length xs) (h2 : Olds w B hs xs none)
    (hown : w'.ownsRow B 42 3 v' (hs.length + 1) (xs ++ [.int .i64 o, .int .i64 p, .slice none 0 0])) (hg : w.grownBy w' v.ownBlock) : Rop w' B v' hs o p [] :=
  ⟨xs, .slice none 0 0, hown, World.ownsRow_nil _ _ _ _, h2.mono fun _ _ _ b1 b2 => ⟨b1.kept hg (own_two b1 h1 (by decide)), b2⟩⟩

/-- A mark more in the last hunk: its row has grown, and is stored. -/
theorem Rop.push {w w3 : World} {B g c : Nat} {xs : List Value} {vl vl' : Value} {hs : List Uk} {o p : Int} {cur : List (Int × ByteArray)} {m : Int × ByteArray}
    (h1 : w.ownsRow B 42 3 (.slice (some ⟨g, 0, none⟩) (hs.length + 1) c) (hs.length + 1) (xs ++ [.int .i64 o, .int .i64 p, vl])) (h2 : w.ownsRow B 39 2 vl cur.length (mcells cur)) (h3 : Olds w B hs xs vl.ownBlock)
    (hg : w.grownBy w3 vl.ownBlock) (hown : w3.ownsRow B 39 2 vl' (cur.length + 1) (mcells cur ++ [.int .u8 m.1, .string m.2])) (hat : vl'.ownBlock = vl.ownBlock ∨ vl'.ownBlock = some w.heap.size) :
    Rop (w3.setCell ⟨g, hs.length * 3 + 2, none⟩ vl') B (.slice (some ⟨g, 0, none⟩) (hs.length + 1) c) hs o p (cur ++ [m]) := by
  have hr1 := h1.kept hg (own_two h1 h2 (by decide))
  obtain ⟨cs, fr, hG⟩ := own_type hr1 (g := g) rfl
  have hr2 := (hr1.stored (hs.length * 3 + 2) vl').1
  refine ⟨xs, vl', ?_, ?_, ?_⟩
  · have e : (xs ++ [.int .i64 o, .int .i64 p, vl]).set (hs.length * 3 + 2) vl' = xs ++ [.int .i64 o, .int .i64 p, vl'] := by
      rw [← h3.1]; simp
    rw [e] at hr2; exact hr2
  · rw [List.length_append, mcells_append]
    exact own_set hown hG (by decide) _
  · refine h3.mono fun vm n ms b1 b2 => ⟨own_set (b1.kept hg b2) hG (by decide) _, ?_⟩
    rcases b2 with b2 | b2
    · exact .inl b2
    · refine .inr fun e => ?_
      rcases hat with h | h
      · exact b2 (e.trans h)
      · have := (b1.lt w.heap.size (e.trans h)).2
        omega

/-- What the reader's block holds. -/
def Rsb (w : World) (r : Nat) (v : Value) (b a : Int) : Prop := w.heap[r]? = some (.cells #[v, .int .i64 b, .int .i64 a] 116 (0, 0))

theorem Rsb.cells {w : World} {r : Nat} {v : Value} {b a : Int} (h : Rsb w r v b a) : w.cell? ⟨r, 0, none⟩ = some v ∧ w.cell? ⟨r, 1, none⟩ = some (.int .i64 b) ∧ w.cell? ⟨r, 2, none⟩ = some (.int .i64 a) ∧ w.frozen? ⟨r, 0, none⟩ = false ∧ w.frozen? ⟨r, 1, none⟩ = false ∧ w.frozen? ⟨r, 2, none⟩ = false :=
  ⟨Lib.cell_of_heap h 0, Lib.cell_of_heap h 1, Lib.cell_of_heap h 2, Lib.frozen_of_heap h 0, Lib.frozen_of_heap h 1, Lib.frozen_of_heap h 2⟩

theorem Rsb.lt {w : World} {r : Nat} {v : Value} {b a : Int} (h : Rsb w r v b a) : r < w.heap.size := by
  unfold Rsb at h
  by_cases e : r < w.heap.size
  · exact e
  · rw [Array.getElem?_eq_none (by omega)] at h; cases h

theorem Rsb.below {w w' : World} {r : Nat} {v : Value} {b a : Int} (h : Rsb w r v b a) (hb : Below w.heap.size w w') : Rsb w' r v b a := blk_below hb h.lt h

/-- What has been read, in memory. -/
def Rst (w : World) (B r : Nat) (st : Us) : Prop := B ≤ r ∧ ∃ v, Rsb w r v st.2.1 st.2.2 ∧ Rcl w B v st.1 ∧ ∀ hs h, st.1 = hs ++ [h] → Rop w B v hs h.1 h.2.1 h.2.2

theorem Rst.below {w w' : World} {B r : Nat} {st : Us} (h : Rst w B r st) (hb : Below w.heap.size w w') : Rst w' B r st := by
  obtain ⟨h0, v, h1, h2, h3⟩ := h
  exact ⟨h0, v, h1.below hb, h2.below hb, fun hs h e => (h3 hs h e).below hb⟩

theorem Rst.of {w : World} {B r : Nat} {v : Value} {hs : List Uk} {o p : Int} {cur : List (Int × ByteArray)} {n m : Nat} (h0 : B ≤ r) (h1 : Rsb w r v n m) (h2 : Rop w B v hs o p cur) : Rst w B r (hs ++ [(o, p, cur)], n, m) := by
  refine ⟨h0, v, h1, h2.shut, fun hs' h e => ?_⟩
  obtain ⟨e1, e2⟩ := List.append_inj' (show hs ++ [(o, p, cur)] = hs' ++ [h] from e) rfl
  simp only [List.cons.injEq, and_true] at e2
  subst e1 e2
  exact h2

end Go.Proofs.YtjgdicghmkfohacGreatDoor
