/-
  Rows of hunks of which the last one's marks grow, and the block of what is still wanted. Walks of the reader: isWhole, takeHead. Walk of the reader's takeMark.
-/
import Derived.Test.YtjgdicghmkfohadGreatDoorUbk
import Derived.Test.YtjgdicghmkfohadGreatDoorLess
import Derived.Test.YtjgdicghmkfohadGreatDoorHown
import Derived.Deep.AppendLies
import Derived.Test.YtjgdicghmkfohadGreatDoorUnm
import Derived.Deep.RegionHeld3
import Derived.Deep.RegionLaw
import Derived.Deep.DrawnRows
namespace Go.Proofs.YtjgdicghmkfohadGreatDoor
open Go.RowKit Dist

/-- Hunks of a row whose marks lie in rows of their own, none in block r. -/
def Olds (w : World) (B : Nat) (hs : List Uk) (xs : List Value) (r : Option Nat) : Prop :=
  xs.length = hs.length * 3 ∧ ∀ i, i < hs.length → ∃ vm, xs[i * 3]? = some (.int .i64 (hs.getD i (0, 0, [])).1) ∧ xs[i * 3 + 1]? = some (.int .i64 (hs.getD i (0, 0, [])).2.1) ∧ xs[i * 3 + 2]? = some vm ∧ w.ownsRow B 69 2 vm (hs.getD i (0, 0, [])).2.2.length (mcells (hs.getD i (0, 0, [])).2.2) ∧ (vm.ownBlock = none ∨ vm.ownBlock ≠ r)

/-- A row of hunks, the last one open. -/
def Rop (w : World) (B : Nat) (v : Value) (hs : List Uk) (o p : Int) (cur : List (Int × ByteArray)) : Prop :=
  ∃ (xs : List Value) (vl : Value), w.ownsRow B 45 3 v (hs.length + 1) (xs ++ [.int .i64 o, .int .i64 p, vl]) ∧ w.ownsRow B 69 2 vl cur.length (mcells cur) ∧ Olds w B hs xs vl.ownBlock

/-- A row of hunks. -/
def Rcl (w : World) (B : Nat) (v : Value) (hs : List Uk) : Prop :=
  ∃ xs : List Value, w.ownsRow B 45 3 v hs.length xs ∧ Olds w B hs xs none

theorem own_slc {w : World} {B : Nat} {e : TypeId} {k : Nat} {v : Value} {n : Nat} {xs : List Value} (h : w.ownsRow B e k v n xs) : ∃ a m c, v = .slice a m c := by
  rcases h.2 with ⟨h0, _⟩ | ⟨g, cap, cur, hv, _⟩
  · exact ⟨_, _, _, h0⟩
  · exact ⟨_, _, _, hv⟩

theorem own_type {w : World} {B : Nat} {e : TypeId} {k : Nat} {v : Value} {n : Nat} {xs : List Value} (h : w.ownsRow B e k v n xs) {g : Nat} (hg : v.ownBlock = some g) : ∃ (cs : Array Value) (fr : Nat × Nat), w.heap[g]? = some (.cells cs e fr) := by
  rcases h.2 with ⟨rfl, _⟩ | ⟨g', cap, cur, rfl, _, hgg, _⟩
  · simp [Value.ownBlock] at hg
  · simp [Value.ownBlock] at hg
    subst hg
    exact ⟨cur, (0, 0), hgg⟩

/-- Rows of two types lie in two blocks. -/
theorem own_two {w : World} {B B' : Nat} {e e' : TypeId} {k k' : Nat} {v v' : Value} {n n' : Nat} {xs xs' : List Value} (h : w.ownsRow B e k v n xs) (h' : w.ownsRow B' e' k' v' n' xs') (hne : e ≠ e') : v.ownBlock = none ∨ v.ownBlock ≠ v'.ownBlock := by
  cases hv : v.ownBlock with
  | none => exact .inl rfl
  | some g =>
    refine .inr fun e0 => ?_
    obtain ⟨c1, f1, h1⟩ := own_type h hv
    obtain ⟨c2, f2, h2⟩ := own_type h' e0.symm
    rw [h1] at h2
    simp only [Option.some.injEq, Obj.cells.injEq] at h2
    exact hne h2.2.1

/-- A store into a block of another type. -/
theorem own_set {w : World} {B : Nat} {e : TypeId} {k : Nat} {v : Value} {n : Nat} {xs : List Value} (h : w.ownsRow B e k v n xs) {G i : Nat} {cs : Array Value} {t : TypeId} {fr : Nat × Nat} (hG : w.heap[G]? = some (.cells cs t fr)) (hne : e ≠ t) (x : Value) : (w.setCell ⟨G, i, none⟩ x).ownsRow B e k v n xs := by
  refine own_ne h (fun e0 => ?_) x
  obtain ⟨c1, f1, h1⟩ := own_type h e0
  rw [hG] at h1
  simp only [Option.some.injEq, Obj.cells.injEq] at h1
  exact hne h1.2.1.symm

theorem Olds.mono {w w' : World} {B : Nat} {hs : List Uk} {xs : List Value} {r r' : Option Nat} (h : Olds w B hs xs r)
    (hk : ∀ vm n ms, w.ownsRow B 69 2 vm n (mcells ms) → (vm.ownBlock = none ∨ vm.ownBlock ≠ r) → w'.ownsRow B 69 2 vm n (mcells ms) ∧ (vm.ownBlock = none ∨ vm.ownBlock ≠ r')) : Olds w' B hs xs r' := by
  refine ⟨h.1, fun i hi => ?_⟩
  obtain ⟨vm, a1, a2, a3, a4, a5⟩ := h.2 i hi
  obtain ⟨b4, b5⟩ := hk vm _ _ a4 a5
  exact ⟨vm, a1, a2, a3, b4, b5⟩

theorem Olds.below {w w' : World} {B : Nat} {hs : List Uk} {xs : List Value} {r : Option Nat} (h : Olds w B hs xs r) (hb : Below w.heap.size w w') : Olds w' B hs xs r :=
  h.mono fun _ _ _ h1 h2 => ⟨own_later h1 hb, h2⟩

theorem Rop.below {w w' : World} {B : Nat} {v : Value} {hs : List Uk} {o p : Int} {cur : List (Int × ByteArray)} (h : Rop w B v hs o p cur) (hb : Below w.heap.size w w') : Rop w' B v hs o p cur := by
  obtain ⟨xs, vl, h1, h2, h3⟩ := h
  exact ⟨xs, vl, own_later h1 hb, own_later h2 hb, h3.below hb⟩

theorem Rcl.below {w w' : World} {B : Nat} {v : Value} {hs : List Uk} (h : Rcl w B v hs) (hb : Below w.heap.size w w') : Rcl w' B v hs := by
  obtain ⟨xs, h1, h2⟩ := h
  exact ⟨xs, own_later h1 hb, h2.below hb⟩

/-- A store into a block of another type. -/
theorem Rop.set {w : World} {B : Nat} {v : Value} {hs : List Uk} {o p : Int} {cur : List (Int × ByteArray)} (h : Rop w B v hs o p cur) {G i : Nat} {cs : Array Value} {t : TypeId} {fr : Nat × Nat} (hG : w.heap[G]? = some (.cells cs t fr)) (h1 : 45 ≠ t) (h2 : 69 ≠ t) (x : Value) : Rop (w.setCell ⟨G, i, none⟩ x) B v hs o p cur := by
  obtain ⟨xs, vl, a1, a2, a3⟩ := h
  exact ⟨xs, vl, own_set a1 hG h1 x, own_set a2 hG h2 x, a3.mono fun _ _ _ b1 b2 => ⟨own_set b1 hG h2 x, b2⟩⟩

theorem Rcl.set {w : World} {B : Nat} {v : Value} {hs : List Uk} (h : Rcl w B v hs) {G i : Nat} {cs : Array Value} {t : TypeId} {fr : Nat × Nat} (hG : w.heap[G]? = some (.cells cs t fr)) (h1 : 45 ≠ t) (h2 : 69 ≠ t) (x : Value) : Rcl (w.setCell ⟨G, i, none⟩ x) B v hs := by
  obtain ⟨xs, a1, a3⟩ := h
  exact ⟨xs, own_set a1 hG h1 x, a3.mono fun _ _ _ b1 b2 => ⟨own_set b1 hG h2 x, b2⟩⟩

theorem Rcl.zero (w : World) (B : Nat) : Rcl w B (.slice none 0 0) [] := ⟨[], World.ownsRow_nil w B _ _, rfl, fun _ hi => absurd hi (Nat.not_lt_zero _)⟩

/-- The last hunk is one like the others. -/
theorem Rop.shut {w : World} {B : Nat} {v : Value} {hs : List Uk} {o p : Int} {cur : List (Int × ByteArray)} (h : Rop w B v hs o p cur) : Rcl w B v (hs ++ [(o, p, cur)]) := by
  obtain ⟨xs, vl, h1, h2, h3, h4⟩ := h
  have any : ∀ r : Option Nat, r = none ∨ r ≠ none := fun r => by cases r <;> simp
  refine ⟨_, by rw [List.length_append]; exact h1, by simp [h3]; omega, fun i hi => ?_⟩
  rw [List.length_append] at hi
  simp only [List.length_cons, List.length_nil, Nat.zero_add] at hi
  by_cases e : i < hs.length
  · obtain ⟨vm, a1, a2, a3, a4, a5⟩ := h4 i e
    have e2 : (hs ++ [(o, p, cur)]).getD i (0, 0, []) = hs.getD i (0, 0, []) := by simp [List.getElem?_append, e]
    rw [e2, List.getElem?_append_left (by omega), List.getElem?_append_left (by omega), List.getElem?_append_left (by omega)]
    exact ⟨vm, a1, a2, a3, a4, any _⟩
  · obtain rfl : i = hs.length := by omega
    have e2 : (hs ++ [(o, p, cur)]).getD hs.length (0, 0, []) = (o, p, cur) := by simp
    rw [e2, List.getElem?_append_right (by omega), List.getElem?_append_right (by omega), List.getElem?_append_right (by omega), h3]
    exact ⟨vl, by simp, by simp, by simp, h2, any _⟩

/-- A hunk is opened: one is put behind the row. -/
theorem Rop.begin {w w' : World} {B : Nat} {v v' : Value} {hs : List Uk} {xs : List Value} {o p : Int} (h1 : w.ownsRow B 45 3 v hs.length xs) (h2 : Olds w B hs xs none)
    (hown : w'.ownsRow B 45 3 v' (hs.length + 1) (xs ++ [.int .i64 o, .int .i64 p, .slice none 0 0])) (hg : w.grownBy w' v.ownBlock) : Rop w' B v' hs o p [] :=
  ⟨xs, .slice none 0 0, hown, World.ownsRow_nil _ _ _ _, h2.mono fun _ _ _ b1 b2 => ⟨b1.kept hg (own_two b1 h1 (by decide)), b2⟩⟩

/-- A mark more in the last hunk: its row has grown, and is stored. -/
theorem Rop.push {w w3 : World} {B g c : Nat} {xs : List Value} {vl vl' : Value} {hs : List Uk} {o p : Int} {cur : List (Int × ByteArray)} {m : Int × ByteArray}
    (h1 : w.ownsRow B 45 3 (.slice (some ⟨g, 0, none⟩) (hs.length + 1) c) (hs.length + 1) (xs ++ [.int .i64 o, .int .i64 p, vl])) (h2 : w.ownsRow B 69 2 vl cur.length (mcells cur)) (h3 : Olds w B hs xs vl.ownBlock)
    (hg : w.grownBy w3 vl.ownBlock) (hown : w3.ownsRow B 69 2 vl' (cur.length + 1) (mcells cur ++ [.int .u8 m.1, .string m.2])) (hat : vl'.ownBlock = vl.ownBlock ∨ vl'.ownBlock = some w.heap.size) :
    Rop (w3.setCell ⟨g, hs.length * 3 + 2, none⟩ vl') B (.slice (some ⟨g, 0, none⟩) (hs.length + 1) c) hs o p (cur ++ [m]) := by
  have hr1 := h1.kept hg (own_two h1 h2 (by decide))
  obtain ⟨cs, fr, hG⟩ := own_type hr1 (g := g) rfl
  have hr2 := (hr1.stored (hs.length * 3 + 2) vl').1
  refine ⟨xs, vl', ?_, ?_, ?_⟩
  · have e : (xs ++ [.int .i64 o, .int .i64 p, vl]).set (hs.length * 3 + 2) vl' = xs ++ [.int .i64 o, .int .i64 p, vl'] := by
      rw [← h3.1]; simp
    rw [e] at hr2; exact hr2
  · rw [List.length_append, mcells_append]
    exact own_set hown hG (by decide) _
  · refine h3.mono fun vm n ms b1 b2 => ⟨own_set (b1.kept hg b2) hG (by decide) _, ?_⟩
    rcases b2 with b2 | b2
    · exact .inl b2
    · refine .inr fun e => ?_
      rcases hat with h | h
      · exact b2 (e.trans h)
      · have := (b1.lt w.heap.size (e.trans h)).2
        omega

/-- What the reader's block holds. -/
def Rsb (w : World) (r : Nat) (v : Value) (b a : Int) : Prop := w.heap[r]? = some (.cells #[v, .int .i64 b, .int .i64 a] 140 (0, 0))

theorem Rsb.cells {w : World} {r : Nat} {v : Value} {b a : Int} (h : Rsb w r v b a) : w.cell? ⟨r, 0, none⟩ = some v ∧ w.cell? ⟨r, 1, none⟩ = some (.int .i64 b) ∧ w.cell? ⟨r, 2, none⟩ = some (.int .i64 a) ∧ w.frozen? ⟨r, 0, none⟩ = false ∧ w.frozen? ⟨r, 1, none⟩ = false ∧ w.frozen? ⟨r, 2, none⟩ = false :=
  ⟨Lib.cell_of_heap h 0, Lib.cell_of_heap h 1, Lib.cell_of_heap h 2, Lib.frozen_of_heap h 0, Lib.frozen_of_heap h 1, Lib.frozen_of_heap h 2⟩

theorem Rsb.lt {w : World} {r : Nat} {v : Value} {b a : Int} (h : Rsb w r v b a) : r < w.heap.size := by
  unfold Rsb at h
  by_cases e : r < w.heap.size
  · exact e
  · rw [Array.getElem?_eq_none (by omega)] at h; cases h

theorem Rsb.below {w w' : World} {r : Nat} {v : Value} {b a : Int} (h : Rsb w r v b a) (hb : Below w.heap.size w w') : Rsb w' r v b a := blk_below hb h.lt h

/-- What has been read, in memory. -/
def Rst (w : World) (B r : Nat) (st : Us) : Prop := B ≤ r ∧ ∃ v, Rsb w r v st.2.1 st.2.2 ∧ Rcl w B v st.1 ∧ ∀ hs h, st.1 = hs ++ [h] → Rop w B v hs h.1 h.2.1 h.2.2

theorem Rst.below {w w' : World} {B r : Nat} {st : Us} (h : Rst w B r st) (hb : Below w.heap.size w w') : Rst w' B r st := by
  obtain ⟨h0, v, h1, h2, h3⟩ := h
  exact ⟨h0, v, h1.below hb, h2.below hb, fun hs h e => (h3 hs h e).below hb⟩

theorem Rst.of {w : World} {B r : Nat} {v : Value} {hs : List Uk} {o p : Int} {cur : List (Int × ByteArray)} {n m : Nat} (h0 : B ≤ r) (h1 : Rsb w r v n m) (h2 : Rop w B v hs o p cur) : Rst w B r (hs ++ [(o, p, cur)], n, m) := by
  refine ⟨h0, v, h1, h2.shut, fun hs' h e => ?_⟩
  obtain ⟨e1, e2⟩ := List.append_inj' (show hs ++ [(o, p, cur)] = hs' ++ [h] from e) rfl
  simp only [List.cons.injEq, and_true] at e2
  subst e1 e2
  exact h2

end Go.Proofs.YtjgdicghmkfohadGreatDoor
namespace Go.Proofs.YtjgdicghmkfohadGreatDoor
open Go.RowKit Dist

attribute [local go_sem] Go.wp_at_zero Go.wp_at_succ

set_option maxHeartbeats 400000 in
theorem isWhole (r : Nat) (v : Value) (b a : Nat) (w : World) (h : Rsb w r v b a) : Calls Tryz.prog 78 #[.pointer (some ⟨r, 0, none⟩)] w fun e w' => e = .returned (.bool (decide (b = 0 ∧ a = 0))) ∧ w' = w := by
  obtain ⟨_, c1, c2, _⟩ := h.cells
  by_cases h1 : b = 0
  · subst h1
    have e : decide (0 = 0 ∧ a = 0) = ((a : Int) == 0) := by rw [Bool.eq_iff_iff]; simp
    rw [e]
    clear e h
    go_enter Tryz.func78, Tryz.ntmps78
    go_wp2
    go_ret
    exact ⟨rfl, rfl⟩
  · have h2 : ((b : Int) == 0) = false := by simpa using h1
    rw [show decide (b = 0 ∧ a = 0) = false by simp [h1]]
    clear h h1
    go_enter Tryz.func78, Tryz.ntmps78
    go_wp2
    go_ret
    exact ⟨rfl, rfl⟩

theorem hdc_flag (a b : Option (Nat × Nat)) : (hdc a b).isSome = (a.isSome && b.isSome) := by
  cases a with
  | none => rfl
  | some x => cases b <;> rfl

/-- What the three cuts of a head answer. -/
theorem head_cuts (s : ByteArray) (w : World) (hg : Gs w) (hsz : s.size ≤ 400000) : ∃ (X1 X2 X3 : Bool) (x1 x2 y1 y2 : List UInt8),
    (Calls Tryz.prog 76 #[.string s, .string ⟨#[64, 64, 32, 45]⟩] w fun e w' => e = .returned (.tuple #[.string ⟨x1.toArray⟩, .bool X1]) ∧ w' = w) ∧
    (Calls Tryz.prog 100 #[.string ⟨x1.toArray⟩, .string ⟨#[32, 64, 64]⟩] w fun e w' => e = .returned (.tuple #[.string ⟨x2.toArray⟩, .bool X2]) ∧ w' = w) ∧
    (Calls Tryz.prog 101 #[.string ⟨x2.toArray⟩, .string ⟨#[32, 43]⟩] w fun e w' => e = .returned (.tuple #[.string ⟨y1.toArray⟩, .string ⟨y2.toArray⟩, .bool X3]) ∧ ∃ n, w' = w.drewN n) ∧
    (X1 && (X2 && X3)) = hfit s.data.toList ∧ (hfit s.data.toList = true → hdo s.data.toList = hdc (spo y1) (spo y2)) ∧ y1.length ≤ 400000 ∧ y2.length ≤ 400000 := by
  have hp1 := Tryz.strings_CutPrefix s ⟨#[64, 64, 32, 45]⟩ w
  rw [show (ByteArray.mk #[64, 64, 32, 45]).data.toList = [64, 64, 32, 45] from rfl] at hp1
  obtain ⟨mm, hmm⟩ := hg.1
  have hl1 : (Lib.trimPrefix s.data.toList [64, 64, 32, 45]).length ≤ 400000 := by
    rw [Lib.size_eq] at hsz
    unfold Lib.trimPrefix
    split
    · rw [List.length_drop]; omega
    · exact hsz
  have hl2 : (hin s.data.toList).length ≤ 400000 := by
    unfold hin Lib.trimSuffix
    split
    · rw [List.length_take]; omega
    · exact hl1
  have hp2 := Tryz.strings_CutSuffix ⟨(Lib.trimPrefix s.data.toList [64, 64, 32, 45]).toArray⟩ ⟨#[32, 64, 64]⟩ w (by rw [Lib.size_eq]; simp; omega)
  rw [show (ByteArray.mk #[32, 64, 64]).data.toList = [32, 64, 64] from rfl, show (ByteArray.mk (Lib.trimPrefix s.data.toList [64, 64, 32, 45]).toArray).data.toList = Lib.trimPrefix s.data.toList [64, 64, 32, 45] by simp] at hp2
  have hp3 := Tryz.strings_Cut ⟨(hin s.data.toList).toArray⟩ ⟨#[32, 43]⟩ mm w (by rw [Lib.size_eq]; simp; omega) hmm
  rw [show (ByteArray.mk #[32, 43]).data.toList = [32, 43] from rfl, show (ByteArray.mk (hin s.data.toList).toArray).data.toList = hin s.data.toList by simp] at hp3
  refine ⟨_, _, _, _, _, _, _, hp1, hp2, hp3, rfl, fun h => ?_, ?_⟩
  · unfold hdo; rw [if_pos h]
  · unfold Lib.cut
    split
    · simp only [List.length_take, List.length_drop]; omega
    · simp; omega

set_option maxRecDepth 100000 in
set_option maxHeartbeats 1000000 in
theorem takeHead_no (B r : Nat) (s : ByteArray) (w : World) (hg : Gs w) (hsz : s.size ≤ 400000) (hf : hfit s.data.toList = false) :
    Calls Tryz.prog 90 #[.pointer (some ⟨r, 0, none⟩), .string s] w fun e w' => e = .returned (.bool false) ∧ Below B w w' := by
  obtain ⟨X1, X2, X3, x1, x2, y1, y2, hp1, hp2, hp3, hx, _⟩ := head_cuts s w hg hsz
  rw [hf] at hx
  have hp3' := hp3.mono (R' := fun e w' => e = .returned (.tuple #[.string ⟨y1.toArray⟩, .string ⟨y2.toArray⟩, .bool X3]) ∧ Below B w w') fun e w' ⟨he, q, hw⟩ => ⟨he, by rw [hw]; exact below_drawn (Below.refl _ _)⟩
  clear hp3 hf hg hsz
  cases X1
  case' true =>
    cases X2
    case' true => cases X3
    case' true.true => simp at hx
  all_goals
    clear hx
    go_enter Tryz.func90, Tryz.ntmps90
    go_wp2_with (go_at_call 76; refine hp1.mono ?_; rintro e w' ⟨rfl, hw⟩; rw [hw])
    clear hp1
    go_wp2_with (go_at_call 100; refine hp2.mono ?_; rintro e w' ⟨rfl, hw⟩; rw [hw])
    clear hp2
    go_wp2_with (go_at_call 101; refine hp3'.mono ?_; rintro e w1 ⟨rfl, hb1⟩)
    go_ret
    exact ⟨rfl, hb1⟩

theorem hdc_none {a b : Option (Nat × Nat)} (h : hdc a b = none) : (a.isSome && b.isSome) = false := by rw [← hdc_flag, h]; rfl

theorem hdc_some {a b : Option (Nat × Nat)} {o n p m : Nat} (h : hdc a b = some (o, n, p, m)) : a = some (o, n) ∧ b = some (p, m) := by
  cases a with
  | none => simp [hdc] at h
  | some x =>
    cases b with
    | none => simp [hdc] at h
    | some y =>
      obtain ⟨x1, x2⟩ := x
      obtain ⟨y1, y2⟩ := y
      simp only [hdc, Option.some.injEq, Prod.mk.injEq] at h
      obtain ⟨rfl, rfl, rfl, rfl⟩ := h
      exact ⟨rfl, rfl⟩

set_option maxRecDepth 100000 in
set_option maxHeartbeats 1000000 in
theorem takeHead_flaw (r : Nat) (s : ByteArray) (w : World) (hg : Gs w) (hsz : s.size ≤ 400000) (hd : hdo s.data.toList = none) :
    Calls Tryz.prog 90 #[.pointer (some ⟨r, 0, none⟩), .string s] w fun e w' => e = .returned (.bool false) ∧ Below w.heap.size w w' := by
  by_cases hf : hfit s.data.toList = true
  case neg => exact takeHead_no w.heap.size r s w hg hsz (by simpa using hf)
  obtain ⟨X1, X2, X3, x1, x2, y1, y2, hp1, hp2, hp3, hx, hdx, hyl1, hyl2⟩ := head_cuts s w hg hsz
  rw [hf] at hx
  simp only [Bool.and_eq_true] at hx
  obtain ⟨rfl, rfl, rfl⟩ := hx
  have hno := hdc_none ((hdx hf).symm.trans hd)
  have hp3' := hp3.mono (R' := fun e w' => e = .returned (.tuple #[.string ⟨y1.toArray⟩, .string ⟨y2.toArray⟩, .bool true]) ∧ Below w.heap.size w w') fun e w' ⟨he, q, hw⟩ => ⟨he, by rw [hw]; exact below_drawn (Below.refl _ _)⟩
  have HG : Hid (Gs w) := hg
  have HS1 : ∀ w', Below w.heap.size w w' → Calls Tryz.prog 102 #[.string ⟨y1.toArray⟩] w' fun e w2 => ∃ n1 m1 : Int, e = .returned (.tuple #[.int .i64 n1, .int .i64 m1, .bool (spo y1).isSome]) ∧ Below w'.heap.size w' w2 := fun w' h => by
    have h1 := parseSpan ⟨y1.toArray⟩ w' (HG.out.below h) (by rw [Lib.size_eq]; simp; omega)
    rw [show (ByteArray.mk y1.toArray).data.toList = y1 by simp] at h1
    exact h1.mono fun e w2 ⟨n1, m1, _, _, _, _, he, _, hb⟩ => ⟨n1, m1, he, hb⟩
  have HS2 : ∀ w', Below w.heap.size w w' → Calls Tryz.prog 102 #[.string ⟨y2.toArray⟩] w' fun e w2 => ∃ n1 m1 : Int, e = .returned (.tuple #[.int .i64 n1, .int .i64 m1, .bool (spo y2).isSome]) ∧ Below w'.heap.size w' w2 := fun w' h => by
    have h1 := parseSpan ⟨y2.toArray⟩ w' (HG.out.below h) (by rw [Lib.size_eq]; simp; omega)
    rw [show (ByteArray.mk y2.toArray).data.toList = y2 by simp] at h1
    exact h1.mono fun e w2 ⟨n1, m1, _, _, _, _, he, _, hb⟩ => ⟨n1, m1, he, hb⟩
  obtain ⟨F1, hF1⟩ : ∃ F, (spo y1).isSome = F := ⟨_, rfl⟩
  obtain ⟨F2, hF2⟩ : ∃ F, (spo y2).isSome = F := ⟨_, rfl⟩
  rw [hF1] at HS1 hno
  rw [hF2] at HS2 hno
  clear hp3 hf hg hsz hd hdx hF1 hF2 hyl1 hyl2
  go_enter Tryz.func90, Tryz.ntmps90
  go_wp2_with (go_at_call 76; refine hp1.mono ?_; rintro e w' ⟨rfl, hw⟩; rw [hw])
  clear hp1
  go_wp2_with (go_at_call 100; refine hp2.mono ?_; rintro e w' ⟨rfl, hw⟩; rw [hw])
  clear hp2
  go_wp2_with (go_at_call 101; refine hp3'.mono ?_)
  rintro e w1 ⟨rfl, hb1⟩
  have hs1 := HS1 w1 hb1
  clear hp3' HS1
  go_wp2_with (go_at_call 102; refine hs1.mono ?_)
  rintro e w2 ⟨n1, m1, rfl, hb2⟩
  have hb2 := hb1.trans (hb2.mono hb1.size)
  have hs2 := HS2 w2 hb2
  clear hs1 HS2 hb1
  go_wp2_with (go_at_call 102; refine hs2.mono ?_)
  rintro e w3 ⟨n2, m2, rfl, hb3⟩
  have hb3 := hb2.trans (hb3.mono hb2.size)
  clear hs2 hb2
  cases F1
  case' true => cases F2
  case' true.true => simp at hno
  all_goals
    clear hno
    go_wp2
    go_ret
    exact ⟨rfl, hb3⟩

set_option maxRecDepth 100000 in
set_option maxHeartbeats 2000000 in
theorem takeHead_good (B r : Nat) (hs : List Uk) (b0 a0 o n p m : Nat) (s : ByteArray) (w : World) (hst : Rst w B r (hs, b0, a0)) (hg : Gs w) (hBw : B ≤ w.heap.size) (hlen : hs.length ≤ 400000) (hsz : s.size ≤ 400000) (hd : hdo s.data.toList = some (o, n, p, m)) :
    Calls Tryz.prog 90 #[.pointer (some ⟨r, 0, none⟩), .string s] w fun e w' => e = .returned (.bool true) ∧ Below B w w' ∧ Rst w' B r (hs ++ [((o : Int), (p : Int), [])], n, m) := by
  have hf : hfit s.data.toList = true := by
    cases h : hfit s.data.toList with
    | true => rfl
    | false => unfold hdo at hd; rw [if_neg (by rw [h]; decide)] at hd; cases hd
  obtain ⟨X1, X2, X3, x1, x2, y1, y2, hp1, hp2, hp3, hx, hdx, hyl1, hyl2⟩ := head_cuts s w hg hsz
  rw [hf] at hx
  simp only [Bool.and_eq_true] at hx
  obtain ⟨rfl, rfl, rfl⟩ := hx
  obtain ⟨hq1, hq2⟩ := hdc_some ((hdx hf).symm.trans hd)
  have hp3' := hp3.mono (R' := fun e w' => e = .returned (.tuple #[.string ⟨y1.toArray⟩, .string ⟨y2.toArray⟩, .bool true]) ∧ Below w.heap.size w w') fun e w' ⟨he, q, hw⟩ => ⟨he, by rw [hw]; exact below_drawn (Below.refl _ _)⟩
  have HG : Hid (Gs w) := hg
  have HS1 : ∀ w', Below w.heap.size w w' → Calls Tryz.prog 102 #[.string ⟨y1.toArray⟩] w' fun e w2 => e = .returned (.tuple #[.int .i64 o, .int .i64 n, .bool true]) ∧ Below w'.heap.size w' w2 := fun w' h => by
    have h1 := parseSpan ⟨y1.toArray⟩ w' (HG.out.below h) (by rw [Lib.size_eq]; simp; omega)
    rw [show (ByteArray.mk y1.toArray).data.toList = y1 by simp] at h1
    refine h1.mono fun e w2 ⟨n1, m1, _, _, _, _, he, hh, hb⟩ => ⟨?_, hb⟩
    obtain ⟨rfl, rfl⟩ := hh _ _ hq1
    rw [he, hq1]; rfl
  have HS2 : ∀ w', Below w.heap.size w w' → Calls Tryz.prog 102 #[.string ⟨y2.toArray⟩] w' fun e w2 => e = .returned (.tuple #[.int .i64 p, .int .i64 m, .bool true]) ∧ Below w'.heap.size w' w2 := fun w' h => by
    have h1 := parseSpan ⟨y2.toArray⟩ w' (HG.out.below h) (by rw [Lib.size_eq]; simp; omega)
    rw [show (ByteArray.mk y2.toArray).data.toList = y2 by simp] at h1
    refine h1.mono fun e w2 ⟨n1, m1, _, _, _, _, he, hh, hb⟩ => ⟨?_, hb⟩
    obtain ⟨rfl, rfl⟩ := hh _ _ hq2
    rw [he, hq2]; rfl
  obtain ⟨i0, hi0, hz0, hz1, hz2⟩ := info_parts Tryz.infoHunk
  obtain ⟨hBr, v, hrb, ⟨xs, hown, hold⟩, _⟩ := hst
  have hrl := hrb.lt
  have HRB : Hid (Rsb w r v b0 a0) := hrb
  have HOW : Hid (w.ownsRow B 45 3 v hs.length xs) := hown
  have HOL : Hid (Olds w B hs xs none) := hold
  clear hp3 hf hg hsz hd hdx hrb hown hold hq1 hq2 hyl1 hyl2
  go_enter Tryz.func90, Tryz.ntmps90
  go_wp2_with (go_at_call 76; refine hp1.mono ?_; rintro e w' ⟨rfl, hw⟩; rw [hw])
  clear hp1
  go_wp2_with (go_at_call 100; refine hp2.mono ?_; rintro e w' ⟨rfl, hw⟩; rw [hw])
  clear hp2
  go_wp2_with (go_at_call 101; refine hp3'.mono ?_)
  rintro e w1 ⟨rfl, hb1⟩
  have hs1 := HS1 w1 hb1
  clear hp3' HS1
  go_wp2_with (go_at_call 102; refine hs1.mono ?_)
  rintro e w2 ⟨rfl, hb2⟩
  have hb2 := hb1.trans (hb2.mono hb1.size)
  have hs2 := HS2 w2 hb2
  clear hs1 HS2 hb1
  go_wp2_with (go_at_call 102; refine hs2.mono ?_)
  rintro e w3 ⟨rfl, hb3⟩
  have hb3 := hb2.trans (hb3.mono hb2.size)
  clear hs2 hb2
  obtain ⟨al, nl, el, rfl⟩ := own_slc HOW.out
  have hr3 := HRB.out.below hb3
  have hb4 := below_alloc w3 (.cells #[.int .i64 o, .int .i64 p, .slice none 0 0] 45)
  have hs3 : B ≤ w3.heap.size := Nat.le_trans hBw hb3.size
  have HO4 : Hid ((w3.alloc (.cells #[.int .i64 o, .int .i64 p, .slice none 0 0] 45)).ownsRow B 45 3 (.slice al nl el) hs.length xs) := own_later (own_later HOW.out hb3) hb4
  have HL4 : Hid (Olds (w3.alloc (.cells #[.int .i64 o, .int .i64 p, .slice none 0 0] 45)) B hs xs none) := (HOL.out.below hb3).below hb4
  have HR4 : Hid (Rsb (w3.alloc (.cells #[.int .i64 o, .int .i64 p, .slice none 0 0] 45)) r (.slice al nl el) b0 a0) := hr3.below hb4
  have HB4 : Hid (Below B w (w3.alloc (.cells #[.int .i64 o, .int .i64 p, .slice none 0 0] 45))) := (hb3.mono hBw).alloc hs3 _
  have hvr : (Value.slice al nl el).ownBlock ≠ some r := fun e => by
    obtain ⟨cs, fr, h⟩ := own_type HO4.out e
    have h2 := HR4.out
    unfold Rsb at h2
    rw [h] at h2
    simp at h2
  have KK : Hid (∀ w5, (w3.alloc (.cells #[.int .i64 o, .int .i64 p, .slice none 0 0] 45)).grownBy w5 (Value.slice al nl el).ownBlock → Rsb w5 r (.slice al nl el) b0 a0) := fun w5 hg => (hg.block r HR4.out.lt (fun e => hvr e.symm)).trans HR4.out
  obtain ⟨k0, _⟩ := hr3.cells
  clear hr3 hb4 hb3
  go_wp2_with (at_builtin; refine wpList_append_lies _ rfl _ _ 38 rfl B 45 i0 (.agg #[.int .i64 0, .int .i64 0, .slice none 0 0]) 3 40 Tryz.underlying38 hi0 hz0 hz1 hz2 rfl (by decide) _ _ _ rfl HO4.out ⟨w3.heap.size, 0, none⟩ 1 1 [.int .i64 o, .int .i64 p, .slice none 0 0] rfl rfl (cell_three_new _ _ _ _ _) (fun x hx => by simp at hx; rcases hx with rfl | rfl | rfl <;> rfl) (by decide) (by unfold maxLen; omega) (by omega) (by simp; omega) (w3.heap.size + 1) (by simp) ?_; intro g5 c5 w5 hown5 hgrow5 hblk5 hlt5; obtain ⟨y0, y1, y2, f0, f1, f2⟩ := (KK.out w5 hgrow5).cells; clear k0)
  have hr5 := KK.out w5 hgrow5
  have hb5 : Below B w w5 := HB4.out.grown hgrow5 (by simp; omega) (fun j hj => (HO4.out.lt j hj).1)
  have hrop := Rop.begin HO4.out HL4.out hown5 hgrow5
  go_ret
  have hr6 : Rsb (w5.setCell ⟨r, 0, none⟩ (.slice (some ⟨g5, 0, none⟩) (hs.length + 1) c5)) r (.slice (some ⟨g5, 0, none⟩) (hs.length + 1) c5) b0 a0 := by
    have := blk_set (i := 0) hr5 (.slice (some ⟨g5, 0, none⟩) (hs.length + 1) c5)
    unfold Rsb; simpa using this
  have hrop6 := hrop.set hr5 (i := 0) (by decide) (by decide) (.slice (some ⟨g5, 0, none⟩) (hs.length + 1) c5)
  have hr7 : Rsb ((w5.setCell ⟨r, 0, none⟩ (.slice (some ⟨g5, 0, none⟩) (hs.length + 1) c5)).setCell ⟨r, 1, none⟩ (.int .i64 n)) r (.slice (some ⟨g5, 0, none⟩) (hs.length + 1) c5) n a0 := by
    have := blk_set (i := 1) hr6 (.int .i64 n)
    unfold Rsb; simpa using this
  have hrop7 := hrop6.set hr6 (i := 1) (by decide) (by decide) (.int .i64 n)
  have hr8 : Rsb (((w5.setCell ⟨r, 0, none⟩ (.slice (some ⟨g5, 0, none⟩) (hs.length + 1) c5)).setCell ⟨r, 1, none⟩ (.int .i64 n)).setCell ⟨r, 2, none⟩ (.int .i64 m)) r (.slice (some ⟨g5, 0, none⟩) (hs.length + 1) c5) n m := by
    have := blk_set (i := 2) hr7 (.int .i64 m)
    unfold Rsb; simpa using this
  have hrop8 := hrop7.set hr7 (i := 2) (by decide) (by decide) (.int .i64 m)
  exact ⟨rfl, ((hb5.setCell (show B ≤ r from hBr) _).setCell (show B ≤ r from hBr) _).setCell (show B ≤ r from hBr) _, Rst.of hBr hr8 hrop8⟩

end Go.Proofs.YtjgdicghmkfohadGreatDoor
namespace Go.Proofs.YtjgdicghmkfohadGreatDoor
open Go.RowKit Dist

attribute [local go_sem] Go.wp_at_zero Go.wp_at_succ

theorem head_byte (s : ByteArray) (c : UInt8) (t : List UInt8) (h : s.data.toList = c :: t) : ∃ h0 : 0 < s.size, s[0]'h0 = c ∧ s.extract 1 s.size = bar t := by
  have h0 : 0 < s.size := by rw [Lib.size_eq, h]; simp
  refine ⟨h0, ?_, ?_⟩
  · have := Lib.getD_at s 0 h0
    rw [h] at this
    exact this
  · have e : (s.extract 1 s.size).data.toList = t := by
      rw [Lib.extract_data, h, List.drop_succ_cons, List.drop_zero, List.take_of_length_le (by rw [Lib.size_eq, h]; simp)]
    rw [← data_bar (s.extract 1 s.size), e]

theorem wnt_eq (c : UInt8) (b a : Nat) (t : ByteArray) : wnt c b a = if (ob [((c.toNat : Int), t)] + nb [((c.toNat : Int), t)] = 0 ∨ b < ob [((c.toNat : Int), t)]) ∨ a < nb [((c.toNat : Int), t)] then none else some (b - ob [((c.toNat : Int), t)], a - nb [((c.toNat : Int), t)]) := by
  unfold wnt
  rw [ob_one, nb_one]
  by_cases h1 : c = 32
  · subst h1
    rw [if_pos rfl]
    by_cases h : 0 < b ∧ 0 < a
    · rw [if_pos h, if_neg (by simp; omega)]; simp
    · rw [if_neg h, if_pos (by simp; omega)]
  · rw [if_neg h1]
    have e1 : ¬ ((c.toNat : Int) = 32) := fun e => h1 (by apply UInt8.toNat_inj.1; show c.toNat = 32; omega)
    by_cases h2 : c = 45
    · subst h2
      rw [if_pos rfl]
      by_cases h : 0 < b
      · rw [if_pos h, if_neg (by simp; omega)]; simp
      · rw [if_neg h, if_pos (by simp; omega)]
    · rw [if_neg h2]
      have e2 : ¬ ((c.toNat : Int) = 45) := fun e => h2 (by apply UInt8.toNat_inj.1; show c.toNat = 45; omega)
      by_cases h3 : c = 43
      · subst h3
        rw [if_pos rfl]
        by_cases h : 0 < a
        · rw [if_pos h, if_neg (by simp; omega)]; simp
        · rw [if_neg h, if_pos (by simp; omega)]
      · rw [if_neg h3]
        have e3 : ¬ ((c.toNat : Int) = 43) := fun e => h3 (by apply UInt8.toNat_inj.1; show c.toNat = 43; omega)
        rw [if_pos (by simp [e1, e2, e3])]

theorem obnb_one (c : UInt8) (t : ByteArray) : ob [((c.toNat : Int), t)] ≤ 1 ∧ nb [((c.toNat : Int), t)] ≤ 1 := by
  rw [ob_one, nb_one]; constructor <;> split <;> omega

theorem mks_one (w : World) (c : Int) (t : ByteArray) : Mks (w.alloc (.cells #[.int .u8 c, .string t] 69)) (some ⟨w.heap.size, 0, none⟩) [(c, t)] := by
  have h := heap_alloc_new w (.cells #[.int .u8 c, .string t] 69)
  intro i hi
  obtain rfl : i = 0 := by simpa using hi
  exact ⟨_, 0, rfl, Lib.cell_of_heap h 0, Lib.cell_of_heap h 1⟩

set_option maxRecDepth 100000 in
set_option maxHeartbeats 2000000 in
theorem takeMark_empty (B r : Nat) (s : ByteArray) (w : World) (h : s.data.toList = []) :
    Calls Tryz.prog 91 #[.pointer (some ⟨r, 0, none⟩), .string s] w fun e w' => e = .returned (.bool false) ∧ Below B w w' := by
  have he : s.toList.isEmpty = true := by rw [Lib.toList_data, h]; rfl
  clear h
  go_enter Tryz.func91, Tryz.ntmps91
  go_wp2
  go_ret
  exact ⟨rfl, Below.refl _ _⟩

set_option maxRecDepth 100000 in
set_option maxHeartbeats 2000000 in
theorem takeMark_flaw (r b a : Nat) (v : Value) (s : ByteArray) (c : UInt8) (t : List UInt8) (w : World) (hrb : Rsb w r v b a) (hs0 : s.data.toList = c :: t) (hw : wnt c b a = none) :
    Calls Tryz.prog 91 #[.pointer (some ⟨r, 0, none⟩), .string s] w fun e w' => e = .returned (.bool false) ∧ Below w.heap.size w w' := by
  have he : s.toList.isEmpty = false := by rw [Lib.toList_data, hs0]; rfl
  obtain ⟨h0, hc0, ht0⟩ := head_byte s c t hs0
  have hb0 := below_alloc w (.cells #[.int .u8 (c.toNat : Int), .string ByteArray.empty] 69)
  have hsize := hunkSz 0 0 (some ⟨w.heap.size, 0, none⟩) [((c.toNat : Int), ByteArray.empty)] 1 _ (mks_one w (c.toNat : Int) ByteArray.empty) (by unfold maxLen; simp)
  rw [wnt_eq c b a ByteArray.empty] at hw
  obtain ⟨x1, y1⟩ := obnb_one c ByteArray.empty
  obtain ⟨x, hx⟩ : ∃ x, ob [((c.toNat : Int), ByteArray.empty)] = x := ⟨_, rfl⟩
  obtain ⟨y, hy⟩ : ∃ y, nb [((c.toNat : Int), ByteArray.empty)] = y := ⟨_, rfl⟩
  rw [hx] at hsize hw x1
  rw [hy] at hsize hw y1
  rw [List.length_singleton] at hsize
  have hno : (x + y = 0 ∨ b < x) ∨ a < y := by
    by_cases h : (x + y = 0 ∨ b < x) ∨ a < y
    · exact h
    · rw [if_neg h] at hw; cases hw
  have HB0 : Hid (Below w.heap.size w (w.alloc (.cells #[.int .u8 (c.toNat : Int), .string ByteArray.empty] 69))) := hb0
  have HRB : Hid (Rsb w r v b a) := hrb
  clear hw hx hy hrb hb0 hs0
  go_enter Tryz.func91, Tryz.ntmps91
  go_wp2_with (go_at_call 46; refine hsize.mono ?_)
  rintro e w1 ⟨rfl, hb1⟩
  have hb1 := HB0.out.trans (hb1.mono HB0.out.size)
  obtain ⟨k0, k1, k2, f0, f1, f2⟩ := (HRB.out.below hb1).cells
  clear hsize HB0
  by_cases hz : x + y = 0
  · obtain rfl : x = 0 := by omega
    obtain rfl : y = 0 := by omega
    clear hno hz
    go_wp2
    go_ret
    exact ⟨rfl, hb1⟩
  have hz' : ((x : Int) + y == 0) = false := by rw [beq_eq_false_iff_ne]; omega
  by_cases hbx : b < x
  · clear hno hz
    go_wp2
    go_ret
    exact ⟨rfl, hb1⟩
  have hay : a < y := by omega
  clear hno hz
  go_wp2
  go_ret
  exact ⟨rfl, hb1⟩

set_option maxRecDepth 100000 in
set_option maxHeartbeats 2000000 in
theorem takeMark_good (B r : Nat) (hs : List Uk) (o p : Int) (cur : List (Int × ByteArray)) (b a b' a' : Nat) (v : Value) (s : ByteArray) (c : UInt8) (t : List UInt8) (w : World) (hrb : Rsb w r v b a) (hrp : Rop w B v hs o p cur) (hBr : B ≤ r) (hBw : B ≤ w.heap.size) (hlen : hs.length ≤ 400000) (hcur : cur.length ≤ 400000) (hsz : s.size ≤ 400000) (hb9 : b ≤ 999) (ha9 : a ≤ 999) (hs0 : s.data.toList = c :: t) (hw : wnt c b a = some (b', a')) :
    Calls Tryz.prog 91 #[.pointer (some ⟨r, 0, none⟩), .string s] w fun e w' => e = .returned (.bool true) ∧ Below B w w' ∧ Rst w' B r (hs ++ [(o, p, cur ++ [((c.toNat : Int), bar t)])], b', a') := by
  have he : s.toList.isEmpty = false := by rw [Lib.toList_data, hs0]; rfl
  obtain ⟨h0, hc0, ht0⟩ := head_byte s c t hs0
  have h01 : (1 : Int) ≤ s.size := by omega
  have htz : (bar t).size ≤ 400000 := by rw [bar_size]; have := congrArg List.length hs0; rw [List.length_cons, ← Lib.size_eq] at this; omega
  have hb0 := below_alloc w (.cells #[.int .u8 (c.toNat : Int), .string ByteArray.empty] 69)
  have hsize := hunkSz 0 0 (some ⟨w.heap.size, 0, none⟩) [((c.toNat : Int), ByteArray.empty)] 1 _ (mks_one w (c.toNat : Int) ByteArray.empty) (by unfold maxLen; simp)
  rw [wnt_eq c b a ByteArray.empty] at hw
  obtain ⟨x1, y1⟩ := obnb_one c ByteArray.empty
  obtain ⟨x, hx⟩ : ∃ x, ob [((c.toNat : Int), ByteArray.empty)] = x := ⟨_, rfl⟩
  obtain ⟨y, hy⟩ : ∃ y, nb [((c.toNat : Int), ByteArray.empty)] = y := ⟨_, rfl⟩
  rw [hx] at hsize hw x1
  rw [hy] at hsize hw y1
  rw [List.length_singleton] at hsize
  have hyes : ¬ ((x + y = 0 ∨ b < x) ∨ a < y) := fun h => by rw [if_pos h] at hw; cases hw
  rw [if_neg hyes] at hw
  simp only [Option.some.injEq, Prod.mk.injEq] at hw
  obtain ⟨hw1, hw2⟩ := hw
  have hz' : ((x : Int) + y == 0) = false := by rw [beq_eq_false_iff_ne]; omega
  have hbx : ¬ b < x := by omega
  have hay : ¬ a < y := by omega
  have HW1 : Hid ((b : Int) - x = b') := by show (b : Int) - x = b'; omega
  have HW2 : Hid ((a : Int) - y = a') := by show (a : Int) - y = a'; omega
  obtain ⟨xs, vl, hh1, hh2, hh3⟩ := hrp
  obtain ⟨g, cp, rfl, hg1, hg2⟩ := hh1.form (Nat.succ_pos _)
  obtain ⟨j0, hj0, hy0, hy1, hy2⟩ := info_parts Tryz.infoMark
  have HB0 : Hid (Below w.heap.size w (w.alloc (.cells #[.int .u8 (c.toNat : Int), .string ByteArray.empty] 69))) := hb0
  have HRB : Hid (Rsb w r (.slice (some ⟨g, 0, none⟩) (hs.length + 1) cp) b a) := hrb
  have HRP : Hid (Rop w B (.slice (some ⟨g, 0, none⟩) (hs.length + 1) cp) hs o p cur) := ⟨xs, vl, hh1, hh2, hh3⟩
  clear hh1 hh2 hh3 hg1 hg2 hrb hs0 hx hy hyes hw1 hw2 hb0
  go_enter Tryz.func91, Tryz.ntmps91
  go_wp2_with (go_at_call 46; refine hsize.mono ?_)
  rintro e w1 ⟨rfl, hb1⟩
  have hb1 := HB0.out.trans (hb1.mono HB0.out.size)
  have hr1 := HRB.out.below hb1
  have HR1 : Hid (Rsb w1 r (.slice (some ⟨g, 0, none⟩) (hs.length + 1) cp) b a) := hr1
  have HP1 : Hid (Rop w1 B (.slice (some ⟨g, 0, none⟩) (hs.length + 1) cp) hs o p cur) := HRP.out.below hb1
  have HB1 : Hid (Below B w w1) := hb1.mono hBw
  obtain ⟨k0, k1, k2, f0, f1, f2⟩ := hr1.cells
  clear hsize HB0 HRB HRP hb1 hr1
  go_wp2_with fail
  have hr1 : Rsb (w1.setCell ⟨r, 1, none⟩ (.int .i64 ((b : Int) - x))) r (.slice (some ⟨g, 0, none⟩) (hs.length + 1) cp) ((b : Int) - x) a := by
    have := blk_set (i := 1) HR1.out (.int .i64 ((b : Int) - x))
    unfold Rsb; simpa using this
  have hr2 : Rsb ((w1.setCell ⟨r, 1, none⟩ (.int .i64 ((b : Int) - x))).setCell ⟨r, 2, none⟩ (.int .i64 ((a : Int) - y))) r (.slice (some ⟨g, 0, none⟩) (hs.length + 1) cp) ((b : Int) - x) ((a : Int) - y) := by
    have := blk_set (i := 2) hr1 (.int .i64 ((a : Int) - y))
    unfold Rsb; simpa using this
  have hp2 := (HP1.out.set HR1.out (i := 1) (by decide) (by decide) (.int .i64 ((b : Int) - x))).set hr1 (i := 2) (by decide) (by decide) (.int .i64 ((a : Int) - y))
  have hbW : Below B w ((w1.setCell ⟨r, 1, none⟩ (.int .i64 ((b : Int) - x))).setCell ⟨r, 2, none⟩ (.int .i64 ((a : Int) - y))) := (HB1.out.setCell (show B ≤ r from hBr) _).setCell (show B ≤ r from hBr) _
  generalize (w1.setCell ⟨r, 1, none⟩ (.int .i64 ((b : Int) - x))).setCell ⟨r, 2, none⟩ (.int .i64 ((a : Int) - y)) = W at hr2 hp2 hbW ⊢
  rw [HW1.out, HW2.out] at hr2
  clear k0 k1 k2 f0 f1 f2 HR1 HP1 hr1 HW1 HW2 hz' hbx hay
  obtain ⟨k0, k1, k2, f0, f1, f2⟩ := hr2.cells
  have HR2 : Hid (Rsb W r (.slice (some ⟨g, 0, none⟩) (hs.length + 1) cp) b' a') := hr2
  have HP2 : Hid (Rop W B (.slice (some ⟨g, 0, none⟩) (hs.length + 1) cp) hs o p cur) := hp2
  have HBW : Hid (Below B w W) := hbW
  clear hr2 hp2 hbW
  go_quiet (fail)
  go_wp2_with fail
  have hbV : Below W.heap.size W (W.drewN nq) := below_drawn (Below.refl _ _)
  have HRV : Hid (Rsb (W.drewN nq) r (.slice (some ⟨g, 0, none⟩) (hs.length + 1) cp) b' a') := HR2.out.below hbV
  have hpV := HP2.out.below hbV
  have hBW : B ≤ W.heap.size := Nat.le_trans hBw HBW.out.size
  have HBV : Hid (Below B w (W.drewN nq)) := HBW.out.trans (hbV.mono hBW)
  have hBV : B ≤ (W.drewN nq).heap.size := Nat.le_trans hBw HBV.out.size
  clear hbV
  generalize W.drewN nq = V at HRV hpV HBV hBV ⊢
  clear k0 k1 k2 f0 f1 f2
  obtain ⟨xs, vl, hh1, hh2, hh3⟩ := hpV
  obtain ⟨al, nl, el, rfl⟩ := own_slc hh2
  have hxl := hh3.1
  have d2 := hh1.cellAt (hs.length * 3 + 2) (by omega)
  rw [List.getElem?_append_right (by omega), hxl, show hs.length * 3 + 2 - hs.length * 3 = 2 by omega] at d2
  simp only [List.getElem?_cons_succ, List.getElem?_cons_zero] at d2
  have D2 : Hid (V.cell? ⟨g, hs.length * 3 + 2, none⟩ = some (.slice al nl el)) := d2
  have VB : Hid (Below V.heap.size V V.drew) := ⟨rfl, rfl, rfl, Nat.le_refl _, fun _ _ => rfl⟩
  have HH1 : Hid (V.ownsRow B 45 3 (.slice (some ⟨g, 0, none⟩) (hs.length + 1) cp) (hs.length + 1) (xs ++ [.int .i64 o, .int .i64 p, .slice al nl el])) := hh1
  have HH2 : Hid (V.ownsRow B 69 2 (.slice al nl el) cur.length (mcells cur)) := hh2
  have HH3 : Hid (Olds V B hs xs (Value.slice al nl el).ownBlock) := hh3
  have HCL := clone (bar t) V.drew (by omega)
  clear hh1 hh2 hh3 d2
  refine wp_region_held_drew (S := fun _ => True) (by kernel_rfl) ?_ (fun hHeld => ?_)
  · trivial
  refine wpAnyH_take (i := 0) (v := ?_) rfl (by kernel_rfl) (by kernel_rfl) (by kernel_rfl) (fun _ _ _ h => h) (Or.inl ⟨by rfl, ?_⟩) (by assumption) ?_
  rotate_left
  · intro w' hSw
    (try dsimp only at hSw)
    go_simp
    try with_reducible rfl
  simp only [Act.put, List.getElem_toArray, List.getElem_cons_zero, List.setIfInBounds_toArray, List.set_cons_zero, List.set_cons_succ]
  refine wpAnyH_take (i := 1) (v := ?_) rfl (by kernel_rfl) (by kernel_rfl) (by kernel_rfl) (fun _ _ _ h => h) (Or.inl ⟨by rfl, ?_⟩) (by assumption) ?_
  rotate_left
  · intro w' hSw
    (try dsimp only at hSw)
    go_simp
    try with_reducible rfl
  simp only [Act.put, List.getElem_toArray, List.getElem_cons_zero, List.getElem_cons_succ, List.setIfInBounds_toArray, List.set_cons_zero, List.set_cons_succ]
  refine wpAnyH_take (i := 2) (v := ?_) rfl (by kernel_rfl) (by kernel_rfl) (by kernel_rfl) (fun _ _ _ h => h) (Or.inl ⟨by rfl, ?_⟩) (by assumption) ?_
  rotate_left
  · intro w' hSw
    (try dsimp only at hSw)
    go_simp
    try with_reducible rfl
  simp only [Act.put, List.getElem_toArray, List.getElem_cons_zero, List.getElem_cons_succ, List.setIfInBounds_toArray, List.set_cons_zero, List.set_cons_succ]
  refine wpAnyH_take (i := 3) (v := ?_) rfl (by kernel_rfl) (by kernel_rfl) (by kernel_rfl) (fun _ _ _ h => h) (Or.inl ⟨by rfl, ?_⟩) (by assumption) ?_
  rotate_left
  · intro w' hSw
    (try dsimp only at hSw)
    go_simp
    try with_reducible rfl
  simp only [Act.put, List.getElem_toArray, List.getElem_cons_zero, List.getElem_cons_succ, List.setIfInBounds_toArray, List.set_cons_zero, List.set_cons_succ]
  refine wpAnyH_take (i := 5) (v := ?_) rfl (by kernel_rfl) (by kernel_rfl) (by kernel_rfl) (fun _ _ _ h => h) (Or.inl ⟨by rfl, ?_⟩) (by assumption) ?_
  rotate_left
  · intro w' hSw
    (try dsimp only at hSw)
    go_simp
    try with_reducible rfl
  simp only [Act.put, List.getElem_toArray, List.getElem_cons_zero, List.getElem_cons_succ, List.setIfInBounds_toArray, List.set_cons_zero, List.set_cons_succ]
  refine wpAnyH_take (i := 6) (v := ?_) rfl (by kernel_rfl) (by kernel_rfl) (by kernel_rfl) (fun _ _ _ h => h) (Or.inl ⟨by rfl, ?_⟩) (by assumption) ?_
  rotate_left
  · intro w' hSw
    (try dsimp only at hSw)
    go_simp
    try with_reducible rfl
  simp only [Act.put, List.getElem_toArray, List.getElem_cons_zero, List.getElem_cons_succ, List.setIfInBounds_toArray, List.set_cons_zero, List.set_cons_succ]
  refine wpAnyH_take (i := 7) (v := ?_) rfl (by kernel_rfl) (by kernel_rfl) (by kernel_rfl) (fun _ _ _ h => h) (Or.inl ⟨by rfl, ?_⟩) (by assumption) ?_
  rotate_left
  · intro w' hSw
    (try dsimp only at hSw)
    go_simp
    try with_reducible rfl
  simp only [Act.put, List.getElem_toArray, List.getElem_cons_zero, List.getElem_cons_succ, List.setIfInBounds_toArray, List.set_cons_zero, List.set_cons_succ]
  refine wpAnyH_take (i := 8) (v := ?_) rfl (by kernel_rfl) (by kernel_rfl) (by kernel_rfl) (fun _ _ _ h => h) (Or.inl ⟨by rfl, ?_⟩) (by assumption) ?_
  rotate_left
  · intro w' hSw
    (try dsimp only at hSw)
    go_simp
    try with_reducible rfl
  simp only [Act.put, List.getElem_toArray, List.getElem_cons_zero, List.getElem_cons_succ, List.setIfInBounds_toArray, List.set_cons_zero, List.set_cons_succ]
  refine wpAnyH_ready (rs := [4, 9]) (by kernel_rfl) (by simp) ?_
  refine AllReadyH.cons rfl (fun K hK => ?_) (AllReadyH.cons rfl (fun K hK => ?_) AllReadyH.nil)
  case' refine_1 =>
    have d2 := D2.out
    go_simp
    refine hK.out _ _ ?_ (fun hHeld => ?_)
    · trivial
    clear hK K
    clear d2
    refine wpAnyH_ready (rs := [9]) (by kernel_rfl) (by simp) ?_
    refine AllReadyH.cons rfl (fun K hK => ?_) AllReadyH.nil
    go_simp
    go_at_call 59; refine HCL.mono ?_; rintro e w2 ⟨rfl, hb2⟩
    go_wp2_with fail
    refine hK.out _ _ ?_ (fun hHeld => ?_)
    · trivial
    clear hK K HCL
    refine wpAnyH_take (i := 10) (v := ?_) rfl (by kernel_rfl) (by kernel_rfl) (by kernel_rfl) (fun _ _ _ h => h) (Or.inl ⟨by rfl, ?_⟩) (by assumption) ?_
    rotate_left
    · intro w' hSw
      (try dsimp only at hSw)
      go_simp
      try with_reducible rfl
    simp only [Act.put, List.getElem_toArray, List.getElem_cons_zero, List.getElem_cons_succ, List.setIfInBounds_toArray, List.set_cons_zero, List.set_cons_succ]
    refine wpAnyH_ready (rs := [11]) (by kernel_rfl) (by simp) ?_
    refine AllReadyH.cons rfl (fun K hK => ?_) AllReadyH.nil
    go_simp
    refine hK.out _ _ ?_ (fun hHeld => ?_)
    · trivial
    clear hK K
  case' refine_2 =>
    go_simp
    go_at_call 59; refine HCL.mono ?_; rintro e w2 ⟨rfl, hb2⟩
    go_wp2_with fail
    refine hK.out _ _ ?_ (fun hHeld => ?_)
    · trivial
    clear hK K HCL
    refine wpAnyH_take (i := 10) (v := ?_) rfl (by kernel_rfl) (by kernel_rfl) (by kernel_rfl) (fun _ _ _ h => h) (Or.inl ⟨by rfl, ?_⟩) (by assumption) ?_
    rotate_left
    · intro w' hSw
      (try dsimp only at hSw)
      go_simp
      try with_reducible rfl
    simp only [Act.put, List.getElem_toArray, List.getElem_cons_zero, List.getElem_cons_succ, List.setIfInBounds_toArray, List.set_cons_zero, List.set_cons_succ]
    have d2 := cell_later (VB.out.trans hb2) D2.out
    refine wpAnyH_ready (rs := [4, 11]) (by kernel_rfl) (by simp) ?_
    refine AllReadyH.cons rfl (fun K hK => ?_) (AllReadyH.cons rfl (fun K hK => ?_) AllReadyH.nil)
    case' refine_1 =>
      go_simp
      refine hK.out _ _ ?_ (fun hHeld => ?_)
      · trivial
      clear hK K
      clear d2
      refine wpAnyH_ready (rs := [11]) (by kernel_rfl) (by simp) ?_
      refine AllReadyH.cons rfl (fun K hK => ?_) AllReadyH.nil
      go_simp
      refine hK.out _ _ ?_ (fun hHeld => ?_)
      · trivial
      clear hK K
    case' refine_2 =>
      go_simp
      refine hK.out _ _ ?_ (fun hHeld => ?_)
      · trivial
      clear hK K
      replace d2 := cell_later (below_alloc w2 (.cells #[.int .u8 (c.toNat : Int), .string (bar t)] 69)) d2
      refine wpAnyH_ready (rs := [4]) (by kernel_rfl) (by simp) ?_
      refine AllReadyH.cons rfl (fun K hK => ?_) AllReadyH.nil
      go_simp
      refine hK.out _ _ ?_ (fun hHeld => ?_)
      · trivial
      clear hK K
      clear d2
  all_goals
    have hb2 := VB.out.trans hb2
    have hb7 : Below V.heap.size V (w2.alloc (.cells #[.int .u8 (c.toNat : Int), .string (bar t)] 69)) := hb2.trans ((below_alloc w2 _).mono hb2.size)
    have V1 : Hid ((w2.alloc (.cells #[.int .u8 (c.toNat : Int), .string (bar t)] 69)).ownsRow B 45 3 (.slice (some ⟨g, 0, none⟩) (hs.length + 1) cp) (hs.length + 1) (xs ++ [.int .i64 o, .int .i64 p, .slice al nl el])) := own_later HH1.out hb7
    have V2 : Hid ((w2.alloc (.cells #[.int .u8 (c.toNat : Int), .string (bar t)] 69)).ownsRow B 69 2 (.slice al nl el) cur.length (mcells cur)) := own_later HH2.out hb7
    have V3 : Hid (Olds (w2.alloc (.cells #[.int .u8 (c.toNat : Int), .string (bar t)] 69)) B hs xs (Value.slice al nl el).ownBlock) := HH3.out.below hb7
    have HR7 : Hid (Rsb (w2.alloc (.cells #[.int .u8 (c.toNat : Int), .string (bar t)] 69)) r (.slice (some ⟨g, 0, none⟩) (hs.length + 1) cp) b' a') := HRV.out.below hb7
    have HNEWS : Hid (∀ j u, ([.int .u8 (c.toNat : Int), .string (bar t)] : List Value)[j]? = some u → (w2.alloc (.cells #[.int .u8 (c.toNat : Int), .string (bar t)] 69)).cell? ((⟨w2.heap.size, 0, none⟩ : Addr).add j) = some u) := cell_two_new w2 (.int .u8 (c.toNat : Int)) (.string (bar t)) 69
    have HS7 : Hid ((w2.alloc (.cells #[.int .u8 (c.toNat : Int), .string (bar t)] 69)).heap.size = w2.heap.size + 1) := by show (w2.alloc (.cells #[.int .u8 (c.toNat : Int), .string (bar t)] 69)).heap.size = w2.heap.size + 1; simp
    have HB7 : Hid (Below B w (w2.alloc (.cells #[.int .u8 (c.toNat : Int), .string (bar t)] 69))) := HBV.out.trans (hb7.mono hBV)
    have hBw2 : B ≤ w2.heap.size := Nat.le_trans hBV hb2.size
    clear hb7 hb2
    refine wpAnyH_ready (rs := [12]) (by kernel_rfl) (by simp) ?_
    refine AllReadyH.cons rfl (fun K hK => ?_) AllReadyH.nil
    refine step_append_lies _ (by rfl) _ _ 43 (by rfl) B 69 j0 (.agg #[.int .u8 0, .string ByteArray.empty]) 2 24 Tryz.underlying43 hj0 hy0 hy1 hy2 rfl (by decide) _ _ _ (by rfl) V2.out ⟨w2.heap.size, 0, none⟩ 1 1 [.int .u8 (c.toNat : Int), .string (bar t)] (by rfl) rfl HNEWS.out (fun x hx => by simp at hx; rcases hx with rfl | rfl <;> rfl) (by decide) (by unfold maxLen; omega) (by omega) (by rw [HS7.out]; omega) (w2.heap.size + 1) HS7.out ?_; intro g8 c8 w8 hown8 hgrow8 hat8 hlt8
    refine hK.out _ _ ?_ (fun hHeld => ?_)
    · trivial
    clear hK K
    simp only [Act.put, List.getElem_toArray, List.getElem_cons_zero, List.getElem_cons_succ, List.setIfInBounds_toArray, List.set_cons_zero, List.set_cons_succ]
    refine wpAnyH_take (i := 13) (v := ?_) rfl (by kernel_rfl) (by kernel_rfl) (by kernel_rfl) (fun _ _ _ h => h) (Or.inl ⟨by rfl, ?_⟩) (by assumption) ?_
    rotate_left
    · intro w' hSw
      (try dsimp only at hSw)
      go_simp
      try with_reducible rfl
    simp only [Act.put, List.getElem_toArray, List.getElem_cons_zero, List.getElem_cons_succ, List.setIfInBounds_toArray, List.set_cons_zero, List.set_cons_succ]
    refine wpAnyH_take (i := 14) (v := ?_) rfl (by kernel_rfl) (by kernel_rfl) (by kernel_rfl) (fun _ _ _ h => h) (Or.inl ⟨by rfl, ?_⟩) (by assumption) ?_
    rotate_left
    · intro w' hSw
      (try dsimp only at hSw)
      go_simp
      try with_reducible rfl
    simp only [Act.put, List.getElem_toArray, List.getElem_cons_zero, List.getElem_cons_succ, List.setIfInBounds_toArray, List.set_cons_zero, List.set_cons_succ]
    have hrow8 := V1.out.kept hgrow8 (own_two V1.out V2.out (by decide))
    have q2 := hrow8.cellAt (hs.length * 3 + 2) (by omega)
    have fq := hrow8.frozenAt (hs.length * 3 + 2)
    rw [List.getElem?_append_right (by omega), hxl, show hs.length * 3 + 2 - hs.length * 3 = 2 by omega] at q2
    simp only [List.getElem?_cons_succ, List.getElem?_cons_zero] at q2
    refine wpAnyH_ready (rs := [15]) (by kernel_rfl) (by simp) ?_
    refine AllReadyH.cons rfl (fun K hK => ?_) AllReadyH.nil
    go_simp
    refine hK.out _ _ ?_ (fun hHeld => ?_)
    · trivial
    clear hK K
    refine wpAnyH_done (by kernel_rfl) ?_ _
    have HROP : Hid (Rop (w8.setCell ⟨g, hs.length * 3 + 2, none⟩ (.slice (some ⟨g8, 0, none⟩) (cur.length + 1) c8)) B (.slice (some ⟨g, 0, none⟩) (hs.length + 1) cp) hs o p (cur ++ [((c.toNat : Int), bar t)])) := Rop.push V1.out V2.out V3.out hgrow8 hown8 (by rcases hat8 with h | h; exact .inl (by rw [h]; rfl); exact .inr (by rw [h, HS7.out]; rfl))
    have hgr : g ≠ r := fun e => by
      have h2 := HR7.out
      obtain ⟨c7, f7, h7⟩ := own_type V1.out (g := g) rfl
      unfold Rsb at h2
      rw [← e, h7] at h2
      simp at h2
    have hr8 : Rsb w8 r (.slice (some ⟨g, 0, none⟩) (hs.length + 1) cp) b' a' := by
      unfold Rsb
      rw [hgrow8.block r HR7.out.lt (fun e => by
        obtain ⟨c7, f7, h7⟩ := own_type V2.out e.symm
        have h2 := HR7.out
        unfold Rsb at h2
        rw [h7] at h2
        simp at h2)]
      exact HR7.out
    have hr9 : Rsb (w8.setCell ⟨g, hs.length * 3 + 2, none⟩ (.slice (some ⟨g8, 0, none⟩) (cur.length + 1) c8)) r (.slice (some ⟨g, 0, none⟩) (hs.length + 1) cp) b' a' := by
      unfold Rsb
      rw [Below.heap_setCell _ _ _ _ (show r ≠ g from fun e => hgr e.symm)]
      exact hr8
    have hb9 : Below B w (w8.setCell ⟨g, hs.length * 3 + 2, none⟩ (.slice (some ⟨g8, 0, none⟩) (cur.length + 1) c8)) := (HB7.out.grown hgrow8 (by rw [HS7.out]; omega) (fun k hk => (V2.out.lt k hk).1)).setCell (show B ≤ g from (V1.out.lt g rfl).1) _
    generalize w8.setCell ⟨g, hs.length * 3 + 2, none⟩ (.slice (some ⟨g8, 0, none⟩) (cur.length + 1) c8) = W9 at HROP hr9 hb9 ⊢
    have FIN : Hid (Rst W9 B r (hs ++ [(o, p, cur ++ [((c.toNat : Int), bar t)])], b', a')) := Rst.of hBr hr9 HROP.out
    clear hr9 hr8 hrow8 q2 fq hown8 hgrow8 hat8 hlt8 hHeld
    go_wp2
    go_ret
    exact ⟨rfl, hb9, FIN.out⟩

end Go.Proofs.YtjgdicghmkfohadGreatDoor
