/-
  Rows of numbers that a call lengthens. Rows of rows of numbers that a call lengthens.
-/
import Derived.Test.YtfmhapajdnmhoafDoorXd
import Derived.Maps.AppendAt
import Derived.Laws.OwnMore
import Derived.Lib.AppendZeros
namespace Go.Proofs.YtfmhapajdnmhoafDoor
open Go.RowKit Dist

/-- A row of numbers of the call's own, that may be lengthened. -/
def Inl (w : World) (B : Nat) (v : Value) (zs : List Int) : Prop := w.ownsRow B 3 1 v zs.length (zs.map (Value.int .i64))
theorem Inl.nil (w : World) (B : Nat) : Inl w B (.slice none 0 0) [] := World.ownsRow_nil _ _ _ _
theorem Inl.later {B : Nat} {v : Value} {zs : List Int} {w w' : World} (h : Inl w B v zs) (hb : Below w.heap.size w w') : Inl w' B v zs := by
  refine ⟨h.1, ?_⟩
  rcases h.2 with h0 | ⟨g, cap, cur, hv, hB, hh, hr⟩
  · exact .inl h0
  · have hg : g < w.heap.size := by
      by_cases e : g < w.heap.size
      · exact e
      · rw [Array.getElem?_eq_none (by omega)] at hh; cases hh
    exact .inr ⟨g, cap, cur, hv, hB, blk_below hb hg hh, hr⟩
theorem Inl.ne {w : World} {B : Nat} {v : Value} {zs : List Int} (h : Inl w B v zs) {G : Nat} (hG : G < B) (i : Nat) (x : Value) : Inl (w.setCell ⟨G, i, none⟩ x) B v zs := by
  refine ⟨h.1, ?_⟩
  rcases h.2 with h0 | ⟨g, cap, cur, hv, hB, hh, hr⟩
  · exact .inl h0
  · refine .inr ⟨g, cap, cur, hv, hB, ?_, hr⟩
    have e : (w.setCell ⟨G, i, none⟩ x).heap[g]? = w.heap[g]? := by
      simp only [World.setCell, Array.getElem?_modify]
      rw [if_neg (by omega)]
    rw [e]; exact hh
theorem Inl.grown {w w' : World} {B : Nat} {v : Value} {zs : List Int} {row : Option Nat} (h : Inl w B v zs) (hg : w.grownBy w' row) (hne : ∀ k, v.ownBlock = some k → row ≠ some k) : Inl w' B v zs := by
  refine ⟨h.1, ?_⟩
  rcases h.2 with h0 | ⟨g, cap, cur, hv, hB, hh, hr⟩
  · exact .inl h0
  · have hlt : g < w.heap.size := (Array.getElem?_eq_some_iff.1 hh).1
    have := hg.block g hlt (fun e => hne g (by rw [hv]; rfl) e.symm)
    exact .inr ⟨g, cap, cur, hv, hB, this.trans hh, hr⟩
theorem Inl.base {w : World} {B B' : Nat} {v : Value} {zs : List Int} (h : Inl w B v zs) (hB : B' ≤ B) : Inl w B' v zs := by
  refine ⟨h.1, ?_⟩
  rcases h.2 with h0 | ⟨g, cap, cur, hv, hb, hr⟩
  · exact .inl h0
  · exact .inr ⟨g, cap, cur, hv, by omega, hr⟩
theorem Inl.ins {B : Nat} {v : Value} {zs : List Int} {w : World} (h : Inl w B v zs) : ∃ a cap, v = .slice a zs.length cap ∧ Ins w a zs ∧ zs.length ≤ cap := by
  rcases h.2 with ⟨rfl, h0⟩ | ⟨g, cap, cur, rfl, hB, hh, hnc, _, hcs, ht⟩
  · have : zs = [] := List.length_eq_zero_iff.1 h0
    subst this
    exact ⟨none, 0, rfl, fun i hi => absurd hi (by simp), Nat.le_refl _⟩
  · refine ⟨some ⟨g, 0, none⟩, cap, rfl, fun i hi => ⟨g, 0, rfl, ?_⟩, hnc⟩
    rw [Nat.zero_add, Lib.cell_of_heap hh]
    rw [Nat.mul_one] at ht
    have h1 : (cur.toList.take zs.length)[i]? = (zs.map (Value.int .i64))[i]? := by rw [ht]
    rw [List.getElem?_take, if_pos hi, List.getElem?_map] at h1
    rw [← Array.getElem?_toList, h1]
    simp [hi]

theorem run_app0 {P : Program} {w : World} (base : Nat) (t ty e : TypeId) (i : TypeInfo) (size c : Nat) (ht : P.underlying t = some (.slice e)) (hi : P.info? e = some i) (v : Value) (n : Nat) (xs : List Value) (hown : w.ownsRow base e size v n xs) :
    (Builtin.append_ #[t, t] ty #[v, .slice none 0 c]).run P w = .ok v w := by
  rcases hown.2 with ⟨rfl, rfl⟩ | ⟨g, cap, cur, rfl, _, _, hnc, _⟩
  · simp [Builtin.append_, run_underlying ht, sizeOf, typeInfo, hi, Builtin.lenOf, Builtin.firstCells]
  · simp [Builtin.append_, run_underlying ht, sizeOf, typeInfo, hi, Builtin.lenOf, Builtin.firstCells, hnc, storeCells]

/-- Numbers behind a row of one's own. -/
theorem append_ints_at {w : World} {ops : Array Oper} {rest : List Oper} {o : Oper} {a : Act} {Q : Exit → Act → World → Prop} (hgd : o.guard = none) (s x : Operand)
    (ho : o.op = .call { callee := .builtin .append, args := #[s, x], argTypes := #[36, 36] }) (B : Nat) (v : Value) (xs : List Int) (hs : a.eval s = v) (hown : Inl w B v xs)
    (ax : Option Addr) (zs : List Int) (m c : Nat) (hm : zs.length = m) (hx : a.eval x = .slice ax m c) (hst : Ins w ax zs) (h63 : xs.length + m ≤ 100000) (hbase : B ≤ w.heap.size)
    (h : ∀ v' w', Inl w' B v' (xs ++ zs) → w.grownBy w' v.ownBlock → (v'.ownBlock = v.ownBlock ∨ v'.ownBlock = some w.heap.size) → wpList Tryd.prog ops Q rest (a.put o.dst v') w') : wpList Tryd.prog ops Q (o :: rest) a w := by
  obtain ⟨i0, hi, hz0, hz1, hz2⟩ := info_parts Tryd.infoInt1
  subst hm
  have hnew : ∀ v' w', w'.ownsRow B 3 1 v' (xs.length + zs.length) (xs.map (Value.int .i64) ++ zs.map (Value.int .i64)) → Inl w' B v' (xs ++ zs) := fun v' w' h1 => by
    unfold Inl
    rw [List.length_append, List.map_append]; exact h1
  cases ax with
  | none =>
    have h0 : zs = [] := by
      cases zs with
      | nil => rfl
      | cons y r => obtain ⟨b, off, e, _⟩ := hst 0 (by simp); cases e
    subst h0
    refine Lib.wpList_append_run w hgd s x 36 36 ho _ _ hs hx v w (run_app0 B 36 o.type 3 i0 1 c Tryd.underlying36 hi v xs.length (xs.map (Value.int .i64)) hown) ?_
    exact h v w (by simpa using hown) ⟨rfl, rfl, rfl, Nat.le_refl _, fun _ _ _ => rfl⟩ (.inl rfl)
  | some ad =>
    refine wpList_append_own_at w hgd s x 36 ho B 3 i0 (.int .i64 0) 1 8 Tryd.underlying36 hi hz0 hz1 hz2 rfl (by decide) v xs.length (xs.map (Value.int .i64)) hs hown ad zs.length c (zs.map (Value.int .i64)) hx (by simp) (fun j u hj => ?_) (fun u hu => ?_) (by unfold maxLen; omega) (by omega) hbase (fun v' w' h1 h2 _ h4 => h v' w' (hnew v' w' h1) h2 h4)
    · rw [List.getElem?_map] at hj
      have hjl : j < zs.length := by
        by_cases e : j < zs.length
        · exact e
        · rw [List.getElem?_eq_none (by omega)] at hj; simp at hj
      obtain ⟨b, off, e, hc⟩ := hst j hjl
      obtain rfl := Option.some.inj e
      rw [List.getElem?_eq_getElem hjl] at hj
      simp only [Option.map_some, Option.some.injEq] at hj
      rw [← hj]
      have e2 : zs.getD j 0 = zs[j] := by simp [hjl]
      rw [e2] at hc
      have e3 : (⟨b, off, none⟩ : Addr).add j = ⟨b, off + j, none⟩ := by
        unfold Addr.add
        by_cases h0 : j = 0
        · subst h0; rfl
        · simp [h0]
      rw [e3]; exact hc
    · obtain ⟨y, _, rfl⟩ := List.mem_map.1 hu
      rfl

/-- The same, with fewer words. -/
theorem append_ints {w : World} {ops : Array Oper} {rest : List Oper} {o : Oper} {a : Act} {Q : Exit → Act → World → Prop} (hgd : o.guard = none) (s x : Operand)
    (ho : o.op = .call { callee := .builtin .append, args := #[s, x], argTypes := #[36, 36] }) (B : Nat) (v : Value) (xs : List Int) (hs : a.eval s = v) (hown : Inl w B v xs)
    (ax : Option Addr) (zs : List Int) (m c : Nat) (hm : zs.length = m) (hx : a.eval x = .slice ax m c) (hst : Ins w ax zs) (h63 : xs.length + m ≤ 100000) (hbase : B ≤ w.heap.size)
    (h : ∀ v' w', Inl w' B v' (xs ++ zs) → w.grownBy w' v.ownBlock → wpList Tryd.prog ops Q rest (a.put o.dst v') w') : wpList Tryd.prog ops Q (o :: rest) a w :=
  append_ints_at hgd s x ho B v xs hs hown ax zs m c hm hx hst h63 hbase fun v' w' h1 h2 _ => h v' w' h1 h2

/-- A row of one number that is written out. -/
theorem inl_one (w : World) (z : Int) : Inl (w.alloc (.cells #[.int .i64 z] 3)) w.heap.size (.slice (some ⟨w.heap.size, 0, none⟩) 1 1) [z] :=
  World.ownsRow_lit w #[.int .i64 z] 1 (Nat.le_refl _) (by decide) rfl

end Go.Proofs.YtfmhapajdnmhoafDoor
namespace Go.Proofs.YtfmhapajdnmhoafDoor
open Go.RowKit Dist

theorem Tryd.infoInts1 : (Tryd.prog.info? 36).map (fun i => (i.zero, i.size, i.bytes)) = some (some (.slice none 0 0), 1, 24) := by kernel_rfl

/-- Rows of rows of the call's own. -/
def Sql (w : World) (B : Nat) (v : Value) (ds : List (List Int)) : Prop :=
  ∃ vs : List Value, w.ownsRow B 36 1 v ds.length vs ∧ ∀ i, i < ds.length → ∃ g cap, vs[i]? = some (.slice g (ds.getD i []).length cap) ∧ Ins w g (ds.getD i []) ∧ ∀ x, g = some x → v.ownBlock ≠ some x.block ∧ x.block < w.heap.size

theorem Sql.nil (w : World) (B : Nat) : Sql w B (.slice none 0 0) [] := ⟨[], World.ownsRow_nil _ _ _ _, fun i hi => absurd hi (by simp)⟩
theorem own_blk {w w' : World} {B : Nat} {e : TypeId} {k : Nat} {v : Value} {n : Nat} {xs : List Value} (h : w.ownsRow B e k v n xs) (hb : Below w.heap.size w w') : w'.ownsRow B e k v n xs := by
  refine ⟨h.1, ?_⟩
  rcases h.2 with h0 | ⟨g, cap, cur, hv, hB, hh, hr⟩
  · exact .inl h0
  · have hg : g < w.heap.size := by
      by_cases e : g < w.heap.size
      · exact e
      · rw [Array.getElem?_eq_none (by omega)] at hh; cases hh
    exact .inr ⟨g, cap, cur, hv, hB, blk_below hb hg hh, hr⟩
theorem Sql.below {w w' : World} {B : Nat} {v : Value} {ds : List (List Int)} (h : Sql w B v ds) (hb : Below w.heap.size w w') : Sql w' B v ds := by
  obtain ⟨vs, h1, h2⟩ := h
  refine ⟨vs, own_blk h1 hb, fun i hi => ?_⟩
  obtain ⟨g, cap, e, hr, hx⟩ := h2 i hi
  exact ⟨g, cap, e, hr.below hb, fun x hx' => ⟨(hx x hx').1, Nat.lt_of_lt_of_le (hx x hx').2 hb.size⟩⟩
theorem Ins.grown {w w' : World} {a : Option Addr} {zs : List Int} {row : Option Nat} (h : Ins w a zs) (hg : w.grownBy w' row) (hne : ∀ x, a = some x → row ≠ some x.block) : Ins w' a zs := by
  intro i hi
  obtain ⟨b, off, e, hc⟩ := h i hi
  refine ⟨b, off, e, ?_⟩
  have hlt : b < w.heap.size := by
    by_cases hb : b < w.heap.size
    · exact hb
    · simp [World.cell?, Array.getElem?_eq_none (Nat.le_of_not_lt hb)] at hc
  have := hg.block b hlt (fun e2 => hne _ e e2.symm)
  exact (World.cell?_of_block (w := w) (a := ⟨b, off + i, none⟩) this).trans hc
theorem Sql.snoc {w w' : World} {B : Nat} {v v' : Value} {ds : List (List Int)} {vs : List Value} {g : Option Addr} {r : List Int} {cap : Nat}
    (h2 : ∀ i, i < ds.length → ∃ g cap, vs[i]? = some (.slice g (ds.getD i []).length cap) ∧ Ins w g (ds.getD i []) ∧ ∀ x, g = some x → v.ownBlock ≠ some x.block ∧ x.block < w.heap.size) (hl : vs.length = ds.length)
    (hr : Ins w g r) (hx : ∀ x, g = some x → v.ownBlock ≠ some x.block ∧ x.block < w.heap.size) (hown : w'.ownsRow B 36 1 v' (ds.length + 1) (vs ++ [.slice g r.length cap])) (hg : w.grownBy w' v.ownBlock) (hv : v'.ownBlock = v.ownBlock ∨ v'.ownBlock = some w.heap.size) : Sql w' B v' (ds ++ [r]) := by
  have hnew : ∀ x : Addr, (v.ownBlock ≠ some x.block ∧ x.block < w.heap.size) → v'.ownBlock ≠ some x.block ∧ x.block < w'.heap.size := fun x ⟨p, q⟩ => ⟨by
    rcases hv with e | e
    · rw [e]; exact p
    · rw [e]; simp; omega, Nat.lt_of_lt_of_le q hg.size⟩
  refine ⟨vs ++ [.slice g r.length cap], by rw [List.length_append]; exact hown, fun i hi => ?_⟩
  rw [List.length_append] at hi
  by_cases e : i < ds.length
  · obtain ⟨g1, c1, e1, hr1, hx1⟩ := h2 i e
    have e2 : (ds ++ [r]).getD i [] = ds.getD i [] := by simp [List.getElem?_append_left e]
    refine ⟨g1, c1, ?_, ?_, fun x hh => hnew x (hx1 x hh)⟩
    · rw [e2, List.getElem?_append_left (by omega)]; exact e1
    · rw [e2]; exact hr1.grown hg fun x hh => (hx1 x hh).1
  · have e3 : i = ds.length := by simp at hi; omega
    subst e3
    have e2 : (ds ++ [r]).getD ds.length [] = r := by simp
    refine ⟨g, cap, ?_, ?_, fun x hh => hnew x (hx x hh)⟩
    · rw [e2, List.getElem?_append_right (by omega), hl]; simp
    · rw [e2]; exact hr.grown hg fun x hh => (hx x hh).1
theorem Sql.sqr {w : World} {B : Nat} {v : Value} {ds : List (List Int)} (h : Sql w B v ds) : ∃ a cap, v = .slice a ds.length cap ∧ Sqr w a ds := by
  obtain ⟨vs, h1, h2⟩ := h
  rcases h1.2 with ⟨rfl, h0⟩ | ⟨g, cap, cur, rfl, hB, hh, hnc, _, hcs, ht⟩
  · have : ds = [] := List.length_eq_zero_iff.1 h0
    subst this
    exact ⟨none, 0, rfl, fun i hi => absurd hi (by simp)⟩
  · refine ⟨some ⟨g, 0, none⟩, cap, rfl, fun i hi => ?_⟩
    obtain ⟨g1, c1, e1, hr1, _⟩ := h2 i hi
    refine ⟨g, 0, g1, c1, rfl, ?_, hr1⟩
    rw [Nat.zero_add, Lib.cell_of_heap hh]
    rw [Nat.mul_one] at ht
    rw [← ht, List.getElem?_take, if_pos hi] at e1
    rw [← Array.getElem?_toList, e1]
theorem Inl.at {B : Nat} {v : Value} {zs : List Int} {w : World} (h : Inl w B v zs) : ∃ a cap, v = .slice a zs.length cap ∧ Ins w a zs ∧ ∀ x, a = some x → B ≤ x.block ∧ x.block < w.heap.size := by
  obtain ⟨a, cap, rfl, hi, _⟩ := h.ins
  refine ⟨a, cap, rfl, hi, fun x hx => ?_⟩
  subst hx
  rcases h.2 with ⟨h0, _⟩ | ⟨g, c, cur, h0, hB, hh, _⟩
  · simp at h0
  · simp at h0
    obtain ⟨rfl, _⟩ := h0
    exact ⟨hB, (Array.getElem?_eq_some_iff.1 hh).1⟩

theorem Inl.own {w : World} {B : Nat} {v : Value} {zs : List Int} (h : Inl w B v zs) : ∀ k, v.ownBlock = some k → B ≤ k ∧ k < w.heap.size := by
  intro k hk
  rcases h.2 with ⟨rfl, _⟩ | ⟨g, cap, cur, rfl, hB, hh, _⟩
  · cases hk
  · cases hk
    exact ⟨hB, (Array.getElem?_eq_some_iff.1 hh).1⟩
theorem Sql.own {w : World} {B : Nat} {v : Value} {ds : List (List Int)} (h : Sql w B v ds) : ∀ k, v.ownBlock = some k → B ≤ k ∧ k < w.heap.size := by
  intro k hk
  obtain ⟨vs, h1, _⟩ := h
  rcases h1.2 with ⟨rfl, _⟩ | ⟨g, cap, cur, rfl, hB, hh, _⟩
  · cases hk
  · cases hk
    exact ⟨hB, (Array.getElem?_eq_some_iff.1 hh).1⟩
theorem ins_one (w : World) (v : Int) : Ins (w.alloc (.cells #[.int .i64 v] 3)) (some ⟨w.heap.size, 0, none⟩) [v] := by
  intro i hi
  refine ⟨w.heap.size, 0, rfl, ?_⟩
  rw [Nat.zero_add, Lib.cell_of_heap (heap_alloc_new w _)]
  match i, hi with
  | 0, _ => rfl

/-- A row behind rows. -/
theorem append_row {w : World} {ops : Array Oper} {rest : List Oper} {o : Oper} {a : Act} {Q : Exit → Act → World → Prop} (hgd : o.guard = none) (s x : Operand)
    (ho : o.op = .call { callee := .builtin .append, args := #[s, x], argTypes := #[44, 44] }) (B : Nat) (v : Value) (ds : List (List Int)) (hs : a.eval s = v) (hown : Sql w B v ds)
    (b : Nat) (g : Option Addr) (r : List Int) (m c : Nat) (hm : r.length = m) (hx : a.eval x = .slice (some ⟨b, 0, none⟩) 1 1) (hc : w.cell? ⟨b, 0, none⟩ = some (.slice g m c)) (hr : Ins w g r) (hne : ∀ x, g = some x → v.ownBlock ≠ some x.block ∧ x.block < w.heap.size) (h63 : ds.length ≤ 100000) (hbase : B ≤ w.heap.size)
    (h : ∀ v' w', Sql w' B v' (ds ++ [r]) → w.grownBy w' v.ownBlock → (v'.ownBlock = v.ownBlock ∨ v'.ownBlock = some w.heap.size) → wpList Tryd.prog ops Q rest (a.put o.dst v') w') : wpList Tryd.prog ops Q (o :: rest) a w := by
  obtain ⟨i0, hi, hz0, hz1, hz2⟩ := info_parts Tryd.infoInts1
  subst hm
  obtain ⟨vs, h1, h2⟩ := hown
  refine wpList_append_own_at w hgd s x 44 ho B 36 i0 (.slice none 0 0) 1 24 Tryd.underlying44 hi hz0 hz1 hz2 rfl (by decide) v ds.length vs hs h1 ⟨b, 0, none⟩ 1 1 [.slice g r.length c] hx (by simp) (fun j u hj => ?_) (fun u hu => ?_) (by unfold maxLen; omega) (by omega) hbase (fun v' w' h3 h4 _ h5 => h v' w' (Sql.snoc h2 (by have := h1.1; omega) hr hne h3 h4 h5) h4 h5)
  · match j, hj with
    | 0, hj =>
      obtain rfl : _ = u := by simpa using hj
      exact hc
  · obtain rfl := List.mem_singleton.1 hu
    rfl

end Go.Proofs.YtfmhapajdnmhoafDoor
