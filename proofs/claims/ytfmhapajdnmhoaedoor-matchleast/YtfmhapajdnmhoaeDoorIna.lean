/-
  Rows of numbers that a call lengthens.
-/
import Derived.Test.YtfmhapajdnmhoaeDoorMat
import Derived.Maps.AppendAt
import Derived.Laws.OwnMore
import Derived.Lib.AppendZeros

namespace Go.Proofs.YtfmhapajdnmhoaeDoor
open Go.RowKit Dist

/-- A row of numbers of the call's own, that may be lengthened. -/
def Inl (w : World) (B : Nat) (v : Value) (zs : List Int) : Prop := w.ownsRow B 3 1 v zs.length (zs.map (Value.int .i64))
theorem Inl.nil (w : World) (B : Nat) : Inl w B (.slice none 0 0) [] := World.ownsRow_nil _ _ _ _
theorem Inl.later {B : Nat} {v : Value} {zs : List Int} {w w' : World} (h : Inl w B v zs) (hb : Below w.heap.size w w') : Inl w' B v zs := by
  refine ⟨h.1, ?_⟩
  rcases h.2 with h0 | ⟨g, cap, cur, hv, hB, hh, hr⟩
  · exact .inl h0
  · have hg : g < w.heap.size := by
      by_cases e : g < w.heap.size
      · exact e
      · rw [Array.getElem?_eq_none (by omega)] at hh; cases hh
    exact .inr ⟨g, cap, cur, hv, hB, blk_below hb hg hh, hr⟩
theorem Inl.ne {w : World} {B : Nat} {v : Value} {zs : List Int} (h : Inl w B v zs) {G : Nat} (hG : G < B) (i : Nat) (x : Value) : Inl (w.setCell ⟨G, i, none⟩ x) B v zs := by
  refine ⟨h.1, ?_⟩
  rcases h.2 with h0 | ⟨g, cap, cur, hv, hB, hh, hr⟩
  · exact .inl h0
  · refine .inr ⟨g, cap, cur, hv, hB, ?_, hr⟩
    have e : (w.setCell ⟨G, i, none⟩ x).heap[g]? = w.heap[g]? := by
      simp only [World.setCell, Array.getElem?_modify]
      rw [if_neg (by omega)]
    rw [e]; exact hh
theorem Inl.base {w : World} {B B' : Nat} {v : Value} {zs : List Int} (h : Inl w B v zs) (hB : B' ≤ B) : Inl w B' v zs := by
  refine ⟨h.1, ?_⟩
  rcases h.2 with h0 | ⟨g, cap, cur, hv, hb, hr⟩
  · exact .inl h0
  · exact .inr ⟨g, cap, cur, hv, by omega, hr⟩
theorem Inl.ins {B : Nat} {v : Value} {zs : List Int} {w : World} (h : Inl w B v zs) : ∃ a cap, v = .slice a zs.length cap ∧ Ins w a zs ∧ zs.length ≤ cap := by
  rcases h.2 with ⟨rfl, h0⟩ | ⟨g, cap, cur, rfl, hB, hh, hnc, _, hcs, ht⟩
  · have : zs = [] := List.length_eq_zero_iff.1 h0
    subst this
    exact ⟨none, 0, rfl, fun i hi => absurd hi (by simp), Nat.le_refl _⟩
  · refine ⟨some ⟨g, 0, none⟩, cap, rfl, fun i hi => ⟨g, 0, rfl, ?_⟩, hnc⟩
    rw [Nat.zero_add, Lib.cell_of_heap hh]
    rw [Nat.mul_one] at ht
    have h1 : (cur.toList.take zs.length)[i]? = (zs.map (Value.int .i64))[i]? := by rw [ht]
    rw [List.getElem?_take, if_pos hi, List.getElem?_map] at h1
    rw [← Array.getElem?_toList, h1]
    simp [hi]

theorem run_app0 {P : Program} {w : World} (base : Nat) (t ty e : TypeId) (i : TypeInfo) (size c : Nat) (ht : P.underlying t = some (.slice e)) (hi : P.info? e = some i) (v : Value) (n : Nat) (xs : List Value) (hown : w.ownsRow base e size v n xs) :
    (Builtin.append_ #[t, t] ty #[v, .slice none 0 c]).run P w = .ok v w := by
  rcases hown.2 with ⟨rfl, rfl⟩ | ⟨g, cap, cur, rfl, _, _, hnc, _⟩
  · simp [Builtin.append_, run_underlying ht, sizeOf, typeInfo, hi, Builtin.lenOf, Builtin.firstCells]
  · simp [Builtin.append_, run_underlying ht, sizeOf, typeInfo, hi, Builtin.lenOf, Builtin.firstCells, hnc, storeCells]

/-- Numbers behind a row of one's own. -/
theorem append_ints {w : World} {ops : Array Oper} {rest : List Oper} {o : Oper} {a : Act} {Q : Exit → Act → World → Prop} (hgd : o.guard = none) (s x : Operand)
    (ho : o.op = .call { callee := .builtin .append, args := #[s, x], argTypes := #[58, 58] }) (B : Nat) (v : Value) (xs : List Int) (hs : a.eval s = v) (hown : Inl w B v xs)
    (ax : Option Addr) (zs : List Int) (m c : Nat) (hm : zs.length = m) (hx : a.eval x = .slice ax m c) (hst : Ins w ax zs) (h63 : xs.length + m ≤ 100000) (hbase : B ≤ w.heap.size)
    (h : ∀ v' w', Inl w' B v' (xs ++ zs) → w.grownBy w' v.ownBlock → wpList Tryd.prog ops Q rest (a.put o.dst v') w') : wpList Tryd.prog ops Q (o :: rest) a w := by
  obtain ⟨i0, hi, hz0, hz1, hz2⟩ := info_parts Tryd.infoInt1
  subst hm
  have hnew : ∀ v' w', w'.ownsRow B 3 1 v' (xs.length + zs.length) (xs.map (Value.int .i64) ++ zs.map (Value.int .i64)) → Inl w' B v' (xs ++ zs) := fun v' w' h1 => by
    unfold Inl
    rw [List.length_append, List.map_append]; exact h1
  cases ax with
  | none =>
    have h0 : zs = [] := by
      cases zs with
      | nil => rfl
      | cons y r => obtain ⟨b, off, e, _⟩ := hst 0 (by simp); cases e
    subst h0
    refine Lib.wpList_append_run w hgd s x 58 58 ho _ _ hs hx v w (run_app0 B 58 o.type 3 i0 1 c Tryd.underlying58 hi v xs.length (xs.map (Value.int .i64)) hown) ?_
    exact h v w (by simpa using hown) ⟨rfl, rfl, rfl, Nat.le_refl _, fun _ _ _ => rfl⟩
  | some ad =>
    refine wpList_append_own_at w hgd s x 58 ho B 3 i0 (.int .i64 0) 1 8 Tryd.underlying58 hi hz0 hz1 hz2 rfl (by decide) v xs.length (xs.map (Value.int .i64)) hs hown ad zs.length c (zs.map (Value.int .i64)) hx (by simp) (fun j u hj => ?_) (fun u hu => ?_) (by unfold maxLen; omega) (by omega) hbase (fun v' w' h1 h2 _ _ => h v' w' (hnew v' w' h1) h2)
    · rw [List.getElem?_map] at hj
      have hjl : j < zs.length := by
        by_cases e : j < zs.length
        · exact e
        · rw [List.getElem?_eq_none (by omega)] at hj; simp at hj
      obtain ⟨b, off, e, hc⟩ := hst j hjl
      obtain rfl := Option.some.inj e
      rw [List.getElem?_eq_getElem hjl] at hj
      simp only [Option.map_some, Option.some.injEq] at hj
      rw [← hj]
      have e2 : zs.getD j 0 = zs[j] := by simp [hjl]
      rw [e2] at hc
      have e3 : (⟨b, off, none⟩ : Addr).add j = ⟨b, off + j, none⟩ := by
        unfold Addr.add
        by_cases h0 : j = 0
        · subst h0; rfl
        · simp [h0]
      rw [e3]; exact hc
    · obtain ⟨y, _, rfl⟩ := List.mem_map.1 hu
      rfl

/-- A row of one number that is written out. -/
theorem inl_one (w : World) (z : Int) : Inl (w.alloc (.cells #[.int .i64 z] 3)) w.heap.size (.slice (some ⟨w.heap.size, 0, none⟩) 1 1) [z] :=
  World.ownsRow_lit w #[.int .i64 z] 1 (Nat.le_refl _) (by decide) rfl

end Go.Proofs.YtfmhapajdnmhoaeDoor
