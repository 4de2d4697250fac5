/-
  The fault that an error tells: none, one by itself, the first one of those that were joined.
-/
import Derived.Test.YtnkdmgekpajfhaeDoorPdb

namespace Go.Proofs.YtnkdmgekpajfhaeDoor
open Go.RowKit Dist

/-- The first fault that keeps two trees from being compared. -/
def df1 (a b : List Fl) (n : Int) : Int := if (tf a).2 ≠ 0 then (tf a).2 else if (tf b).2 ≠ 0 then (tf b).2 else if n < 0 ∨ 1000 < n then 1 else 0

theorem nz_first {a b : List Fl} {n : Int} (h : nz (dfs a b n) ≠ []) : df1 a b n ≠ 0 ∧ ∃ r, nz (dfs a b n) = df1 a b n :: r := by
  unfold df1
  unfold nz dfs at h ⊢
  by_cases h1 : (tf a).2 = 0
  · rw [if_neg (fun e => e h1)]
    by_cases h2 : (tf b).2 = 0
    · rw [if_neg (fun e => e h2)]
      by_cases h3 : n < 0 ∨ 1000 < n
      · rw [if_pos h3]
        refine ⟨by decide, [], ?_⟩
        simp [h1, h2]
      · rw [if_neg h3] at h
        simp [h1, h2] at h
    · rw [if_pos h2]
      refine ⟨h2, List.filter (fun f => decide (f ≠ 0)) [if n < 0 ∨ 1000 < n then 1 else 0], ?_⟩
      rw [List.filter_cons_of_neg (by simp [h1]), List.filter_cons_of_pos (by simp [h2])]
  · rw [if_pos h1]
    refine ⟨h1, List.filter (fun f => decide (f ≠ 0)) [(tf b).2, if n < 0 ∨ 1000 < n then 1 else 0], ?_⟩
    rw [List.filter_cons_of_pos (by simp [h1])]

/-- The first of what was joined, where it lies. -/
theorem join_cells {w : World} {B : Nat} {v : Value} {f : Int} {r : List Int} (hf : f ≠ 0) (h : w.ownsRow B 28 1 v (f :: r).length ((f :: r).map errV)) : ∃ g m c, v = .slice (some ⟨g, 0, none⟩) m c ∧ 0 < m ∧ w.cell? ⟨g, 0, none⟩ = some (.iface 45 (.int .i64 f)) := by
  rcases h.2 with ⟨_, h0⟩ | ⟨g, cap, cur, rfl, _, hh, _, _, _, ht⟩
  · simp at h0
  · refine ⟨g, _, cap, rfl, by simp, ?_⟩
    have hc : w.cell? ⟨g, 0, none⟩ = ((f :: r).map errV)[0]? := by
      rw [Lib.cell_of_heap hh, ← Array.getElem?_toList, ← ht, List.getElem?_take, if_pos (by simp)]
    rw [hc]
    simp [errV_not hf]

/-- An error that tells a fault. -/
def Erd (w : World) (v : Value) (f : Int) : Prop := (f = 0 ∧ v = .nilIface) ∨ (f ≠ 0 ∧ v = .iface 45 (.int .i64 f)) ∨ (f ≠ 0 ∧ ∃ J g k c, v = .iface 147 (.pointer (some ⟨J, 0, none⟩)) ∧ w.cell? ⟨J, 0, none⟩ = some (.slice (some ⟨g, 0, none⟩) k c) ∧ 0 < k ∧ w.cell? ⟨g, 0, none⟩ = some (.iface 45 (.int .i64 f)))
theorem Erd.zero (w : World) : Erd w .nilIface 0 := .inl ⟨rfl, rfl⟩
theorem Erd.err (w : World) (f : Int) : Erd w (errV f) f := by
  by_cases h : f = 0
  · subst h; exact .inl ⟨rfl, rfl⟩
  · exact .inr (.inl ⟨h, errV_not h⟩)
theorem Erd.below {w w' : World} {v : Value} {f : Int} (h : Erd w v f) (hb : Below w.heap.size w w') : Erd w' v f := by
  rcases h with h | h | ⟨h, J, g, k, c, e, h1, h2, h3⟩
  · exact .inl h
  · exact .inr (.inl h)
  · exact .inr (.inr ⟨h, J, g, k, c, e, cell_later hb h1, h2, cell_later hb h3⟩)

end Go.Proofs.YtnkdmgekpajfhaeDoor
