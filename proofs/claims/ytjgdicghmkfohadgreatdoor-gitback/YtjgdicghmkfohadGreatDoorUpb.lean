/-
  Walk of unified.Parse: a text as hunks.
-/
import Derived.Test.YtjgdicghmkfohadGreatDoorUpa

namespace Go.Proofs.YtjgdicghmkfohadGreatDoor
open Go.RowKit Dist

/-- A row of hunks whose marks lie anywhere but in it. -/
def Cps (w : World) (B g cp : Nat) (l : List Uk) : Prop := ∃ xs : List Value, w.ownsRow B 45 3 (.slice (some ⟨g, 0, none⟩) l.length cp) l.length xs ∧ ∀ i, i < l.length → ∃ am cm, xs[i * 3]? = some (.int .i64 (l.getD i (0, 0, [])).1) ∧ xs[i * 3 + 1]? = some (.int .i64 (l.getD i (0, 0, [])).2.1) ∧ xs[i * 3 + 2]? = some (.slice am (l.getD i (0, 0, [])).2.2.length cm) ∧ Mks w am (l.getD i (0, 0, [])).2.2 ∧ (l.getD i (0, 0, [])).2.2.length ≤ cm ∧ ∀ b off, am = some ⟨b, off, none⟩ → b ≠ g

theorem Cps.below {w w' : World} {B g cp : Nat} {l : List Uk} (h : Cps w B g cp l) (hb : Below w.heap.size w w') : Cps w' B g cp l := by
  obtain ⟨xs, h1, h2⟩ := h
  refine ⟨xs, own_later h1 hb, fun i hi => ?_⟩
  obtain ⟨am, cm, a1, a2, a3, a4, a5, a6⟩ := h2 i hi
  exact ⟨am, cm, a1, a2, a3, a4.below hb, a5, a6⟩

theorem Cps.hks {w : World} {B g cp : Nat} {l : List Uk} (h : Cps w B g cp l) : Hks w (some ⟨g, 0, none⟩) l ∧ l.length ≤ cp := by
  obtain ⟨xs, h1, h2⟩ := h
  refine ⟨fun i hi => ?_, ?_⟩
  · obtain ⟨am, cm, a1, a2, a3, a4, a5, a6⟩ := h2 i hi
    refine ⟨g, 0, am, cm, rfl, ?_, ?_, ?_, a4, a5⟩
    · rw [Nat.zero_add, h1.cellAt _ (by omega)]; exact a1
    · rw [Nat.zero_add, h1.cellAt _ (by omega)]; exact a2
    · rw [Nat.zero_add, h1.cellAt _ (by omega)]; exact a3
  · rcases h1.2 with ⟨h', _⟩ | ⟨g', cap', cur, h', _, _, hle, _⟩
    · simp at h'
    · simp only [Value.slice.injEq, Option.some.injEq, Addr.mk.injEq, and_true, true_and] at h'
      omega

theorem Rcl.cps {w : World} {B : Nat} {v : Value} {l : List Uk} (h : Rcl w B v l) : (l = [] ∧ v = .slice none 0 0) ∨ ∃ g cp, v = .slice (some ⟨g, 0, none⟩) l.length cp ∧ B ≤ g ∧ Cps w B g cp l := by
  obtain ⟨xs, h1, h2, h3⟩ := h
  have h1' := h1
  rcases h1.2 with ⟨rfl, h0⟩ | ⟨g, cap, cur, rfl, hB, hgg, _⟩
  · exact .inl ⟨List.length_eq_zero_iff.1 h0, rfl⟩
  · refine .inr ⟨g, cap, rfl, hB, xs, h1', fun i hi => ?_⟩
    obtain ⟨vm, a1, a2, a3, a4, a5⟩ := h3 i hi
    obtain ⟨am, cm, rfl, hmk⟩ := mks_of_own a4
    refine ⟨am, cm, a1, a2, a3, hmk, ?_, fun b off e => ?_⟩
    · rcases a4.2 with ⟨e, e0⟩ | ⟨g', cap', cur', e, _, _, hle, _⟩
      · omega
      · simp only [Value.slice.injEq] at e; omega
    · subst e
      obtain ⟨c2, f2, hk2⟩ := own_type a4 (g := b) rfl
      intro e
      rw [e, hgg] at hk2
      simp at hk2

/-- Hunks that have been read, as they lie in memory. -/
theorem Rcl.lie {w : World} {B : Nat} {v : Value} {l : List Uk} (h : Rcl w B v l) : ∃ a cp, v = .slice a l.length cp ∧ Hks w a l ∧ l.length ≤ cp := by
  rcases h.cps with ⟨rfl, rfl⟩ | ⟨g, cp, rfl, _, h⟩
  · exact ⟨none, 0, rfl, Hks.nil _ _, Nat.le_refl _⟩
  · exact ⟨_, cp, rfl, h.hks.1, h.hks.2⟩

end Go.Proofs.YtjgdicghmkfohadGreatDoor
