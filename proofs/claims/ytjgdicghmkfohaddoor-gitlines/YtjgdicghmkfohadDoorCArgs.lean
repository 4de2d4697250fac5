/-
  Arguments as the walks want them: lists of changes.
-/
import Derived.Test.YtjgdicghmkfohadDoorHArgs
import Derived.Test.YtjgdicghmkfohadDoorChs

namespace Go.Proofs.YtjgdicghmkfohadDoor
open Go.ChangeShapes Go.WideShapes Go.ChangeAt Go.RowKit

/-- Hunks that came in: no more than there is room for. -/
theorem hks_cap {H : Type} {enc : TypeId × Value → H} {W : World} {a : Option Addr} {len cap : Nat} {d : DataW H} {p : List MemPlace} (h : DataW.Trod enc Tryd.prog W 0 (fun _ => true) true 31 (.slice a len cap) d p) : len ≤ cap := by
  obtain ⟨fuel, hf⟩ := h
  rcases Deep.open_slice Tryd.underlying31 hf with h0 | ⟨a', len', cap', _, _, _, _, h0, _, hl, _⟩
  · have := h0.1
    simp [Value.cells] at this
    omega
  · simp [Value.cells] at h0
    omega

/-- Changes that came in. -/
theorem chs_of {H : Type} {enc : TypeId × Value → H} {W : World} {a : Option Addr} {len cap : Nat} {d : DataW H} {p : List MemPlace} (h : DataW.Trod enc Tryd.prog W 0 (fun _ => true) true 23 (.slice a len cap) d p) :
    ∃ l : List Ch, l.length = len ∧ len ≤ maxLen ∧ Chs W a l ∧ (∀ c ∈ l, c.2.2.length ≤ maxLen) ∧ (∀ c ∈ l, ∀ x ∈ c.2.2, x.2.2.length ≤ maxLen) ∧ (∀ c ∈ l, ∀ x ∈ c.2.2, ∀ m ∈ x.2.2, m.2.size ≤ maxLen) ∧ len ≤ cap := by
  obtain ⟨fuel, hf⟩ := h
  rcases open_triples Tryd.underlying23 Tryd.underlying33 (by kernel_rfl) rfl rfl rfl (by kernel_rfl) (by kernel_rfl) (by kernel_rfl) hf with hcs | ⟨x, l, c, hcs, hl, hm, hat⟩
  · simp [Value.cells] at hcs
    obtain ⟨rfl, rfl, rfl⟩ := hcs
    exact ⟨[], rfl, Nat.zero_le _, Chs.nil _ _, by simp, by simp, by simp, Nat.le_refl _⟩
  · simp [Value.cells] at hcs
    obtain ⟨rfl, rfl, rfl⟩ := hcs
    obtain ⟨b, off, spot⟩ := x
    have hv : ∀ i, i < len → ∃ z : Int × ByteArray × Option Addr × List (Int × Int × List (Int × ByteArray)) × Nat, W.cell? ((⟨b, off, spot⟩ : Addr).add (i * 3)) = some (.int .i64 z.1) ∧ W.cell? ((⟨b, off, spot⟩ : Addr).add (i * 3 + 1)) = some (.string z.2.1) ∧ W.cell? ((⟨b, off, spot⟩ : Addr).add (i * 3 + 2)) = some (.slice z.2.2.1 z.2.2.2.1.length z.2.2.2.2) ∧ Hks W z.2.2.1 z.2.2.2.1 ∧ z.2.2.2.1.length ≤ maxLen ∧ (∀ x ∈ z.2.2.2.1, x.2.2.length ≤ maxLen) ∧ (∀ x ∈ z.2.2.2.1, ∀ m ∈ x.2.2, m.2.size ≤ maxLen) ∧ z.2.2.2.1.length ≤ z.2.2.2.2 := by
      intro i hi
      obtain ⟨v0, v1, v2, k, y0, y1, y2, e0, e1, e2, t0, t1, t2⟩ := hat i hi
      obtain ⟨o, ho, _, _⟩ := DataW.trod_int Tryd.underlying3 t0
      obtain ⟨s, hs, _, _⟩ := DataW.trod_string Tryd.underlying9 t1
      simp at ho hs
      obtain ⟨am, lm, cm, rfl⟩ : ∃ am lm cm, v2 = .slice am lm cm := by
        rcases Deep.open_slice Tryd.underlying31 t2 with h0 | ⟨a', len', cap', _, _, _, _, h0, _⟩
        · have := h0.1; simp at this; exact ⟨_, _, _, this⟩
        · simp at h0; exact ⟨_, _, _, h0⟩
      have hcp := hks_cap (a := am) (len := lm) (cap := cm) (d := y2.1) (p := y2.2) ⟨k, by simpa [Value.cells] using t2⟩
      obtain ⟨hs', hl1, hl2, hk, hk1, hk2⟩ := hks_of (a := am) (len := lm) (cap := cm) (d := y2.1) (p := y2.2) ⟨k, by simpa [Value.cells] using t2⟩
      exact ⟨(o, s, am, hs', cm), by rw [e0, ho], by rw [e1, hs], by rw [e2, hl1], hk, by rw [hl1]; exact hl2, hk1, hk2, by rw [hl1]; exact hcp⟩
    obtain ⟨g, hg⟩ := Deep.choose_lt hv
    refine ⟨(List.range len).map fun i => ((g i).1, (g i).2.1, (g i).2.2.2.1), by simp, by omega, ?_, ?_, ?_, ?_, hl⟩
    · intro i hi
      simp at hi
      obtain ⟨r0, r1, r2, r3, _, _, _, r4⟩ := hg i hi
      have hspot : spot = none := by simpa [Addr.add] using World.cell?_spot (hg 0 (by omega)).1
      subst hspot
      have e : ((List.range len).map fun i => ((g i).1, (g i).2.1, (g i).2.2.2.1)).getD i cz = ((g i).1, (g i).2.1, (g i).2.2.2.1) := by simp [hi]
      rw [e]
      rw [add_plain] at r0 r1 r2
      exact ⟨b, off, (g i).2.2.1, (g i).2.2.2.2, rfl, r0, by rw [Nat.add_assoc]; exact r1, by rw [Nat.add_assoc]; exact r2, r3, r4⟩
    · intro x hx
      obtain ⟨i, hi, rfl⟩ := List.mem_map.1 hx
      exact (hg i (List.mem_range.1 hi)).2.2.2.2.1
    · intro x hx
      obtain ⟨i, hi, rfl⟩ := List.mem_map.1 hx
      exact (hg i (List.mem_range.1 hi)).2.2.2.2.2.1
    · intro x hx
      obtain ⟨i, hi, rfl⟩ := List.mem_map.1 hx
      exact (hg i (List.mem_range.1 hi)).2.2.2.2.2.2.1

end Go.Proofs.YtjgdicghmkfohadDoor
