/-
  Arguments as the walks want them: lists of hunks.
-/
import Derived.Test.YtnkdmgekpajfhaeDoorArgs
import Derived.Test.YtnkdmgekpajfhaeDoorHks
import Derived.Deep.Slices
import Derived.ChangeSame

namespace Go.Proofs.YtnkdmgekpajfhaeDoor
open Go.ChangeShapes Go.WideShapes Go.ChangeAt Go.RowKit

/-- A slice of structs of three fields of one cell each, opened. -/
theorem open_triples {H : Type} {enc : TypeId × Value → H} {P : Program} {w : World} {base : Nat} {spare : Nat → Bool} {held : Bool} {t e : TypeId} {f0 f1 f2 : Field} {fuel : Nat} {cs : List Value} {x : DataW H × List MemPlace} (ht : P.underlying t = some (.slice e)) (he : P.underlying e = some (.struct #[f0, f1, f2]))
    (ce : P.cellsOf e = 3) (o0 : f0.offset = 0) (o1 : f1.offset = 1) (o2 : f2.offset = 2) (c0 : P.cellsOf f0.type = 1) (c1 : P.cellsOf f1.type = 1) (c2 : P.cellsOf f2.type = 1)
    (h : DataW.trod enc P w base spare held fuel t cs = some x) :
    (cs = [.slice none 0 0]) ∨
    ∃ (a : Addr) (len cap : Nat), cs = [.slice (some a) len cap] ∧ len ≤ cap ∧ cap ≤ maxLen ∧
      ∀ i, i < len → ∃ v0 v1 v2 k y0 y1 y2, w.cell? (a.add (i * 3)) = some v0 ∧ w.cell? (a.add (i * 3 + 1)) = some v1 ∧ w.cell? (a.add (i * 3 + 2)) = some v2 ∧
        DataW.trod enc P w base spare held k f0.type [v0] = some y0 ∧ DataW.trod enc P w base spare held k f1.type [v1] = some y1 ∧ DataW.trod enc P w base spare held k f2.type [v2] = some y2 := by
  rcases Deep.open_slice ht h with h0 | ⟨a, len, cap, m, n, D, Pl, rfl, hb, hl, hm, hmm, rfl, hx⟩
  · exact .inl h0.1
  right
  have hlm : len ≤ m := by rw [hmm]; split <;> omega
  refine ⟨a, len, cap, rfl, hl, hm, fun i hi => ?_⟩
  obtain ⟨cs', h1, h2⟩ := hx i (by omega)
  rw [ce] at h1
  obtain ⟨_, hlen, hcell⟩ := World.cells?_some h1
  obtain ⟨xs, k, hk, hxy, _, hxl, hf⟩ := DataW.trod_struct he h2
  match xs, hxl, cs', hlen with
  | [y0, y1, y2], _, [v0, v1, v2], _ =>
    have g0 := hf 0 f0 rfl
    have g1 := hf 1 f1 rfl
    have g2 := hf 2 f2 rfl
    simp [o0, o1, o2, c0, c1, c2] at g0 g1 g2
    have e0 := hcell 0 (by omega)
    have e1 := hcell 1 (by omega)
    have e2 := hcell 2 (by omega)
    rw [Deep.add_add] at e0 e1 e2
    exact ⟨v0, v1, v2, k, y0, y1, y2, by simpa using e0, by simpa using e1, by simpa using e2, g0, g1, g2⟩

/-- Hunks that came in. -/
theorem hks_of {H : Type} {enc : TypeId × Value → H} {W : World} {a : Option Addr} {len cap : Nat} {d : DataW H} {p : List MemPlace} (h : DataW.Trod enc Tryd.prog W 0 (fun _ => true) true 24 (.slice a len cap) d p) :
    ∃ hs : List (Int × Int × List (Int × ByteArray)), hs.length = len ∧ len ≤ maxLen ∧ Hks W a hs ∧ (∀ x ∈ hs, x.2.2.length ≤ maxLen) ∧ (∀ x ∈ hs, ∀ m ∈ x.2.2, m.2.size ≤ maxLen) := by
  obtain ⟨fuel, hf⟩ := h
  rcases open_triples Tryd.underlying24 Tryd.underlying40 (by kernel_rfl) rfl rfl rfl (by kernel_rfl) (by kernel_rfl) (by kernel_rfl) hf with hcs | ⟨x, l, c, hcs, hl, hm, hat⟩
  · simp [Value.cells] at hcs
    obtain ⟨rfl, rfl, rfl⟩ := hcs
    exact ⟨[], rfl, Nat.zero_le _, Hks.nil _ _, by simp, by simp⟩
  · simp [Value.cells] at hcs
    obtain ⟨rfl, rfl, rfl⟩ := hcs
    obtain ⟨b, off, spot⟩ := x
    have hv : ∀ i, i < len → ∃ (o p : Int) (am : Option Addr) (ms : List (Int × ByteArray)) (cm : Nat), W.cell? ((⟨b, off, spot⟩ : Addr).add (i * 3)) = some (.int .i64 o) ∧ W.cell? ((⟨b, off, spot⟩ : Addr).add (i * 3 + 1)) = some (.int .i64 p) ∧ W.cell? ((⟨b, off, spot⟩ : Addr).add (i * 3 + 2)) = some (.slice am ms.length cm) ∧ Mks W am ms ∧ ms.length ≤ maxLen ∧ (∀ m ∈ ms, m.2.size ≤ maxLen) ∧ ms.length ≤ cm := by
      intro i hi
      obtain ⟨v0, v1, v2, k, y0, y1, y2, e0, e1, e2, t0, t1, t2⟩ := hat i hi
      obtain ⟨o, ho, _, _⟩ := DataW.trod_int Tryd.underlying3 t0
      obtain ⟨q, hq, _, _⟩ := DataW.trod_int Tryd.underlying3 t1
      simp at ho hq
      obtain ⟨am, lm, cm, rfl⟩ : ∃ am lm cm, v2 = .slice am lm cm := by
        rcases Deep.open_slice Tryd.underlying38 t2 with h0 | ⟨a', len', cap', _, _, _, _, h0, _⟩
        · have := h0.1; simp at this; exact ⟨_, _, _, this⟩
        · simp at h0; exact ⟨_, _, _, h0⟩
      have hcp := mks_cap (a := am) (len := lm) (cap := cm) (d := y2.1) (p := y2.2) ⟨k, by simpa [Value.cells] using t2⟩
      obtain ⟨ms, hl1, hl2, hmk, hsz⟩ := mks_of (a := am) (len := lm) (cap := cm) (d := y2.1) (p := y2.2) ⟨k, by simpa [Value.cells] using t2⟩
      exact ⟨o, q, am, ms, cm, by rw [e0, ho], by rw [e1, hq], by rw [e2, hl1], hmk, by omega, hsz, by rw [hl1]; exact hcp⟩
    obtain ⟨g, hg⟩ := Deep.choose_lt (fun i hi => by
      obtain ⟨o, p, am, ms, cm, r⟩ := hv i hi
      exact (⟨(o, p, am, ms, cm), r⟩ : ∃ z : Int × Int × Option Addr × List (Int × ByteArray) × Nat, W.cell? ((⟨b, off, spot⟩ : Addr).add (i * 3)) = some (.int .i64 z.1) ∧ W.cell? ((⟨b, off, spot⟩ : Addr).add (i * 3 + 1)) = some (.int .i64 z.2.1) ∧ W.cell? ((⟨b, off, spot⟩ : Addr).add (i * 3 + 2)) = some (.slice z.2.2.1 z.2.2.2.1.length z.2.2.2.2) ∧ Mks W z.2.2.1 z.2.2.2.1 ∧ z.2.2.2.1.length ≤ maxLen ∧ (∀ m ∈ z.2.2.2.1, m.2.size ≤ maxLen) ∧ z.2.2.2.1.length ≤ z.2.2.2.2))
    refine ⟨(List.range len).map fun i => ((g i).1, (g i).2.1, (g i).2.2.2.1), by simp, by omega, ?_, ?_, ?_⟩
    · intro i hi
      simp at hi
      obtain ⟨r0, r1, r2, r3, _, _, r4⟩ := hg i hi
      have hspot : spot = none := by simpa [Addr.add] using World.cell?_spot (hg 0 (by omega)).1
      subst hspot
      have e : ((List.range len).map fun i => ((g i).1, (g i).2.1, (g i).2.2.2.1)).getD i (0, 0, []) = ((g i).1, (g i).2.1, (g i).2.2.2.1) := by simp [hi]
      rw [e]
      rw [add_plain] at r0 r1 r2
      exact ⟨b, off, (g i).2.2.1, (g i).2.2.2.2, rfl, r0, by rw [Nat.add_assoc]; exact r1, by rw [Nat.add_assoc]; exact r2, r3, r4⟩
    · intro y hy
      obtain ⟨i, hi, rfl⟩ := List.mem_map.1 hy
      exact (hg i (List.mem_range.1 hi)).2.2.2.2.1
    · intro y hy
      obtain ⟨i, hi, rfl⟩ := List.mem_map.1 hy
      exact (hg i (List.mem_range.1 hi)).2.2.2.2.2.1

end Go.Proofs.YtnkdmgekpajfhaeDoor
