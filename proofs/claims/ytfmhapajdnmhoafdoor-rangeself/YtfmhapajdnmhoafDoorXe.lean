/-
  Arguments as the walks want them: lists of lines, lists of marks. Arguments as the walks want them: lists of hunks. Arguments as the walks want them: lists of changes. Arguments as the walks want them: series of patches.
-/
import Derived.Test.YtfmhapajdnmhoafDoorMks
import Derived.ProofKit
import Derived.SliceStrings
import Derived.Deep.SlicePairs
import Derived.Test.YtfmhapajdnmhoafDoorXbb
import Derived.Deep.Slices
import Derived.ChangeSame
import Derived.Test.YtfmhapajdnmhoafDoorChs
import Derived.Test.YtfmhapajdnmhoafDoorXq
namespace Go.Proofs.YtfmhapajdnmhoafDoor
open Go.ChangeShapes Go.WideShapes Go.ChangeAt Go.RowKit

theorem add_plain (b off i : Nat) : (⟨b, off, none⟩ : Addr).add i = ⟨b, off + i, none⟩ := by
  by_cases h : i = 0
  · subst h; rfl
  · simp [Addr.add, h]

/-- Lines that came in. -/
theorem strs_of {H : Type} {enc : TypeId × Value → H} {W : World} {a : Option Addr} {len cap : Nat} {d : DataW H} {p : List MemPlace} (h : DataW.Trod enc Tryd.prog W 0 (fun _ => true) true 52 (.slice a len cap) d p) :
    ∃ ss : List ByteArray, ss.length = len ∧ len ≤ maxLen ∧ Strs W a ss ∧ (∀ s ∈ ss, s.size ≤ maxLen) := by
  obtain ⟨fuel, hf⟩ := h
  rcases open_strings Tryd.underlying52 Tryd.underlying9 (by kernel_rfl) hf with ⟨hcs, _⟩ | ⟨x, l, c, zs, hcs, _, hl, hm, hz, _, hcell, hwz⟩
  · simp [Value.cells] at hcs
    obtain ⟨rfl, rfl, rfl⟩ := hcs
    exact ⟨[], rfl, Nat.zero_le _, fun i hi => absurd hi (by simp), by simp⟩
  · simp [Value.cells] at hcs
    obtain ⟨rfl, rfl, rfl⟩ := hcs
    have hzl : zs.length = cap := by simpa using hz
    refine ⟨zs.take len, by rw [List.length_take]; omega, by omega, ?_, fun s hs => hwz s (List.mem_of_mem_take hs)⟩
    intro i hi
    rw [List.length_take] at hi
    have hc := hcell i (by omega)
    obtain ⟨b, off, spot⟩ := x
    have hspot : spot = none := by simpa [Addr.add] using World.cell?_spot (hcell 0 (by omega))
    subst hspot
    refine ⟨b, off, rfl, ?_⟩
    have h1 : i < len := by omega
    have h2 : i < zs.length := by omega
    have e : (zs.take len).getD i ByteArray.empty = zs.getD i ByteArray.empty := by simp [h1, h2]
    rw [e, ← add_plain]
    exact hc

/-- A sign, a text, out of a cell. -/
def cOf : Value → Int
  | .int _ c => c
  | _ => 0
def tOf : Value → ByteArray
  | .string s => s
  | _ => ByteArray.empty

/-- Marks that came in. -/
theorem mks_of {H : Type} {enc : TypeId × Value → H} {W : World} {a : Option Addr} {len cap : Nat} {d : DataW H} {p : List MemPlace} (h : DataW.Trod enc Tryd.prog W 0 (fun _ => true) true 49 (.slice a len cap) d p) :
    ∃ ms : List (Int × ByteArray), ms.length = len ∧ len ≤ maxLen ∧ Mks W a ms ∧ (∀ m ∈ ms, m.2.size ≤ maxLen) := by
  obtain ⟨fuel, hf⟩ := h
  rcases Deep.open_slice_pairs Tryd.underlying49 Tryd.underlying69 (by kernel_rfl) rfl rfl (by kernel_rfl) (by kernel_rfl) hf with ⟨hcs, _⟩ | ⟨x, l, c, m, n, V0, V1, D0, D1, P0, P1, hcs, _, hl, hm, hmm, _, hat⟩
  · simp [Value.cells] at hcs
    obtain ⟨rfl, rfl, rfl⟩ := hcs
    exact ⟨[], rfl, Nat.zero_le _, fun i hi => absurd hi (by simp), by simp⟩
  · simp [Value.cells] at hcs
    obtain ⟨rfl, rfl, rfl⟩ := hcs
    have hmc : m = cap := by simpa using hmm
    have hv : ∀ i, i < len → ∃ c s, V0 i = .int .u8 c ∧ V1 i = .string s ∧ s.size ≤ maxLen := by
      intro i hi
      obtain ⟨_, _, t0, t1⟩ := hat i (by omega)
      obtain ⟨c, hc, _, _⟩ := DataW.trod_int Tryd.underlying5 t0
      obtain ⟨s, hs, _, hsz⟩ := DataW.trod_string Tryd.underlying9 t1
      exact ⟨c, s, by simpa using hc, by simpa using hs, hsz⟩
    refine ⟨(List.range len).map fun i => (cOf (V0 i), tOf (V1 i)), by simp, by omega, ?_, ?_⟩
    · intro i hi
      simp at hi
      obtain ⟨c, s, e0, e1, _⟩ := hv i hi
      obtain ⟨h0, h1, _, _⟩ := hat i (by omega)
      obtain ⟨b, off, spot⟩ := x
      have hspot : spot = none := by
        obtain ⟨g0, _, _, _⟩ := hat 0 (by omega)
        simpa [Addr.add] using World.cell?_spot g0
      subst hspot
      refine ⟨b, off, rfl, ?_⟩
      have e : ((List.range len).map fun i => (cOf (V0 i), tOf (V1 i))).getD i (0, ByteArray.empty) = (c, s) := by
        simp [hi, e0, e1, cOf, tOf]
      rw [e]
      rw [add_plain, e0] at h0
      rw [add_plain, e1] at h1
      exact ⟨h0, by rw [Nat.add_assoc]; exact h1⟩
    · intro m hm
      obtain ⟨i, hi, rfl⟩ := List.mem_map.1 hm
      obtain ⟨c, s, e0, e1, hs⟩ := hv i (List.mem_range.1 hi)
      rw [e1]; exact hs

/-- Marks that came in: no more than there is room for. -/
theorem mks_cap {H : Type} {enc : TypeId × Value → H} {W : World} {a : Option Addr} {len cap : Nat} {d : DataW H} {p : List MemPlace} (h : DataW.Trod enc Tryd.prog W 0 (fun _ => true) true 49 (.slice a len cap) d p) : len ≤ cap := by
  obtain ⟨fuel, hf⟩ := h
  rcases Deep.open_slice_pairs Tryd.underlying49 Tryd.underlying69 (by kernel_rfl) rfl rfl (by kernel_rfl) (by kernel_rfl) hf with ⟨hcs, _⟩ | ⟨x, l, c, m, n, V0, V1, D0, D1, P0, P1, hcs, _, hl, _⟩
  · simp [Value.cells] at hcs
    omega
  · simp [Value.cells] at hcs
    obtain ⟨rfl, rfl, rfl⟩ := hcs
    exact hl

end Go.Proofs.YtfmhapajdnmhoafDoor
namespace Go.Proofs.YtfmhapajdnmhoafDoor
open Go.ChangeShapes Go.WideShapes Go.ChangeAt Go.RowKit

/-- A slice of structs of three fields of one cell each, opened. -/
theorem open_triples {H : Type} {enc : TypeId × Value → H} {P : Program} {w : World} {base : Nat} {spare : Nat → Bool} {held : Bool} {t e : TypeId} {f0 f1 f2 : Field} {fuel : Nat} {cs : List Value} {x : DataW H × List MemPlace} (ht : P.underlying t = some (.slice e)) (he : P.underlying e = some (.struct #[f0, f1, f2]))
    (ce : P.cellsOf e = 3) (o0 : f0.offset = 0) (o1 : f1.offset = 1) (o2 : f2.offset = 2) (c0 : P.cellsOf f0.type = 1) (c1 : P.cellsOf f1.type = 1) (c2 : P.cellsOf f2.type = 1)
    (h : DataW.trod enc P w base spare held fuel t cs = some x) :
    (cs = [.slice none 0 0]) ∨
    ∃ (a : Addr) (len cap : Nat), cs = [.slice (some a) len cap] ∧ len ≤ cap ∧ cap ≤ maxLen ∧
      ∀ i, i < len → ∃ v0 v1 v2 k y0 y1 y2, w.cell? (a.add (i * 3)) = some v0 ∧ w.cell? (a.add (i * 3 + 1)) = some v1 ∧ w.cell? (a.add (i * 3 + 2)) = some v2 ∧
        DataW.trod enc P w base spare held k f0.type [v0] = some y0 ∧ DataW.trod enc P w base spare held k f1.type [v1] = some y1 ∧ DataW.trod enc P w base spare held k f2.type [v2] = some y2 := by
  rcases Deep.open_slice ht h with h0 | ⟨a, len, cap, m, n, D, Pl, rfl, hb, hl, hm, hmm, rfl, hx⟩
  · exact .inl h0.1
  right
  have hlm : len ≤ m := by rw [hmm]; split <;> omega
  refine ⟨a, len, cap, rfl, hl, hm, fun i hi => ?_⟩
  obtain ⟨cs', h1, h2⟩ := hx i (by omega)
  rw [ce] at h1
  obtain ⟨_, hlen, hcell⟩ := World.cells?_some h1
  obtain ⟨xs, k, hk, hxy, _, hxl, hf⟩ := DataW.trod_struct he h2
  match xs, hxl, cs', hlen with
  | [y0, y1, y2], _, [v0, v1, v2], _ =>
    have g0 := hf 0 f0 rfl
    have g1 := hf 1 f1 rfl
    have g2 := hf 2 f2 rfl
    simp [o0, o1, o2, c0, c1, c2] at g0 g1 g2
    have e0 := hcell 0 (by omega)
    have e1 := hcell 1 (by omega)
    have e2 := hcell 2 (by omega)
    rw [Deep.add_add] at e0 e1 e2
    exact ⟨v0, v1, v2, k, y0, y1, y2, by simpa using e0, by simpa using e1, by simpa using e2, g0, g1, g2⟩

/-- Hunks that came in. -/
theorem hks_of {H : Type} {enc : TypeId × Value → H} {W : World} {a : Option Addr} {len cap : Nat} {d : DataW H} {p : List MemPlace} (h : DataW.Trod enc Tryd.prog W 0 (fun _ => true) true 23 (.slice a len cap) d p) :
    ∃ hs : List (Int × Int × List (Int × ByteArray)), hs.length = len ∧ len ≤ maxLen ∧ Hks W a hs ∧ (∀ x ∈ hs, x.2.2.length ≤ maxLen) ∧ (∀ x ∈ hs, ∀ m ∈ x.2.2, m.2.size ≤ maxLen) := by
  obtain ⟨fuel, hf⟩ := h
  rcases open_triples Tryd.underlying23 Tryd.underlying51 (by kernel_rfl) rfl rfl rfl (by kernel_rfl) (by kernel_rfl) (by kernel_rfl) hf with hcs | ⟨x, l, c, hcs, hl, hm, hat⟩
  · simp [Value.cells] at hcs
    obtain ⟨rfl, rfl, rfl⟩ := hcs
    exact ⟨[], rfl, Nat.zero_le _, Hks.nil _ _, by simp, by simp⟩
  · simp [Value.cells] at hcs
    obtain ⟨rfl, rfl, rfl⟩ := hcs
    obtain ⟨b, off, spot⟩ := x
    have hv : ∀ i, i < len → ∃ (o p : Int) (am : Option Addr) (ms : List (Int × ByteArray)) (cm : Nat), W.cell? ((⟨b, off, spot⟩ : Addr).add (i * 3)) = some (.int .i64 o) ∧ W.cell? ((⟨b, off, spot⟩ : Addr).add (i * 3 + 1)) = some (.int .i64 p) ∧ W.cell? ((⟨b, off, spot⟩ : Addr).add (i * 3 + 2)) = some (.slice am ms.length cm) ∧ Mks W am ms ∧ ms.length ≤ maxLen ∧ (∀ m ∈ ms, m.2.size ≤ maxLen) ∧ ms.length ≤ cm := by
      intro i hi
      obtain ⟨v0, v1, v2, k, y0, y1, y2, e0, e1, e2, t0, t1, t2⟩ := hat i hi
      obtain ⟨o, ho, _, _⟩ := DataW.trod_int Tryd.underlying3 t0
      obtain ⟨q, hq, _, _⟩ := DataW.trod_int Tryd.underlying3 t1
      simp at ho hq
      obtain ⟨am, lm, cm, rfl⟩ : ∃ am lm cm, v2 = .slice am lm cm := by
        rcases Deep.open_slice Tryd.underlying49 t2 with h0 | ⟨a', len', cap', _, _, _, _, h0, _⟩
        · have := h0.1; simp at this; exact ⟨_, _, _, this⟩
        · simp at h0; exact ⟨_, _, _, h0⟩
      have hcp := mks_cap (a := am) (len := lm) (cap := cm) (d := y2.1) (p := y2.2) ⟨k, by simpa [Value.cells] using t2⟩
      obtain ⟨ms, hl1, hl2, hmk, hsz⟩ := mks_of (a := am) (len := lm) (cap := cm) (d := y2.1) (p := y2.2) ⟨k, by simpa [Value.cells] using t2⟩
      exact ⟨o, q, am, ms, cm, by rw [e0, ho], by rw [e1, hq], by rw [e2, hl1], hmk, by omega, hsz, by rw [hl1]; exact hcp⟩
    obtain ⟨g, hg⟩ := Deep.choose_lt (fun i hi => by
      obtain ⟨o, p, am, ms, cm, r⟩ := hv i hi
      exact (⟨(o, p, am, ms, cm), r⟩ : ∃ z : Int × Int × Option Addr × List (Int × ByteArray) × Nat, W.cell? ((⟨b, off, spot⟩ : Addr).add (i * 3)) = some (.int .i64 z.1) ∧ W.cell? ((⟨b, off, spot⟩ : Addr).add (i * 3 + 1)) = some (.int .i64 z.2.1) ∧ W.cell? ((⟨b, off, spot⟩ : Addr).add (i * 3 + 2)) = some (.slice z.2.2.1 z.2.2.2.1.length z.2.2.2.2) ∧ Mks W z.2.2.1 z.2.2.2.1 ∧ z.2.2.2.1.length ≤ maxLen ∧ (∀ m ∈ z.2.2.2.1, m.2.size ≤ maxLen) ∧ z.2.2.2.1.length ≤ z.2.2.2.2))
    refine ⟨(List.range len).map fun i => ((g i).1, (g i).2.1, (g i).2.2.2.1), by simp, by omega, ?_, ?_, ?_⟩
    · intro i hi
      simp at hi
      obtain ⟨r0, r1, r2, r3, _, _, r4⟩ := hg i hi
      have hspot : spot = none := by simpa [Addr.add] using World.cell?_spot (hg 0 (by omega)).1
      subst hspot
      have e : ((List.range len).map fun i => ((g i).1, (g i).2.1, (g i).2.2.2.1)).getD i (0, 0, []) = ((g i).1, (g i).2.1, (g i).2.2.2.1) := by simp [hi]
      rw [e]
      rw [add_plain] at r0 r1 r2
      exact ⟨b, off, (g i).2.2.1, (g i).2.2.2.2, rfl, r0, by rw [Nat.add_assoc]; exact r1, by rw [Nat.add_assoc]; exact r2, r3, r4⟩
    · intro y hy
      obtain ⟨i, hi, rfl⟩ := List.mem_map.1 hy
      exact (hg i (List.mem_range.1 hi)).2.2.2.2.1
    · intro y hy
      obtain ⟨i, hi, rfl⟩ := List.mem_map.1 hy
      exact (hg i (List.mem_range.1 hi)).2.2.2.2.2.1

end Go.Proofs.YtfmhapajdnmhoafDoor
namespace Go.Proofs.YtfmhapajdnmhoafDoor
open Go.ChangeShapes Go.WideShapes Go.ChangeAt Go.RowKit

/-- Hunks that came in: no more than there is room for. -/
theorem hks_cap {H : Type} {enc : TypeId × Value → H} {W : World} {a : Option Addr} {len cap : Nat} {d : DataW H} {p : List MemPlace} (h : DataW.Trod enc Tryd.prog W 0 (fun _ => true) true 23 (.slice a len cap) d p) : len ≤ cap := by
  obtain ⟨fuel, hf⟩ := h
  rcases Deep.open_slice Tryd.underlying23 hf with h0 | ⟨a', len', cap', _, _, _, _, h0, _, hl, _⟩
  · have := h0.1
    simp [Value.cells] at this
    omega
  · simp [Value.cells] at h0
    omega

/-- Changes that came in. -/
theorem chs_of {H : Type} {enc : TypeId × Value → H} {W : World} {a : Option Addr} {len cap : Nat} {d : DataW H} {p : List MemPlace} (h : DataW.Trod enc Tryd.prog W 0 (fun _ => true) true 26 (.slice a len cap) d p) :
    ∃ l : List Ch, l.length = len ∧ len ≤ maxLen ∧ Chs W a l ∧ (∀ c ∈ l, c.2.2.length ≤ maxLen) ∧ (∀ c ∈ l, ∀ x ∈ c.2.2, x.2.2.length ≤ maxLen) ∧ (∀ c ∈ l, ∀ x ∈ c.2.2, ∀ m ∈ x.2.2, m.2.size ≤ maxLen) ∧ len ≤ cap := by
  obtain ⟨fuel, hf⟩ := h
  rcases open_triples Tryd.underlying26 Tryd.underlying25 (by kernel_rfl) rfl rfl rfl (by kernel_rfl) (by kernel_rfl) (by kernel_rfl) hf with hcs | ⟨x, l, c, hcs, hl, hm, hat⟩
  · simp [Value.cells] at hcs
    obtain ⟨rfl, rfl, rfl⟩ := hcs
    exact ⟨[], rfl, Nat.zero_le _, Chs.nil _ _, by simp, by simp, by simp, Nat.le_refl _⟩
  · simp [Value.cells] at hcs
    obtain ⟨rfl, rfl, rfl⟩ := hcs
    obtain ⟨b, off, spot⟩ := x
    have hv : ∀ i, i < len → ∃ z : Int × ByteArray × Option Addr × List (Int × Int × List (Int × ByteArray)) × Nat, W.cell? ((⟨b, off, spot⟩ : Addr).add (i * 3)) = some (.int .i64 z.1) ∧ W.cell? ((⟨b, off, spot⟩ : Addr).add (i * 3 + 1)) = some (.string z.2.1) ∧ W.cell? ((⟨b, off, spot⟩ : Addr).add (i * 3 + 2)) = some (.slice z.2.2.1 z.2.2.2.1.length z.2.2.2.2) ∧ Hks W z.2.2.1 z.2.2.2.1 ∧ z.2.2.2.1.length ≤ maxLen ∧ (∀ x ∈ z.2.2.2.1, x.2.2.length ≤ maxLen) ∧ (∀ x ∈ z.2.2.2.1, ∀ m ∈ x.2.2, m.2.size ≤ maxLen) ∧ z.2.2.2.1.length ≤ z.2.2.2.2 := by
      intro i hi
      obtain ⟨v0, v1, v2, k, y0, y1, y2, e0, e1, e2, t0, t1, t2⟩ := hat i hi
      obtain ⟨o, ho, _, _⟩ := DataW.trod_int Tryd.underlying3 t0
      obtain ⟨s, hs, _, _⟩ := DataW.trod_string Tryd.underlying9 t1
      simp at ho hs
      obtain ⟨am, lm, cm, rfl⟩ : ∃ am lm cm, v2 = .slice am lm cm := by
        rcases Deep.open_slice Tryd.underlying23 t2 with h0 | ⟨a', len', cap', _, _, _, _, h0, _⟩
        · have := h0.1; simp at this; exact ⟨_, _, _, this⟩
        · simp at h0; exact ⟨_, _, _, h0⟩
      have hcp := hks_cap (a := am) (len := lm) (cap := cm) (d := y2.1) (p := y2.2) ⟨k, by simpa [Value.cells] using t2⟩
      obtain ⟨hs', hl1, hl2, hk, hk1, hk2⟩ := hks_of (a := am) (len := lm) (cap := cm) (d := y2.1) (p := y2.2) ⟨k, by simpa [Value.cells] using t2⟩
      exact ⟨(o, s, am, hs', cm), by rw [e0, ho], by rw [e1, hs], by rw [e2, hl1], hk, by rw [hl1]; exact hl2, hk1, hk2, by rw [hl1]; exact hcp⟩
    obtain ⟨g, hg⟩ := Deep.choose_lt hv
    refine ⟨(List.range len).map fun i => ((g i).1, (g i).2.1, (g i).2.2.2.1), by simp, by omega, ?_, ?_, ?_, ?_, hl⟩
    · intro i hi
      simp at hi
      obtain ⟨r0, r1, r2, r3, _, _, _, r4⟩ := hg i hi
      have hspot : spot = none := by simpa [Addr.add] using World.cell?_spot (hg 0 (by omega)).1
      subst hspot
      have e : ((List.range len).map fun i => ((g i).1, (g i).2.1, (g i).2.2.2.1)).getD i cz = ((g i).1, (g i).2.1, (g i).2.2.2.1) := by simp [hi]
      rw [e]
      rw [add_plain] at r0 r1 r2
      exact ⟨b, off, (g i).2.2.1, (g i).2.2.2.2, rfl, r0, by rw [Nat.add_assoc]; exact r1, by rw [Nat.add_assoc]; exact r2, r3, r4⟩
    · intro x hx
      obtain ⟨i, hi, rfl⟩ := List.mem_map.1 hx
      exact (hg i (List.mem_range.1 hi)).2.2.2.2.1
    · intro x hx
      obtain ⟨i, hi, rfl⟩ := List.mem_map.1 hx
      exact (hg i (List.mem_range.1 hi)).2.2.2.2.2.1
    · intro x hx
      obtain ⟨i, hi, rfl⟩ := List.mem_map.1 hx
      exact (hg i (List.mem_range.1 hi)).2.2.2.2.2.2.1

end Go.Proofs.YtfmhapajdnmhoafDoor
namespace Go.Proofs.YtfmhapajdnmhoafDoor
open Go.ChangeShapes Go.WideShapes Go.ChangeAt Go.RowKit

/-- Series that came in. -/
theorem pts_of {H : Type} {enc : TypeId × Value → H} {W : World} {a : Option Addr} {len cap : Nat} {d : DataW H} {p : List MemPlace} (h : DataW.Trod enc Tryd.prog W 0 (fun _ => true) true 22 (.slice a len cap) d p) :
    ∃ l : List (List Ch), l.length = len ∧ Srs W a l ∧ Okl l := by
  obtain ⟨fuel, hf⟩ := h
  rcases Deep.open_slice1 Tryd.underlying22 (by kernel_rfl) hf with h0 | ⟨x, l, c, m, n, V, D, Pl, hcs, _, hl, hm, hmm, _, hx⟩
  · have hcs := h0.1
    simp [Value.cells] at hcs
    obtain ⟨rfl, rfl, rfl⟩ := hcs
    exact ⟨[], rfl, Srs.nil _ _, Nat.zero_le _, fun y hy => by cases hy⟩
  · simp [Value.cells] at hcs
    obtain ⟨rfl, rfl, rfl⟩ := hcs
    have hmc : m = cap := by simpa using hmm
    have hv : ∀ i, i < len → ∃ z : Option Addr × List Ch × Nat, W.cell? (x.add i) = some (.slice z.1 z.2.1.length z.2.2) ∧ Chs W z.1 z.2.1 ∧ z.2.1.length ≤ maxLen ∧ (∀ c ∈ z.2.1, c.2.2.length ≤ maxLen) ∧ (∀ c ∈ z.2.1, ∀ h ∈ c.2.2, h.2.2.length ≤ maxLen) ∧ ∀ c ∈ z.2.1, ∀ h ∈ c.2.2, ∀ m ∈ h.2.2, m.2.size ≤ maxLen := by
      intro i hi
      obtain ⟨e0, t0⟩ := hx i (by omega)
      obtain ⟨am, lm, cm, hV⟩ : ∃ am lm cm, V i = .slice am lm cm := by
        rcases Deep.open_slice Tryd.underlying26 t0 with h0 | ⟨a', len', cap', _, _, _, _, h0, _⟩
        · have := h0.1; simp at this; exact ⟨_, _, _, this⟩
        · simp at h0; exact ⟨_, _, _, h0⟩
      rw [hV] at e0 t0
      obtain ⟨L, hl1, hl2, hk, k1, k2, k3, _⟩ := chs_of (a := am) (len := lm) (cap := cm) (d := D i) (p := Pl i) ⟨n, by simpa [Value.cells] using t0⟩
      exact ⟨(am, L, cm), by rw [e0, hl1], hk, by show L.length ≤ _; rw [hl1]; exact hl2, k1, k2, k3⟩
    obtain ⟨g, hg⟩ := Deep.choose_lt hv
    obtain ⟨b, off, spot⟩ := x
    refine ⟨(List.range len).map fun i => (g i).2.1, by simp, ?_, by simp; omega, ?_⟩
    · intro i hi
      have hi : i < len := by simpa using hi
      have hspot : spot = none := by simpa [Addr.add] using World.cell?_spot (hg 0 (by omega)).1
      subst hspot
      have e : ((List.range len).map fun i => (g i).2.1).getD i [] = (g i).2.1 := by simp [hi]
      rw [e]
      obtain ⟨r0, r1, _⟩ := hg i hi
      rw [add_plain] at r0
      exact ⟨b, off, (g i).1, (g i).2.2, rfl, r0, r1⟩
    · intro y hy
      obtain ⟨i, hi, rfl⟩ := List.mem_map.1 hy
      obtain ⟨_, _, r2, r3, r4, r5⟩ := hg i (List.mem_range.1 hi)
      exact ⟨r2, r3, r4, r5⟩

end Go.Proofs.YtfmhapajdnmhoafDoor
