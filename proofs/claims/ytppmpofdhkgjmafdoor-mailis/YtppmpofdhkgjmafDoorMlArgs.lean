/-
  Arguments as the walks want them: a mail, lists of mails.
-/
import Derived.Test.YtppmpofdhkgjmafDoorMla
import Derived.Test.YtppmpofdhkgjmafDoorBArgs
import Derived.Deep.SlicePairs
import Derived.Lib.SmallJoins

namespace Go.Proofs.YtppmpofdhkgjmafDoor
open Go.ChangeShapes Go.WideShapes Go.ChangeAt Go.RowKit Dist

theorem open_fours {H : Type} {enc : TypeId × Value → H} {P : Program} {w : World} {base : Nat} {spare : Nat → Bool} {held : Bool} {t e : TypeId} {f0 f1 f2 f3 : Field} {fuel : Nat} {cs : List Value} {x : DataW H × List MemPlace} (ht : P.underlying t = some (.slice e)) (he : P.underlying e = some (.struct #[f0, f1, f2, f3]))
    (ce : P.cellsOf e = 4) (o0 : f0.offset = 0) (o1 : f1.offset = 1) (o2 : f2.offset = 2) (o3 : f3.offset = 3) (c0 : P.cellsOf f0.type = 1) (c1 : P.cellsOf f1.type = 1) (c2 : P.cellsOf f2.type = 1) (c3 : P.cellsOf f3.type = 1)
    (h : DataW.trod enc P w base spare held fuel t cs = some x) :
    (cs = [.slice none 0 0]) ∨
    ∃ (a : Addr) (len cap : Nat), cs = [.slice (some a) len cap] ∧ len ≤ cap ∧ cap ≤ maxLen ∧
      ∀ i, i < len → ∃ v0 v1 v2 v3 k y0 y1 y2 y3, w.cell? (a.add (i * 4)) = some v0 ∧ w.cell? (a.add (i * 4 + 1)) = some v1 ∧ w.cell? (a.add (i * 4 + 2)) = some v2 ∧ w.cell? (a.add (i * 4 + 3)) = some v3 ∧
        DataW.trod enc P w base spare held k f0.type [v0] = some y0 ∧ DataW.trod enc P w base spare held k f1.type [v1] = some y1 ∧ DataW.trod enc P w base spare held k f2.type [v2] = some y2 ∧ DataW.trod enc P w base spare held k f3.type [v3] = some y3 := by
  rcases Deep.open_slice ht h with h0 | ⟨a, len, cap, m, n, D, Pl, rfl, hb, hl, hm, hmm, rfl, hx⟩
  · exact .inl h0.1
  right
  have hlm : len ≤ m := by rw [hmm]; split <;> omega
  refine ⟨a, len, cap, rfl, hl, hm, fun i hi => ?_⟩
  obtain ⟨cs', h1, h2⟩ := hx i (by omega)
  rw [ce] at h1
  obtain ⟨_, hlen, hcell⟩ := World.cells?_some h1
  obtain ⟨xs, k, hk, hxy, _, hxl, hf⟩ := DataW.trod_struct he h2
  match xs, hxl, cs', hlen with
  | [y0, y1, y2, y3], _, [v0, v1, v2, v3], _ =>
    have g0 := hf 0 f0 rfl
    have g1 := hf 1 f1 rfl
    have g2 := hf 2 f2 rfl
    have g3 := hf 3 f3 rfl
    simp [o0, o1, o2, o3, c0, c1, c2, c3] at g0 g1 g2 g3
    have e0 := hcell 0 (by omega)
    have e1 := hcell 1 (by omega)
    have e2 := hcell 2 (by omega)
    have e3 := hcell 3 (by omega)
    rw [Deep.add_add] at e0 e1 e2 e3
    exact ⟨v0, v1, v2, v3, k, y0, y1, y2, y3, by simpa using e0, by simpa using e1, by simpa using e2, by simpa using e3, g0, g1, g2, g3⟩

/-- Bytes that came in, by whatever value. -/
theorem bya_in {H : Type} {enc : TypeId × Value → H} {W : World} {v : Value} {fuel : Nat} {y : DataW H × List MemPlace} (hf : DataW.trod enc Tryd.prog W 0 (fun _ => true) true fuel 39 [v] = some y) :
    ∃ (a : Option Addr) (l : List UInt8) (cap : Nat), v = .slice a l.length cap ∧ Bya W a l cap := by
  obtain ⟨a, n, cap, rfl⟩ : ∃ a n cap, v = .slice a n cap := by
    rcases Deep.open_slice Tryd.underlying39 hf with h0 | ⟨a', len', cap', _, _, _, _, h0, _⟩
    · have := h0.1; simp at this; exact ⟨_, _, _, this⟩
    · simp at h0; exact ⟨_, _, _, h0⟩
  obtain ⟨l, rfl, hb⟩ := bya_of (a := a) (len := n) (cap := cap) (d := y.1) (p := y.2) ⟨fuel, by simpa [Value.cells] using hf⟩
  exact ⟨a, l, cap, rfl, hb⟩

theorem add_off (b off n : Nat) : (⟨b, off, none⟩ : Addr).add n = ⟨b, off + n, none⟩ := by
  unfold Addr.add
  by_cases h0 : n = 0
  · subst h0; rfl
  · simp [h0]

/-- Mails that came in. -/
theorem mls_of {H : Type} {enc : TypeId × Value → H} {W : World} {a : Option Addr} {len cap : Nat} {d : DataW H} {p : List MemPlace} (h : DataW.Trod enc Tryd.prog W 0 (fun _ => true) true 52 (.slice a len cap) d p) :
    ∃ l : List Mb, l.length = len ∧ len ≤ maxLen ∧ Mls W a l ∧ len ≤ cap ∧ (a = none → cap = 0) := by
  obtain ⟨fuel, hf⟩ := h
  rcases open_fours Tryd.underlying52 Tryd.underlying51 (by kernel_rfl) rfl rfl rfl rfl (by kernel_rfl) (by kernel_rfl) (by kernel_rfl) (by kernel_rfl) hf with hcs | ⟨x, l, c, hcs, hl, hm, hat⟩
  · simp [Value.cells] at hcs
    obtain ⟨rfl, rfl, rfl⟩ := hcs
    exact ⟨[], rfl, Nat.zero_le _, Mls.nil _ _, Nat.le_refl _, fun _ => rfl⟩
  · simp [Value.cells] at hcs
    obtain ⟨rfl, rfl, rfl⟩ := hcs
    obtain ⟨b, off, spot⟩ := x
    have hv : ∀ i, i < len → ∃ z : Mb × Option Addr × Nat, W.cell? ((⟨b, off, spot⟩ : Addr).add (i * 4)) = some (.string z.1.1) ∧ W.cell? ((⟨b, off, spot⟩ : Addr).add (i * 4 + 1)) = some (.string z.1.2.1) ∧ W.cell? ((⟨b, off, spot⟩ : Addr).add (i * 4 + 2)) = some (.string z.1.2.2.1) ∧ W.cell? ((⟨b, off, spot⟩ : Addr).add (i * 4 + 3)) = some (.slice z.2.1 z.1.2.2.2.length z.2.2) ∧ Bya W z.2.1 z.1.2.2.2 z.2.2 := by
      intro i hi
      obtain ⟨v0, v1, v2, v3, k, y0, y1, y2, y3, e0, e1, e2, e3, t0, t1, t2, t3⟩ := hat i hi
      obtain ⟨f, hf, _, _⟩ := DataW.trod_string Tryd.underlying9 t0
      obtain ⟨s, hs, _, _⟩ := DataW.trod_string Tryd.underlying9 t1
      obtain ⟨d, hd, _, _⟩ := DataW.trod_string Tryd.underlying9 t2
      simp at hf hs hd
      obtain ⟨am, x, cm, rfl, hb⟩ := bya_in t3
      exact ⟨((f, s, d, x), am, cm), by rw [e0, hf], by rw [e1, hs], by rw [e2, hd], e3, hb⟩
    obtain ⟨g, hg⟩ := Deep.choose_lt hv
    refine ⟨(List.range len).map fun i => (g i).1, by simp, by omega, ?_, hl, fun e => by cases e⟩
    intro i hi
    simp at hi
    obtain ⟨r0, r1, r2, r3, r4⟩ := hg i hi
    have hspot : spot = none := by simpa [Addr.add] using World.cell?_spot (hg 0 (by omega)).1
    subst hspot
    have e : ((List.range len).map fun i => (g i).1).getD i mz = (g i).1 := by simp [hi]
    rw [e]
    rw [add_off] at r0 r1 r2 r3
    exact ⟨b, off, (g i).2.1, (g i).2.2, rfl, r0, by rw [Nat.add_assoc]; exact r1, by rw [Nat.add_assoc]; exact r2, by rw [Nat.add_assoc]; exact r3, r4⟩

set_option maxRecDepth 100000 in
/-- A mail that came in. -/
theorem mail_of {H : Type} {enc : TypeId × Value → H} {W : World} {r : Reach} {b0 : Nat} {v : Value} {d : DataW H} {p : List MemPlace} (hv : Value.okWide Tryd.prog W r b0 51 v) (h : DataW.Trod enc Tryd.prog W 0 (fun _ => true) true 51 v d p) :
    ∃ (f s i : ByteArray) (am : Option Addr) (x : List UInt8) (cm : Nat), v = .agg #[.string f, .string s, .string i, .slice am x.length cm] ∧ Bya W am x cm := by
  obtain ⟨v0, v1, v2, v3, y0, y1, y2, y3, n, rfl, _, _, t0, t1, t2, t3⟩ := Go.Joins.open_agg4 Tryd.underlying51 (by kernel_rfl) (by kernel_rfl) hv h
  obtain ⟨f, hf, _, _⟩ := DataW.trod_string Tryd.underlying9 t0
  obtain ⟨s, hs, _, _⟩ := DataW.trod_string Tryd.underlying9 t1
  obtain ⟨i, hi, _, _⟩ := DataW.trod_string Tryd.underlying9 t2
  obtain ⟨am, x, cm, rfl, hb⟩ := bya_in t3
  have e0 : v0 = .string f := by simpa using hf
  have e1 : v1 = .string s := by simpa using hs
  have e2 : v2 = .string i := by simpa using hi
  subst e0 e1 e2
  exact ⟨f, s, i, am, x, cm, rfl, hb⟩

end Go.Proofs.YtppmpofdhkgjmafDoor
