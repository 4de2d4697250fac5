/-
  Files as they lie in memory, and as values in a row that a call has made. Walks of tree.checkFile and tree.Check: the fault of a file, the first fault of files.
-/
import Derived.Test.YtfmhapajdnmhoafDoorTrf
import Derived.Maps.AppendAt
import Derived.Lib.AppendZeros
import Derived.Laws.Cover1
namespace Go.Proofs.YtfmhapajdnmhoafDoor
open Go.RowKit

/-- Files as they lie in memory: a path and lines each. -/
def Fls (w : World) (a : Option Addr) (l : List Fl) : Prop :=
  ∀ i : Nat, i < l.length → ∃ b off am cm, a = some ⟨b, off, none⟩ ∧ w.cell? ⟨b, off + i * 2, none⟩ = some (.string (l.getD i fz).1) ∧ w.cell? ⟨b, off + i * 2 + 1, none⟩ = some (.slice am (l.getD i fz).2.length cm) ∧ Strs w am (l.getD i fz).2 ∧ (l.getD i fz).2.length ≤ cm

theorem Fls.below {w w' : World} {a : Option Addr} {l : List Fl} (h : Fls w a l) (hb : Below w.heap.size w w') : Fls w' a l := by
  intro i hi
  obtain ⟨b, off, am, cm, rfl, h1, h2, h3, h4⟩ := h i hi
  exact ⟨b, off, am, cm, rfl, cell_later hb h1, cell_later hb h2, h3.below hb, h4⟩

theorem Fls.nil (w : World) (a : Option Addr) : Fls w a [] := fun _ hi => absurd hi (Nat.not_lt_zero _)

theorem Fls.at {w : World} {b off : Nat} {l : List Fl} (h : Fls w (some ⟨b, off, none⟩) l) {i : Nat} (hi : i < l.length) :
    ∃ am cm, w.cell? ⟨b, off + i * 2, none⟩ = some (.string (l.getD i fz).1) ∧ w.cell? ⟨b, off + i * 2 + 1, none⟩ = some (.slice am (l.getD i fz).2.length cm) ∧ Strs w am (l.getD i fz).2 ∧ (l.getD i fz).2.length ≤ cm := by
  obtain ⟨b', off', am, cm, e, h1, h2, h3, h4⟩ := h i hi
  simp only [Option.some.injEq, Addr.mk.injEq] at e
  obtain ⟨rfl, rfl, _⟩ := e
  exact ⟨am, cm, h1, h2, h3, h4⟩

theorem Fls.addr {w : World} {a : Option Addr} {l : List Fl} (h : Fls w a l) {i : Nat} (hi : i < l.length) : ∃ b off, a = some ⟨b, off, none⟩ := by
  obtain ⟨b, off, am, cm, e, _⟩ := h i hi
  exact ⟨b, off, e⟩

/-- Files as values. -/
def Fvs (w : World) (xs : List Value) (l : List Fl) : Prop :=
  xs.length = l.length * 2 ∧ ∀ i : Nat, i < l.length → ∃ am cm, xs[i * 2]? = some (.string (l.getD i fz).1) ∧ xs[i * 2 + 1]? = some (.slice am (l.getD i fz).2.length cm) ∧ Strs w am (l.getD i fz).2 ∧ (l.getD i fz).2.length ≤ cm

theorem Fvs.below {w w' : World} {xs : List Value} {l : List Fl} (h : Fvs w xs l) (hb : Below w.heap.size w w') : Fvs w' xs l := by
  refine ⟨h.1, fun i hi => ?_⟩
  obtain ⟨am, cm, h1, h2, h3, h4⟩ := h.2 i hi
  exact ⟨am, cm, h1, h2, h3.below hb, h4⟩

theorem Fvs.nil (w : World) : Fvs w [] [] := ⟨rfl, fun _ hi => absurd hi (Nat.not_lt_zero _)⟩

theorem Fvs.append {w : World} {xs ys : List Value} {l m : List Fl} (h : Fvs w xs l) (h' : Fvs w ys m) : Fvs w (xs ++ ys) (l ++ m) := by
  obtain ⟨h1, h2⟩ := h
  obtain ⟨g1, g2⟩ := h'
  refine ⟨by rw [List.length_append, List.length_append, h1, g1]; omega, fun i hi => ?_⟩
  rw [List.length_append] at hi
  by_cases e : i < l.length
  · have e2 : (l ++ m).getD i fz = l.getD i fz := by simp [List.getElem?_append, e]
    rw [e2, List.getElem?_append_left (by omega), List.getElem?_append_left (by omega)]
    exact h2 i e
  · have e2 : (l ++ m).getD i fz = m.getD (i - l.length) fz := by simp [List.getElem?_append, e]
    rw [e2, List.getElem?_append_right (by omega), List.getElem?_append_right (by omega), h1, show i * 2 - l.length * 2 = (i - l.length) * 2 by omega, show i * 2 + 1 - l.length * 2 = (i - l.length) * 2 + 1 by omega]
    exact g2 _ (by omega)

theorem Fvs.one {w : World} {p : ByteArray} {ss : List ByteArray} {am : Option Addr} {cm : Nat} (h : Strs w am ss) (hc : ss.length ≤ cm) : Fvs w [.string p, .slice am ss.length cm] [(p, ss)] := by
  refine ⟨rfl, fun i hi => ?_⟩
  obtain rfl : i = 0 := by simpa using hi
  exact ⟨am, cm, rfl, rfl, h, hc⟩

/-- The values of files that lie in memory. -/
theorem Fls.vals {w : World} {a : Option Addr} {l : List Fl} (h : Fls w a l) : ∃ xs, Fvs w xs l ∧ ∀ j, j < l.length * 2 → ∃ b off, a = some ⟨b, off, none⟩ ∧ w.cell? ⟨b, off + j, none⟩ = xs[j]? := by
  cases a with
  | none =>
    have h0 : l = [] := by
      cases l with
      | nil => rfl
      | cons y r => obtain ⟨b, off, _, _, e, _⟩ := h 0 (by simp); cases e
    subst h0
    exact ⟨[], Fvs.nil _, fun j hj => absurd hj (by simp)⟩
  | some ad =>
    have hx : ∀ j, j < l.length * 2 → ∃ v, w.cell? ⟨ad.block, ad.off + j, none⟩ = some v ∧ ad.spot = none := fun j hj => by
      obtain ⟨b, off, am, cm, e, h1, h2, _⟩ := h (j / 2) (by omega)
      obtain rfl := Option.some.inj e
      rcases Nat.mod_two_eq_zero_or_one j with e | e
      · exact ⟨_, by rw [show j = j / 2 * 2 by omega]; exact h1, rfl⟩
      · exact ⟨_, by rw [show off + j = off + j / 2 * 2 + 1 by omega]; exact h2, rfl⟩
    have hg : ∀ j, j < l.length * 2 → w.cell? ⟨ad.block, ad.off + j, none⟩ = ((List.range (l.length * 2)).map fun j => (w.cell? ⟨ad.block, ad.off + j, none⟩).getD .nilIface)[j]? := fun j hj => by
      obtain ⟨v, hv, _⟩ := hx j hj
      rw [List.getElem?_map, List.getElem?_range hj, Option.map_some, hv]; rfl
    refine ⟨(List.range (l.length * 2)).map fun j => (w.cell? ⟨ad.block, ad.off + j, none⟩).getD .nilIface, ⟨by simp, fun i hi => ?_⟩, fun j hj => ?_⟩
    · obtain ⟨b, off, am, cm, e, h1, h2, h3, h4⟩ := h i hi
      obtain rfl := Option.some.inj e
      refine ⟨am, cm, ?_, ?_, h3, h4⟩
      · rw [← hg _ (by omega)]; exact h1
      · rw [← hg _ (by omega), ← Nat.add_assoc]; exact h2
    · obtain ⟨_, _, hs⟩ := hx j hj
      obtain ⟨b, off, sp⟩ := ad
      simp only at hs
      subst hs
      exact ⟨b, off, rfl, hg j hj⟩

theorem own_lies {B : Nat} {v : Value} {n : Nat} {xs : List Value} {w w' : World} {t : TypeId} {s : Nat} (h : w.ownsRow B t s v n xs) (hb : Below w.heap.size w w') : w'.ownsRow B t s v n xs := by
  refine ⟨h.1, ?_⟩
  rcases h.2 with h0 | ⟨g, cap, cur, hv, hB, hh, hr⟩
  · exact .inl h0
  · have hl : g < w.heap.size := by
      by_cases e : g < w.heap.size
      · exact e
      · rw [Array.getElem?_eq_none (by omega)] at hh; cases hh
    exact .inr ⟨g, cap, cur, hv, hB, blk_below hb hl hh, hr⟩

/-- Where a part of files lies. -/
def fa (a : Option Addr) (cap lo : Nat) : Option Addr := if cap = lo then a else a.map (·.add (lo * 2))

theorem add_some (b off n : Nat) : (⟨b, off, none⟩ : Addr).add n = ⟨b, off + n, none⟩ := by
  unfold Addr.add
  by_cases h0 : n = 0
  · subst h0; rfl
  · simp [h0]

/-- A part of files, where it lies. -/
theorem Fls.part {w : World} {a : Option Addr} {l : List Fl} (h : Fls w a l) {cap : Nat} (hc : l.length ≤ cap) (lo hi : Nat) : Fls w (fa a cap lo) ((l.take hi).drop lo) := by
  intro i hi'
  rw [List.length_drop, List.length_take] at hi'
  obtain ⟨b, off, am, cm, rfl, h1, h2, h3, h4⟩ := h (lo + i) (by omega)
  have e2 : ((l.take hi).drop lo).getD i fz = l.getD (lo + i) fz := by
    simp [List.getElem?_drop, show lo + i < hi by omega]
  rw [e2]
  refine ⟨b, off + lo * 2, am, cm, ?_, ?_, ?_, h3, h4⟩
  · unfold fa
    rw [if_neg (by omega), Option.map_some, add_some]
  · rw [show off + lo * 2 + i * 2 = off + (lo + i) * 2 by omega]; exact h1
  · rw [show off + lo * 2 + i * 2 + 1 = off + (lo + i) * 2 + 1 by omega]; exact h2

theorem Fls.front {w : World} {a : Option Addr} {l : List Fl} (h : Fls w a l) {cap : Nat} (hc : l.length ≤ cap) (hi : Nat) : Fls w (fa a cap 0) (l.take hi) := by
  have := h.part hc 0 hi
  rwa [List.drop_zero] at this
theorem Fls.rest {w : World} {a : Option Addr} {l : List Fl} (h : Fls w a l) {cap : Nat} (hc : l.length ≤ cap) (lo : Nat) : Fls w (fa a cap lo) (l.drop lo) := by
  have := h.part hc lo l.length
  rwa [List.take_length] at this

end Go.Proofs.YtfmhapajdnmhoafDoor
namespace Go.Proofs.YtfmhapajdnmhoafDoor
open Go.RowKit

theorem ret_ti {a c : Int} {b d : Value} (h : a = c) (h2 : b = d) : Ending.returned (.tuple #[.int .i64 a, b]) = .returned (.tuple #[.int .i64 c, d]) := by rw [h, h2]

/-- The two cells of a new block, later. -/
theorem cells2_later {w w1 : World} {x y : Value} {t : TypeId} (hb : Below (w.alloc (.cells #[x, y] t)).heap.size (w.alloc (.cells #[x, y] t)) w1) : w1.cell? ⟨w.heap.size, 0, none⟩ = some x ∧ w1.cell? ⟨w.heap.size, 1, none⟩ = some y := by
  have h := blk_below hb (by simp) (heap_alloc_new w (.cells #[x, y] t))
  exact ⟨Lib.cell_of_heap h 0, Lib.cell_of_heap h 1⟩

theorem getD_eta2 (l : List Fl) (k : Nat) {p : ByteArray} {ss : List ByteArray} (h1 : (l.getD k fz).1 = p) (h2 : (l.getD k fz).2 = ss) : l.getD k fz = (p, ss) := by
  rw [← h1, ← h2]

end Go.Proofs.YtfmhapajdnmhoafDoor
