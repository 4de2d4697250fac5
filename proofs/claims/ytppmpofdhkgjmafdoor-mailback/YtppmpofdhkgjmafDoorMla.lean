/-
  Mails as they lie in memory, and as values in a row that a call has made.
-/
import Derived.Test.YtppmpofdhkgjmafDoorRdt
import Derived.Test.YtppmpofdhkgjmafDoorMbx
import Derived.Maps.AppendAt
import Derived.Lib.AppendZeros
import Derived.Laws.Cover1

namespace Go.Proofs.YtppmpofdhkgjmafDoor
open Go.RowKit Dist

/-- A mail: from whom, of what, its name, what is in it. -/
abbrev Mb := ByteArray × ByteArray × ByteArray × List UInt8
abbrev mz : Mb := (ByteArray.empty, ByteArray.empty, ByteArray.empty, [])
def mlb (m : Mb) : Ml := (m.1.data.toList, m.2.1.data.toList, m.2.2.1.data.toList, m.2.2.2)
def mbl (m : Ml) : Mb := (⟨m.1.toArray⟩, ⟨m.2.1.toArray⟩, ⟨m.2.2.1.toArray⟩, m.2.2.2)
theorem mlb_mbl (m : Ml) : mlb (mbl m) = m := rfl
theorem mbl_mlb (m : Mb) : mbl (mlb m) = m := rfl
theorem mlb_inj {a b : Mb} (h : mlb a = mlb b) : a = b := by rw [← mbl_mlb a, h, mbl_mlb]
theorem mlbs_inj {a b : List Mb} (h : a.map mlb = b.map mlb) : a = b := by
  have := congrArg (List.map mbl) h
  simpa only [List.map_map, Function.comp_def, mbl_mlb, List.map_id'] using this

/-- A mail as a value. -/
def mv (m : Mb) (am : Option Addr) (cm : Nat) : Value := .agg #[.string m.1, .string m.2.1, .string m.2.2.1, .slice am m.2.2.2.length cm]
/-- A mail's four cells. -/
def mcs (m : Mb) (am : Option Addr) (cm : Nat) : List Value := [.string m.1, .string m.2.1, .string m.2.2.1, .slice am m.2.2.2.length cm]

/-- Mails as they lie in memory. -/
def Mls (w : World) (a : Option Addr) (l : List Mb) : Prop :=
  ∀ i : Nat, i < l.length → ∃ b off am cm, a = some ⟨b, off, none⟩ ∧ w.cell? ⟨b, off + i * 4, none⟩ = some (.string (l.getD i mz).1) ∧ w.cell? ⟨b, off + i * 4 + 1, none⟩ = some (.string (l.getD i mz).2.1) ∧ w.cell? ⟨b, off + i * 4 + 2, none⟩ = some (.string (l.getD i mz).2.2.1) ∧ w.cell? ⟨b, off + i * 4 + 3, none⟩ = some (.slice am (l.getD i mz).2.2.2.length cm) ∧ Bya w am (l.getD i mz).2.2.2 cm

theorem Mls.all {w w' : World} {a : Option Addr} {l : List Mb} (h : Mls w a l) (hb : Below w.heap.size w w') : Mls w' a l := by
  intro i hi
  obtain ⟨b, off, am, cm, rfl, h1, h2, h3, h4, h5⟩ := h i hi
  exact ⟨b, off, am, cm, rfl, cell_later hb h1, cell_later hb h2, cell_later hb h3, cell_later hb h4, h5.all hb⟩

theorem Mls.nil (w : World) (a : Option Addr) : Mls w a [] := fun _ hi => absurd hi (Nat.not_lt_zero _)

theorem Mls.at {w : World} {b off : Nat} {l : List Mb} (h : Mls w (some ⟨b, off, none⟩) l) {i : Nat} (hi : i < l.length) :
    ∃ am cm, w.cell? ⟨b, off + i * 4, none⟩ = some (.string (l.getD i mz).1) ∧ w.cell? ⟨b, off + i * 4 + 1, none⟩ = some (.string (l.getD i mz).2.1) ∧ w.cell? ⟨b, off + i * 4 + 2, none⟩ = some (.string (l.getD i mz).2.2.1) ∧ w.cell? ⟨b, off + i * 4 + 3, none⟩ = some (.slice am (l.getD i mz).2.2.2.length cm) ∧ Bya w am (l.getD i mz).2.2.2 cm := by
  obtain ⟨b', off', am, cm, e, h1, h2, h3, h4, h5⟩ := h i hi
  simp only [Option.some.injEq, Addr.mk.injEq] at e
  obtain ⟨rfl, rfl, _⟩ := e
  exact ⟨am, cm, h1, h2, h3, h4, h5⟩

theorem Mls.addr {w : World} {a : Option Addr} {l : List Mb} (h : Mls w a l) {i : Nat} (hi : i < l.length) : ∃ b off, a = some ⟨b, off, none⟩ := by
  obtain ⟨b, off, am, cm, e, _⟩ := h i hi
  exact ⟨b, off, e⟩

/-- Mails as values. -/
def Mvs (w : World) (xs : List Value) (l : List Mb) : Prop :=
  xs.length = l.length * 4 ∧ ∀ i : Nat, i < l.length → ∃ am cm, xs[i * 4]? = some (.string (l.getD i mz).1) ∧ xs[i * 4 + 1]? = some (.string (l.getD i mz).2.1) ∧ xs[i * 4 + 2]? = some (.string (l.getD i mz).2.2.1) ∧ xs[i * 4 + 3]? = some (.slice am (l.getD i mz).2.2.2.length cm) ∧ Bya w am (l.getD i mz).2.2.2 cm

theorem Mvs.all {w w' : World} {xs : List Value} {l : List Mb} (h : Mvs w xs l) (hb : Below w.heap.size w w') : Mvs w' xs l := by
  refine ⟨h.1, fun i hi => ?_⟩
  obtain ⟨am, cm, h1, h2, h3, h4, h5⟩ := h.2 i hi
  exact ⟨am, cm, h1, h2, h3, h4, h5.all hb⟩

theorem Mvs.nil (w : World) : Mvs w [] [] := ⟨rfl, fun _ hi => absurd hi (Nat.not_lt_zero _)⟩

theorem Mvs.append {w : World} {xs ys : List Value} {l m : List Mb} (h : Mvs w xs l) (h' : Mvs w ys m) : Mvs w (xs ++ ys) (l ++ m) := by
  obtain ⟨h1, h2⟩ := h
  obtain ⟨g1, g2⟩ := h'
  refine ⟨by rw [List.length_append, List.length_append, h1, g1]; omega, fun i hi => ?_⟩
  rw [List.length_append] at hi
  by_cases e : i < l.length
  · have e2 : (l ++ m).getD i mz = l.getD i mz := by simp [List.getElem?_append, e]
    rw [e2, List.getElem?_append_left (by omega), List.getElem?_append_left (by omega), List.getElem?_append_left (by omega), List.getElem?_append_left (by omega)]
    exact h2 i e
  · have e2 : (l ++ m).getD i mz = m.getD (i - l.length) mz := by simp [List.getElem?_append, e]
    rw [e2, List.getElem?_append_right (by omega), List.getElem?_append_right (by omega), List.getElem?_append_right (by omega), List.getElem?_append_right (by omega), h1, show i * 4 - l.length * 4 = (i - l.length) * 4 by omega, show i * 4 + 1 - l.length * 4 = (i - l.length) * 4 + 1 by omega, show i * 4 + 2 - l.length * 4 = (i - l.length) * 4 + 2 by omega, show i * 4 + 3 - l.length * 4 = (i - l.length) * 4 + 3 by omega]
    exact g2 _ (by omega)

theorem Mvs.one {w : World} {m : Mb} {am : Option Addr} {cm : Nat} (h : Bya w am m.2.2.2 cm) : Mvs w (mcs m am cm) [m] := by
  refine ⟨rfl, fun i hi => ?_⟩
  obtain rfl : i = 0 := by simpa using hi
  exact ⟨am, cm, rfl, rfl, rfl, rfl, h⟩

/-- A row of mails that a call has made: mails that lie in memory. -/
theorem mls_of_own {B : Nat} {a : Option Addr} {n cap : Nat} {l : List Mb} {xs : List Value} {w : World} (h : w.ownsRow B 51 4 (.slice a n cap) l.length xs) (hv : Mvs w xs l) : n = l.length ∧ Mls w a l ∧ l.length ≤ cap := by
  rcases h.2 with ⟨e, h0⟩ | ⟨g, cap', cur, e, hB, hh, hc, _, hcs, ht⟩
  · have : l = [] := List.length_eq_zero_iff.1 h0
    subst this
    cases e
    exact ⟨rfl, Mls.nil _ _, Nat.zero_le _⟩
  · cases e
    refine ⟨rfl, fun i hi => ?_, hc⟩
    obtain ⟨am, cm, a1, a2, a3, a4, a5⟩ := hv.2 i hi
    have hc : ∀ j, j < l.length * 4 → w.cell? ⟨g, j, none⟩ = xs[j]? := fun j hj => by
      rw [Lib.cell_of_heap hh, ← Array.getElem?_toList, ← ht, List.getElem?_take, if_pos hj]
    refine ⟨g, 0, am, cm, rfl, ?_, ?_, ?_, ?_, a5⟩
    · rw [Nat.zero_add, hc _ (by omega)]; exact a1
    · rw [Nat.zero_add, hc _ (by omega)]; exact a2
    · rw [Nat.zero_add, hc _ (by omega)]; exact a3
    · rw [Nat.zero_add, hc _ (by omega)]; exact a4

/-- The four cells of a new block, later. -/
theorem cells4_later {w w1 : World} {x y z u : Value} {t : TypeId} (hb : Below (w.alloc (.cells #[x, y, z, u] t)).heap.size (w.alloc (.cells #[x, y, z, u] t)) w1) : w1.cell? ⟨w.heap.size, 0, none⟩ = some x ∧ w1.cell? ⟨w.heap.size, 1, none⟩ = some y ∧ w1.cell? ⟨w.heap.size, 2, none⟩ = some z ∧ w1.cell? ⟨w.heap.size, 3, none⟩ = some u := by
  have h := blk_below hb (by simp) (heap_alloc_new w (.cells #[x, y, z, u] t))
  exact ⟨Lib.cell_of_heap h 0, Lib.cell_of_heap h 1, Lib.cell_of_heap h 2, Lib.cell_of_heap h 3⟩

theorem Tryd.infoMail : (Tryd.prog.info? 51).map (fun i => (i.zero, i.size, i.bytes)) = some (some (.agg #[.string ByteArray.empty, .string ByteArray.empty, .string ByteArray.empty, .slice none 0 0]), 4, 72) := by kernel_rfl

/-- The fault of a mail. -/
def mlf (m : Ml) : Int := if wrd m.1 40 ∧ wrd m.2.1 40 ∧ wrd m.2.2.1 40 ∧ 60 ∉ m.2.2.1 ∧ 62 ∉ m.2.2.1 then (if 40000 < m.2.2.2.length then 3 else 0) else 5
theorem mlf_0 {m : Ml} : mlf m = 0 ↔ mlOk m := by
  unfold mlf
  constructor
  · intro h
    split at h
    · rename_i c
      split at h
      · cases h
      · exact ⟨c, by omega⟩
    · cases h
  · intro h
    rw [if_pos h.1, if_neg (by have := h.2; omega)]

end Go.Proofs.YtppmpofdhkgjmafDoor
