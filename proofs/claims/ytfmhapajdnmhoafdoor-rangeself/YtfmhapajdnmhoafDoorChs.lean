/-
  Changes as they lie in memory; the walk of the comparison of two lists of the same changes.
-/
import Derived.Test.YtfmhapajdnmhoafDoorPa0
import Derived.Test.YtfmhapajdnmhoafDoorXz
import Derived.Deep.RegionWith
namespace Go.Proofs.YtfmhapajdnmhoafDoor
open Go.RowKit Dist

/-- Changes as they lie in memory: what, a path, hunks each. -/
def Chs (w : World) (a : Option Addr) (l : List Ch) : Prop :=
  ∀ i : Nat, i < l.length → ∃ b off ah ch, a = some ⟨b, off, none⟩ ∧ w.cell? ⟨b, off + i * 3, none⟩ = some (.int .i64 (l.getD i cz).1) ∧ w.cell? ⟨b, off + i * 3 + 1, none⟩ = some (.string (l.getD i cz).2.1) ∧ w.cell? ⟨b, off + i * 3 + 2, none⟩ = some (.slice ah (l.getD i cz).2.2.length ch) ∧ Hks w ah (l.getD i cz).2.2 ∧ (l.getD i cz).2.2.length ≤ ch

theorem Chs.below {w w' : World} {a : Option Addr} {l : List Ch} (h : Chs w a l) (hb : Below w.heap.size w w') : Chs w' a l := by
  intro i hi
  obtain ⟨b, off, ah, ch, rfl, h1, h2, h3, h4, h5⟩ := h i hi
  exact ⟨b, off, ah, ch, rfl, cell_later hb h1, cell_later hb h2, cell_later hb h3, h4.below hb, h5⟩

theorem Chs.nil (w : World) (a : Option Addr) : Chs w a [] := fun _ hi => absurd hi (Nat.not_lt_zero _)

theorem Chs.addr {w : World} {a : Option Addr} {l : List Ch} (h : Chs w a l) {i : Nat} (hi : i < l.length) : ∃ b off, a = some ⟨b, off, none⟩ := by
  obtain ⟨b, off, _, _, e, _⟩ := h i hi
  exact ⟨b, off, e⟩

theorem Chs.at {w : World} {b off : Nat} {l : List Ch} (h : Chs w (some ⟨b, off, none⟩) l) {i : Nat} (hi : i < l.length) :
    ∃ ah ch, w.cell? ⟨b, off + i * 3, none⟩ = some (.int .i64 (l.getD i cz).1) ∧ w.cell? ⟨b, off + i * 3 + 1, none⟩ = some (.string (l.getD i cz).2.1) ∧ w.cell? ⟨b, off + i * 3 + 2, none⟩ = some (.slice ah (l.getD i cz).2.2.length ch) ∧ Hks w ah (l.getD i cz).2.2 ∧ (l.getD i cz).2.2.length ≤ ch := by
  obtain ⟨b', off', ah, ch, e, h1, h2, h3, h4, h5⟩ := h i hi
  simp only [Option.some.injEq, Addr.mk.injEq] at e
  obtain ⟨rfl, rfl, _⟩ := e
  exact ⟨ah, ch, h1, h2, h3, h4, h5⟩

theorem getD_etac (l : List Ch) (k : Nat) {wh : Int} {p : ByteArray} {hs : List Hk} (h1 : (l.getD k cz).1 = wh) (h2 : (l.getD k cz).2.1 = p) (h3 : (l.getD k cz).2.2 = hs) : l.getD k cz = (wh, p, hs) := by
  rw [← h1, ← h2, ← h3]

end Go.Proofs.YtfmhapajdnmhoafDoor
