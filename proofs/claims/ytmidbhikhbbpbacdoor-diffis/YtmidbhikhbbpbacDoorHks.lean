/-
  Hunks as they lie in memory; walks of hunk.checkOne and hunk.Check: the fault of a hunk, the first fault of hunks.
-/
import Derived.Test.YtmidbhikhbbpbacDoorCnt

namespace Go.Proofs.YtmidbhikhbbpbacDoor
open Go.RowKit Dist

/-- Hunks as they lie in memory: two places and marks each. -/
def Hks (w : World) (a : Option Addr) (hs : List (Int × Int × List (Int × ByteArray))) : Prop :=
  ∀ i : Nat, i < hs.length → ∃ b off am cm, a = some ⟨b, off, none⟩ ∧ w.cell? ⟨b, off + i * 3, none⟩ = some (.int .i64 (hs.getD i (0, 0, [])).1) ∧ w.cell? ⟨b, off + i * 3 + 1, none⟩ = some (.int .i64 (hs.getD i (0, 0, [])).2.1) ∧ w.cell? ⟨b, off + i * 3 + 2, none⟩ = some (.slice am (hs.getD i (0, 0, [])).2.2.length cm) ∧ Mks w am (hs.getD i (0, 0, [])).2.2 ∧ (hs.getD i (0, 0, [])).2.2.length ≤ cm

theorem Hks.at {w : World} {a : Option Addr} {hs : List (Int × Int × List (Int × ByteArray))} (h : Hks w a hs) {i : Nat} (hi : i < hs.length) :
    ∃ b off am cm, a = some ⟨b, off, none⟩ ∧ w.cell? ⟨b, off + i * 3, none⟩ = some (.int .i64 (hs.getD i (0, 0, [])).1) ∧ w.cell? ⟨b, off + i * 3 + 1, none⟩ = some (.int .i64 (hs.getD i (0, 0, [])).2.1) ∧ w.cell? ⟨b, off + i * 3 + 2, none⟩ = some (.slice am (hs.getD i (0, 0, [])).2.2.length cm) ∧ Mks w am (hs.getD i (0, 0, [])).2.2 := by
  obtain ⟨b, off, am, cm, h0, h1, h2, h3, h4, _⟩ := h i hi
  exact ⟨b, off, am, cm, h0, h1, h2, h3, h4⟩

theorem Hks.below {w w' : World} {a : Option Addr} {hs : List (Int × Int × List (Int × ByteArray))} (h : Hks w a hs) (hb : Below w.heap.size w w') : Hks w' a hs := by
  intro i hi
  obtain ⟨b, off, am, cm, rfl, h1, h2, h3, h4, h5⟩ := h i hi
  exact ⟨b, off, am, cm, rfl, cell_later hb h1, cell_later hb h2, cell_later hb h3, h4.below hb, h5⟩

theorem Hks.nil (w : World) (a : Option Addr) : Hks w a [] := fun _ hi => absurd hi (Nat.not_lt_zero _)

theorem hOne_sf {o p : Int} {ms : List (Int × ByteArray)} (h : sf ms ≠ 0) : hOne (o, p, ms) = sf ms := by unfold hOne; rw [if_pos h]
theorem hOne_none {o p : Int} {ms : List (Int × ByteArray)} (h : sf ms = 0) (h2 : chg ms = 0) : hOne (o, p, ms) = 4 := by unfold hOne; rw [if_neg (fun x => x h), if_pos h2]
theorem hOne_fit {o p : Int} {ms : List (Int × ByteArray)} (h : sf ms = 0) (h2 : chg ms ≠ 0) : hOne (o, p, ms) = if (fitB o (ob ms) && fitB p (nb ms)) = true then 0 else 1 := by
  unfold hOne fitB
  rw [if_neg (fun x => x h), if_neg h2]
  simp only [Bool.and_eq_true, decide_eq_true_eq, and_assoc]

/-- The three cells of a new block, later. -/
theorem cells_later {w w1 : World} {x y z : Value} {t : TypeId} (hb : Below (w.alloc (.cells #[x, y, z] t)).heap.size (w.alloc (.cells #[x, y, z] t)) w1) : w1.cell? ⟨w.heap.size, 0, none⟩ = some x ∧ w1.cell? ⟨w.heap.size, 1, none⟩ = some y ∧ w1.cell? ⟨w.heap.size, 2, none⟩ = some z := by
  have h := blk_below hb (by simp) (heap_alloc_new w (.cells #[x, y, z] t))
  exact ⟨Lib.cell_of_heap h 0, Lib.cell_of_heap h 1, Lib.cell_of_heap h 2⟩

theorem getD_eta3 (l : List (Int × Int × List (Int × ByteArray))) (k : Nat) {o p : Int} {ms : List (Int × ByteArray)} (h1 : (l.getD k (0, 0, [])).1 = o) (h2 : (l.getD k (0, 0, [])).2.1 = p) (h3 : (l.getD k (0, 0, [])).2.2 = ms) : l.getD k (0, 0, []) = (o, p, ms) := by
  rw [← h1, ← h2, ← h3]

theorem tk_snoc3 (l : List (Int × Int × List (Int × ByteArray))) (k : Nat) (hk : k < l.length) : l.take (k + 1) = l.take k ++ [l.getD k (0, 0, [])] := by
  have e : l.getD k (0, 0, []) = l[k] := by simp [hk]
  rw [e, List.take_succ_eq_append_getElem hk]

theorem mem_getD3 {l : List (Int × Int × List (Int × ByteArray))} {k : Nat} (hk : k < l.length) : l.getD k (0, 0, []) ∈ l := by
  have e : l.getD k (0, 0, []) = l[k] := by simp [hk]
  rw [e]; exact List.getElem_mem _

/-- Of hunks that have no fault as far as a place what they put, less what they take, is little. -/
theorem sh_bound {l : List (Int × Int × List (Int × ByteArray))} {k : Nat} (hk : k ≤ l.length) (h : ∀ j, j < k → hAt l j = 0) : - (120 * k : Int) ≤ sh (l.take k) ∧ sh (l.take k) ≤ 120 * k := by
  have := sh_small (l := l.take k) (fun x hx => by
    obtain ⟨i, hi, rfl⟩ := List.mem_iff_getElem.1 hx
    rw [List.length_take] at hi
    have h1 := (hOne_zero (hAt_zero (h i (by omega))).1).1
    have e : l.getD i (0, 0, []) = (l.take k)[i]'(by rw [List.length_take]; exact hi) := by simp [show i < l.length by omega]
    rw [e] at h1; exact h1)
  rw [List.length_take, Nat.min_eq_left hk] at this
  exact this

theorem hPut_bad {e s o p : Int} {ms : List (Int × ByteArray)} (h : hOne (o, p, ms) ≠ 0) : hPut e s (o, p, ms) = hOne (o, p, ms) := by unfold hPut; rw [if_pos h]
theorem hPut_shape {e s o p : Int} {ms : List (Int × ByteArray)} (h : hOne (o, p, ms) = 0) (h2 : o < e ∨ p ≠ o + s) : hPut e s (o, p, ms) = 2 := by unfold hPut; rw [if_neg (fun x => x h), if_pos h2]
theorem hPut_ok {e s o p : Int} {ms : List (Int × ByteArray)} (h : hOne (o, p, ms) = 0) (h2 : ¬ (o < e ∨ p ≠ o + s)) : hPut e s (o, p, ms) = 0 := by unfold hPut; rw [if_neg (fun x => x h), if_neg h2]

theorem ret_t {a c : Int} {b d : Value} (h : a = c) (h2 : b = d) : Ending.returned (.tuple #[.int .i64 a, b]) = .returned (.tuple #[.int .i64 c, d]) := by rw [h, h2]

end Go.Proofs.YtmidbhikhbbpbacDoor
