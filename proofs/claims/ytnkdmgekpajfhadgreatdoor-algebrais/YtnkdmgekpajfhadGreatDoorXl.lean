/-
  Rows of hunks that a call has made and fills; walks of hunk.Turn: hunks turned; the fault else. Contracts in one form, fault or none: hunk.Turn, hunk.Cut, hunk.Make. Walk of the law ApplyMakes: it returns true and writes nothing that was there.
-/
import Derived.Test.YtnkdmgekpajfhadGreatDoorXx
import Derived.Deep.RegionWith
import Derived.Test.YtnkdmgekpajfhadGreatDoorXc
import Derived.Test.YtnkdmgekpajfhadGreatDoorXf

namespace Go.Proofs.YtnkdmgekpajfhadGreatDoor
open Go.RowKit Dist

/-- A row of hunks that a call has made: the first k places are filled. -/
def HRow (w : World) (B n k : Nat) (hs : List (Int × Int × List (Int × ByteArray))) : Prop :=
  ∃ cs : Array Value, w.heap[B]? = some (.cells cs 57 (0, 0)) ∧ cs.size = n * 3 ∧ ∀ j, j < k → ∃ g cap, cs[j * 3]? = some (.int .i64 (hs.getD j (0, 0, [])).1) ∧ cs[j * 3 + 1]? = some (.int .i64 (hs.getD j (0, 0, [])).2.1) ∧ cs[j * 3 + 2]? = some (.slice (some ⟨g, 0, none⟩) (hs.getD j (0, 0, [])).2.2.length cap) ∧ g ≠ B ∧ Mks w (some ⟨g, 0, none⟩) (hs.getD j (0, 0, [])).2.2 ∧ (hs.getD j (0, 0, [])).2.2.length ≤ cap

theorem HRow.any {w : World} {B n k : Nat} {hs : List (Int × Int × List (Int × ByteArray))} (h : HRow w B n k hs) {i : Nat} (hi : i < n * 3) : ∃ v, w.cell? ⟨B, i, none⟩ = some v := by
  obtain ⟨cs, hc, h2, _⟩ := h
  rw [Lib.cell_of_heap hc]
  exact ⟨_, Array.getElem?_eq_getElem (by omega)⟩

theorem HRow.frozen {w : World} {B n k : Nat} {hs : List (Int × Int × List (Int × ByteArray))} (h : HRow w B n k hs) (i : Nat) : w.frozen? ⟨B, i, none⟩ = false := by
  obtain ⟨cs, hc, _⟩ := h
  exact Lib.frozen_of_heap hc i

theorem HRow.lt {w : World} {B n k : Nat} {hs : List (Int × Int × List (Int × ByteArray))} (h : HRow w B n k hs) : B < w.heap.size := by
  obtain ⟨cs, hc, _⟩ := h
  by_cases e : B < w.heap.size
  · exact e
  · rw [Array.getElem?_eq_none (by omega)] at hc; cases hc

theorem HRow.below {w w' : World} {B n k : Nat} {hs : List (Int × Int × List (Int × ByteArray))} (h : HRow w B n k hs) (hb : Below w.heap.size w w') : HRow w' B n k hs := by
  have hl := h.lt
  obtain ⟨cs, hc, hs, hat⟩ := h
  refine ⟨cs, blk_below hb hl hc, hs, fun j hj => ?_⟩
  obtain ⟨g, cap, a1, a2, a3, a4, a5, a6⟩ := hat j hj
  exact ⟨g, cap, a1, a2, a3, a4, a5.below hb, a6⟩

theorem Mks.other {w : World} {g B i : Nat} {ms : List (Int × ByteArray)} (h : Mks w (some ⟨g, 0, none⟩) ms) (hne : g ≠ B) (v : Value) : Mks (w.setCell ⟨B, i, none⟩ v) (some ⟨g, 0, none⟩) ms := by
  intro j hj
  obtain ⟨b, off, e, m1, m2⟩ := h j hj
  obtain rfl : g = b := by
    have := congrArg (fun o => o.map Addr.block) e
    simpa using this
  refine ⟨g, off, e, ?_, ?_⟩
  · rw [World.cell?_setCell_other]
    · exact m1
    · intro e; have := congrArg Addr.block e; simp only at this; omega
  · rw [World.cell?_setCell_other]
    · exact m2
    · intro e; have := congrArg Addr.block e; simp only at this; omega

theorem HRow.set {w : World} {B n k : Nat} {hs : List (Int × Int × List (Int × ByteArray))} (h : HRow w B n k hs) (hk : k < n) {o p : Int} {ms : List (Int × ByteArray)} {g cap : Nat} (hh : hs.getD k (0, 0, []) = (o, p, ms)) (hg : g ≠ B) (hmk : Mks w (some ⟨g, 0, none⟩) ms) (hcp : ms.length ≤ cap) :
    HRow (((w.setCell ⟨B, k * 3, none⟩ (.int .i64 o)).setCell ⟨B, k * 3 + 1, none⟩ (.int .i64 p)).setCell ⟨B, k * 3 + 2, none⟩ (.slice (some ⟨g, 0, none⟩) ms.length cap)) B n (k + 1) hs := by
  obtain ⟨cs, hc, hs', hat⟩ := h
  refine ⟨_, blk_set (blk_set (blk_set hc _) _) _, by simpa using hs', fun j hj => ?_⟩
  by_cases e : j = k
  · subst e
    rw [hh]
    refine ⟨g, cap, ?_, ?_, ?_, hg, ((hmk.other hg _).other hg _).other hg _, hcp⟩
    · rw [Array.getElem?_setIfInBounds_ne (by omega), Array.getElem?_setIfInBounds_ne (by omega), Array.getElem?_setIfInBounds_self_of_lt (by omega)]
    · rw [Array.getElem?_setIfInBounds_ne (by omega), Array.getElem?_setIfInBounds_self_of_lt (by simp; omega)]
    · rw [Array.getElem?_setIfInBounds_self_of_lt (by simp; omega)]
  · obtain ⟨g1, c1, a1, a2, a3, a4, a5, a6⟩ := hat j (by omega)
    refine ⟨g1, c1, ?_, ?_, ?_, a4, ((a5.other a4 _).other a4 _).other a4 _, a6⟩
    · rw [Array.getElem?_setIfInBounds_ne (by omega), Array.getElem?_setIfInBounds_ne (by omega), Array.getElem?_setIfInBounds_ne (by omega)]; exact a1
    · rw [Array.getElem?_setIfInBounds_ne (by omega), Array.getElem?_setIfInBounds_ne (by omega), Array.getElem?_setIfInBounds_ne (by omega)]; exact a2
    · rw [Array.getElem?_setIfInBounds_ne (by omega), Array.getElem?_setIfInBounds_ne (by omega), Array.getElem?_setIfInBounds_ne (by omega)]; exact a3

theorem HRow.hks {w : World} {B n : Nat} {hs : List (Int × Int × List (Int × ByteArray))} (h : HRow w B n hs.length hs) : Hks w (some ⟨B, 0, none⟩) hs := by
  intro i hi
  obtain ⟨cs, hc, _, hat⟩ := h
  obtain ⟨g, cap, a1, a2, a3, _, a5, a6⟩ := hat i hi
  refine ⟨B, 0, some ⟨g, 0, none⟩, cap, rfl, ?_, ?_, ?_, a5, a6⟩
  · rw [Nat.zero_add, Lib.cell_of_heap hc]; exact a1
  · rw [Nat.zero_add, Lib.cell_of_heap hc]; exact a2
  · rw [Nat.zero_add, Lib.cell_of_heap hc]; exact a3

end Go.Proofs.YtnkdmgekpajfhadGreatDoor

namespace Go.Proofs.YtnkdmgekpajfhadGreatDoor
open Go.RowKit Dist

/-- Hunks turned, or none where there is a fault. -/
def tOfH (l : List (Int × Int × List (Int × ByteArray))) : List (Int × Int × List (Int × ByteArray)) := if (hf l).2 = 0 then trn l else []
/-- Pieces, or none where there is a fault. -/
def cOfH (ms : List (Int × ByteArray)) (n : Int) : List (Int × Int × List (Int × ByteArray)) := if cf ms n = 0 then cut ms n.toNat else []
/-- The fault of Make. -/
def mkf (xs ys : List ByteArray) (n : Int) : Int := if ff xs ys ≠ 0 then ff xs ys else if n < 0 ∨ 1000 < n then 1 else 0

def mOfH (xs ys : List ByteArray) (n : Int) : List (Int × Int × List (Int × ByteArray)) := if mkf xs ys n = 0 then cut (scr xs ys) n.toNat else []

theorem scr_sf {xs ys : List ByteArray} (hf : ff xs ys = 0) : sf (scr xs ys) = 0 := by
  obtain ⟨f1, f2⟩ := ff_zero hf
  have h1 := lsf_len f1
  have h2 := lsf_len f2
  obtain ⟨_, _, _, hl, hm⟩ := scr_ok xs ys
  refine sf_of (by omega) fun m hmem => ⟨(hm m hmem).1, ?_⟩
  rcases (hm m hmem).2 with h | h
  · exact (lsf_zero f1).2 _ (List.mem_map.2 ⟨_, h, rfl⟩)
  · exact (lsf_zero f2).2 _ (List.mem_map.2 ⟨_, h, rfl⟩)

theorem scr_cf {xs ys : List ByteArray} {n : Int} (hf : ff xs ys = 0) : cf (scr xs ys) n = mkf xs ys n := by
  have hs := scr_sf hf
  obtain ⟨f1, f2⟩ := ff_zero hf
  have h1 := lsf_len f1
  have h2 := lsf_len f2
  obtain ⟨o1, o2, _, _, hm⟩ := scr_ok xs ys
  have e1 := ob_less (scr xs ys) fun m h => (hm m h).1
  have e2 := nb_less (scr xs ys) fun m h => (hm m h).1
  rw [o1] at e1
  rw [o2] at e2
  unfold cf mkf
  have n1 : ¬ (sf (scr xs ys) ≠ 0) := fun h => h hs
  have n2 : ¬ (ff xs ys ≠ 0) := fun h => h hf
  have n3 : ¬ (60 < ob (scr xs ys) ∨ 60 < nb (scr xs ys)) := by omega
  rw [if_neg n1, if_neg n2, if_neg n3]

end Go.Proofs.YtnkdmgekpajfhadGreatDoor

namespace Go.Proofs.YtnkdmgekpajfhadGreatDoor
open Go.RowKit Dist

theorem lsf_of {xs : List ByteArray} (hl : xs.length ≤ 60) (h : ∀ x ∈ xs, lf x.data.toList = 0) : lsf (bts xs) = 0 := by
  unfold lsf
  rw [bts_length, if_neg (by omega)]
  clear hl
  induction xs with
  | nil => rfl
  | cons x r ih =>
    unfold bts at ih ⊢
    rw [List.map_cons, lsg, if_pos (h x (by simp))]
    exact ih fun y hy => h y (List.mem_cons_of_mem _ hy)

/-- What was found is done. -/
theorem stF_make {xs ys : List ByteArray} {n : Int} (h : mkf xs ys n = 0) : stF xs (mOfH xs ys n) = (0, 0) ∧ sR xs (mOfH xs ys n) = ys := by
  have hff : ff xs ys = 0 := by
    by_cases e : ff xs ys = 0
    · exact e
    · unfold mkf at h; rw [if_pos e] at h; exact absurd h e
  obtain ⟨f1, f2⟩ := ff_zero hff
  obtain ⟨o1, o2, _, _, hm⟩ := scr_ok xs ys
  have hs : ∀ m ∈ scr xs ys, sgn m.1 := fun m hmem => (hm m hmem).1
  obtain ⟨c1, c2⟩ := cut_stand hs n.toNat
  have c3 := cut_makes hs n.toNat
  rw [o1] at c2 c3
  rw [o2] at c3
  have e : mOfH xs ys n = cut (scr xs ys) n.toNat := by unfold mOfH; rw [if_pos h]
  have hcf := scr_cf (n := n) hff
  rw [h] at hcf
  obtain ⟨k1, _, _, k4, k5⟩ := cf_zero hcf
  have hhf := hf_cut k1 k4 k5 n.toNat
  rw [e]
  refine ⟨stF_ok f1 (by rw [hhf]) (clash_none c2) (by rw [c3]; have := lsf_len f2; omega), c3⟩

end Go.Proofs.YtnkdmgekpajfhadGreatDoor
