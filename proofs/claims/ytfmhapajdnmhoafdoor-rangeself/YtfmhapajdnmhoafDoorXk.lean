/-
  Walk of the document's best choice of the rows from one on (it calls itself; what it marks as used it unmarks), and of its choice of all. Walks of the document's own fault of a square, of its best choice, row by row, and of its choice of all. Walks of the document's choice of all rows, of two lists of numbers compared, of a number in a list.
-/
import Derived.Test.YtfmhapajdnmhoafDoorXf
import Derived.Test.YtfmhapajdnmhoafDoorXd
namespace Go.Proofs.YtfmhapajdnmhoafDoor
open Go.RowKit Dist

theorem Tryd.infoBool1 : (Tryd.prog.info? 4).map (fun i => (i.zero, i.size, i.bytes)) = some (some (.bool false), 1, 1) := by kernel_rfl

/-- What is used, in memory. -/
def Brow (w : World) (G : Nat) (us : List Bool) : Prop :=
  ∃ bs : Array Value, w.heap[G]? = some (.cells bs 4 (0, 0)) ∧ bs.size = us.length ∧ ∀ k, k < us.length → bs[k]? = some (.bool (us.getD k false))
theorem Brow.cell {w : World} {G : Nat} {us : List Bool} (h : Brow w G us) {k : Nat} (hk : k < us.length) : w.cell? ⟨G, k, none⟩ = some (.bool (us.getD k false)) := by
  obtain ⟨rs, hb, _, hat⟩ := h
  rw [Lib.cell_of_heap hb]; exact hat k hk
theorem Brow.frozen {w : World} {G : Nat} {us : List Bool} (h : Brow w G us) (k : Nat) : w.frozen? ⟨G, k, none⟩ = false := by
  obtain ⟨rs, hb, _, _⟩ := h
  exact Lib.frozen_of_heap hb k
theorem Brow.lt {w : World} {G : Nat} {us : List Bool} (h : Brow w G us) : G < w.heap.size := by
  obtain ⟨rs, hb, _, _⟩ := h
  exact (Array.getElem?_eq_some_iff.1 hb).1
theorem Brow.below {w w' : World} {G U : Nat} {us : List Bool} (h : Brow w G us) (hb : Below U w w') (hG : G < U) : Brow w' G us := by
  obtain ⟨rs, hh, hs, hat⟩ := h
  exact ⟨rs, blk_below hb hG hh, hs, hat⟩
theorem Brow.set {w : World} {G : Nat} {us : List Bool} (h : Brow w G us) {j : Nat} (hj : j < us.length) (u : Bool) : Brow (w.setCell ⟨G, j, none⟩ (.bool u)) G (us.set j u) := by
  obtain ⟨rs, hb, hs, hat⟩ := h
  refine ⟨_, blk_set hb _, by simpa using hs, fun k hk => ?_⟩
  have hk : k < us.length := by simpa using hk
  by_cases e : k = j
  · subst e
    rw [Array.getElem?_setIfInBounds_self_of_lt (by omega)]
    simp [List.getElem?_set_self hj]
  · rw [Array.getElem?_setIfInBounds_ne (Ne.symm e), hat k hk]
    simp [Ne.symm e]

/-- A mark that is put and taken away again leaves all as it was. -/
theorem putback {w w2 : World} {G k : Nat} {us : List Bool} (h : Brow w G us) (hk : k < us.length) (hu : us.getD k false = false) (hb : Below w.heap.size (w.setCell ⟨G, k, none⟩ (.bool true)) w2) : Below w.heap.size w (w2.setCell ⟨G, k, none⟩ (.bool false)) := by
  have hG := h.lt
  obtain ⟨rs, hh, hs, hat⟩ := h
  have h1 : (w.setCell ⟨G, k, none⟩ (.bool true)).heap[G]? = some (.cells (rs.setIfInBounds k (.bool true)) 4 (0, 0)) := blk_set hh _
  have h2 : w2.heap[G]? = some (.cells (rs.setIfInBounds k (.bool true)) 4 (0, 0)) := blk_below hb hG h1
  have h3 := blk_set h2 (i := k) (.bool false)
  have h4 : (rs.setIfInBounds k (.bool true)).setIfInBounds k (.bool false) = rs := by
    refine Array.ext_getElem? fun i => ?_
    by_cases e : i = k
    · subst e
      rw [Array.getElem?_setIfInBounds_self_of_lt (by simp; omega), hat i hk, hu]
    · rw [Array.getElem?_setIfInBounds_ne (Ne.symm e), Array.getElem?_setIfInBounds_ne (Ne.symm e)]
  rw [h4] at h3
  refine ⟨hb.os, hb.tape, hb.output, by simpa using hb.size, fun i hi => ?_⟩
  by_cases e : i = G
  · rw [e, h3, hh]
  · have e1 : (w2.setCell ⟨G, k, none⟩ (.bool false)).heap[i]? = w2.heap[i]? := by
      simp only [World.setCell, Array.getElem?_modify]
      rw [if_neg (fun x => e x.symm)]
    have e2 : (w.setCell ⟨G, k, none⟩ (.bool true)).heap[i]? = w.heap[i]? := by
      simp only [World.setCell, Array.getElem?_modify]
      rw [if_neg (fun x => e x.symm)]
    rw [e1, hb.block i hi, e2]

theorem Brow.not {w : World} {G : Nat} {us : List Bool} (h : Brow w G us) {b i : Nat} {v : Value} (hc : w.cell? ⟨b, i, none⟩ = some v) (hv : ∀ x, v ≠ .bool x) : b ≠ G := by
  rintro rfl
  obtain ⟨rs, hb, hs, hat⟩ := h
  rw [Lib.cell_of_heap hb] at hc
  by_cases hi : i < us.length
  · rw [hat i hi] at hc
    exact hv _ (Option.some.inj hc).symm
  · rw [Array.getElem?_eq_none (by omega)] at hc
    cases hc
theorem Ins.mark {w : World} {a : Option Addr} {zs : List Int} (h : Ins w a zs) {G : Nat} {us : List Bool} (hB : Brow w G us) (k : Nat) (v : Value) : Ins (w.setCell ⟨G, k, none⟩ v) a zs := by
  intro i hi
  obtain ⟨b, off, e, hc⟩ := h i hi
  refine ⟨b, off, e, ?_⟩
  have hne := hB.not hc (by simp)
  rw [World.cell?_setCell_other _ _ _ _ (fun x => hne (by simpa using (congrArg Addr.block x).symm))]
  exact hc
theorem Sqr.mark {w : World} {a : Option Addr} {cs : List (List Int)} (h : Sqr w a cs) {G : Nat} {us : List Bool} (hB : Brow w G us) (k : Nat) (v : Value) : Sqr (w.setCell ⟨G, k, none⟩ v) a cs := by
  intro i hi
  obtain ⟨b, off, ar, cap, e, hc, hr⟩ := h i hi
  refine ⟨b, off, ar, cap, e, ?_, hr.mark hB k v⟩
  have hne := hB.not hc (by simp)
  rw [World.cell?_setCell_other _ _ _ _ (fun x => hne (by simpa using (congrArg Addr.block x).symm))]
  exact hc

/-- What comes of it. -/
def BesV (cs : List (List Int)) (f r : Nat) (us : List Bool) (e : Ending) (w w' : World) : Prop :=
  ∃ v, e = .returned (.tuple #[.int .i64 (bst cs cs.length f r us).1, v]) ∧ Inl w' w.heap.size v ((bst cs cs.length f r us).2.map Int.ofNat) ∧ Below w.heap.size w w'

/-- How far the columns have been gone through. -/
def fdB (cs : List (List Int)) (n f r : Nat) (us : List Bool) (k : Nat) : Int × List Nat := (List.range k).foldl (pickM cs r us fun k => bst cs n f (r + 1) (us.set k true)) (-1, [])
theorem fdB_zero (cs : List (List Int)) (n f r : Nat) (us : List Bool) : fdB cs n f r us 0 = (-1, []) := rfl
theorem fdB_succ (cs : List (List Int)) (n f r : Nat) (us : List Bool) (k : Nat) : fdB cs n f r us (k + 1) = pickM cs r us (fun k => bst cs n f (r + 1) (us.set k true)) (fdB cs n f r us k) k := by
  unfold fdB
  rw [List.range_succ, List.foldl_append, List.foldl_cons, List.foldl_nil]
theorem fdB_all (cs : List (List Int)) (n f r : Nat) (us : List Bool) : fdB cs n f r us n = bst cs n (f + 1) r us := rfl
theorem bst_bound {cs : List (List Int)} (h0 : sqf cs = 0) {n f r : Nat} {us : List Bool} (hn : us.length = n) (hf : lefts us = f) : 0 ≤ (bst cs n f r us).1 ∧ (bst cs n f r us).1 ≤ 100000 * f ∧ (bst cs n f r us).2.length = f := by
  obtain ⟨h1, h2⟩ := bst_best (sqf_nonneg h0) f r us hn hf
  have h3 := cst_le (fun i k => (sqf_cost h0 i k).2) (bst cs n f r us).2 r
  have h4 := cst_nonneg (sqf_nonneg h0) (bst cs n f r us).2 r
  rw [h1.1.1] at h3
  exact ⟨by omega, by omega, h1.1.1⟩

end Go.Proofs.YtfmhapajdnmhoafDoor
namespace Go.Proofs.YtfmhapajdnmhoafDoor
open Go.RowKit Dist

end Go.Proofs.YtfmhapajdnmhoafDoor
namespace Go.Proofs.YtfmhapajdnmhoafDoor
open Go.RowKit Dist

set_option maxHeartbeats 1000000 in
theorem has_num (a : Option Addr) (zs : List Int) (c : Int) (ca m : Nat) (w : World) (hl : zs.length = m) (ha : Ins w a zs) (hm : m ≤ maxLen) :
    Calls Tryd.prog 6 #[.slice a m ca, .int .i64 c] w fun e w' => e = .returned (.bool (decide (c ∈ zs))) ∧ w' = w := by
  unfold maxLen at hm
  have HL : Hid (zs.length = m) := hl
  have HA : Hid (Ins w a zs) := ha
  obtain ⟨v, hv⟩ : ∃ v, decide (c ∈ zs) = v := ⟨_, rfl⟩
  rw [hv]
  have HV : Hid (decide (c ∈ zs) = v) := hv
  clear hv hl ha
  go_enter Tryd.func6, Tryd.ntmps6
  go_wp2
  go_loopw [5] (fun i w1 => ∃ k : Nat, k ≤ m ∧ i = .int .i64 k ∧ w1 = w ∧ ∀ j : Nat, j < k → zs.getD j 0 ≠ c) (fun i _ => m - (intOf i).toNat)
  case atStart => exact ⟨0, Nat.zero_le _, rfl, rfl, fun j hj => absurd hj (Nat.not_lt_zero _)⟩
  case round =>
    obtain ⟨k, hk, rfl, rfl, hall⟩ := hrel
    have HB : Hid (∀ j : Nat, j < k → zs.getD j 0 ≠ c) := hall
    clear hall
    by_cases hlt : k < m
    · have hkl : k < zs.length := by rw [HL.out]; exact hlt
      obtain ⟨b, off, rfl, hat⟩ := Ins.at HA.out hkl
      have hc := hat k hkl
      clear hat
      obtain ⟨x, hx⟩ : ∃ x, zs.getD k 0 = x := ⟨_, rfl⟩
      rw [hx] at hc
      have HX : Hid (zs.getD k 0 = x) := hx
      clear hx
      by_cases he : x = c
      · subst he
        have e1 : v = true := by
          rw [← HV.out, decide_eq_true_eq, ← HX.out]
          rw [List.getD_eq_getElem?_getD, List.getElem?_eq_getElem hkl]
          exact List.getElem_mem hkl
        subst e1
        go_wp2
        go_ret
        exact ⟨by first | rfl | trivial, by first | rfl | trivial⟩
      · have he2 : (x == c) = false := by simpa using he
        have HE : Hid (¬ x = c) := he
        clear he
        go_wp2
        go_roundw
        case rel => exact ⟨k + 1, by omega, by go_num, trivial, fun j hj => by
          by_cases e : j = k
          · subst e; rw [HX.out]; exact HE.out
          · exact HB.out j (by omega)⟩
        case measure => simp [intOf]; omega
    · have e1 : v = false := by
        rw [← HV.out, decide_eq_false_iff_not]
        intro h
        obtain ⟨j, hj, e⟩ := List.mem_iff_getElem.1 h
        refine HB.out j (by have := HL.out; omega) ?_
        rw [← e]; simp [hj]
      subst e1
      go_wp2
      go_ret
      exact ⟨by first | rfl | trivial, by first | rfl | trivial⟩

end Go.Proofs.YtfmhapajdnmhoafDoor
