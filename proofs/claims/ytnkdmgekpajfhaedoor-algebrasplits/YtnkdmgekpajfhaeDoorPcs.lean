/-
  Rows of marks that a call has made and fills; walks of edit.Copy, hunk.turnSign, hunk.turnMarks: the same marks in memory of their own, and turned.
-/
import Derived.Test.YtnkdmgekpajfhaeDoorHks

namespace Go.Proofs.YtnkdmgekpajfhaeDoor
open Go.RowKit Dist

/-- A row of marks that a call has made: at the places that P names it has what f says. -/
def MRow (w : World) (B n : Nat) (P : Nat → Prop) (f : Nat → Int × ByteArray) : Prop :=
  ∃ cs : Array Value, w.heap[B]? = some (.cells cs 37 (0, 0)) ∧ cs.size = n * 2 ∧ ∀ j, j < n → P j → cs[j * 2]? = some (.int .u8 (f j).1) ∧ cs[j * 2 + 1]? = some (.string (f j).2)

theorem MRow.any {w : World} {B n : Nat} {P : Nat → Prop} {f : Nat → Int × ByteArray} (h : MRow w B n P f) {i : Nat} (hi : i < n * 2) : ∃ v, w.cell? ⟨B, i, none⟩ = some v := by
  obtain ⟨cs, hc, hs, _⟩ := h
  rw [Lib.cell_of_heap hc]
  exact ⟨_, Array.getElem?_eq_getElem (by omega)⟩

theorem MRow.frozen {w : World} {B n : Nat} {P : Nat → Prop} {f : Nat → Int × ByteArray} (h : MRow w B n P f) (i : Nat) : w.frozen? ⟨B, i, none⟩ = false := by
  obtain ⟨cs, hc, _⟩ := h
  exact Lib.frozen_of_heap hc i

theorem MRow.lt {w : World} {B n : Nat} {P : Nat → Prop} {f : Nat → Int × ByteArray} (h : MRow w B n P f) : B < w.heap.size := by
  obtain ⟨cs, hc, _⟩ := h
  by_cases e : B < w.heap.size
  · exact e
  · rw [Array.getElem?_eq_none (by omega)] at hc; cases hc

theorem MRow.below {w w' : World} {B n : Nat} {P : Nat → Prop} {f : Nat → Int × ByteArray} (h : MRow w B n P f) (hb : Below w.heap.size w w') : MRow w' B n P f := by
  have hl := h.lt
  obtain ⟨cs, hc, h2⟩ := h
  exact ⟨cs, blk_below hb hl hc, h2⟩

theorem MRow.cell {w : World} {B n : Nat} {P : Nat → Prop} {f : Nat → Int × ByteArray} (h : MRow w B n P f) {j : Nat} (hj : j < n) (hp : P j) : w.cell? ⟨B, j * 2, none⟩ = some (.int .u8 (f j).1) ∧ w.cell? ⟨B, j * 2 + 1, none⟩ = some (.string (f j).2) := by
  obtain ⟨cs, hc, _, hat⟩ := h
  rw [Lib.cell_of_heap hc, Lib.cell_of_heap hc]; exact hat j hj hp

theorem MRow.mono {w : World} {B n : Nat} {P Q : Nat → Prop} {f g : Nat → Int × ByteArray} (h : MRow w B n P f) (hq : ∀ j, j < n → Q j → P j ∧ f j = g j) : MRow w B n Q g := by
  obtain ⟨cs, hc, hs, hat⟩ := h
  refine ⟨cs, hc, hs, fun j hj hp => ?_⟩
  obtain ⟨h1, h2⟩ := hq j hj hp
  rw [← h2]; exact hat j hj h1

theorem MRow.set {w : World} {B n : Nat} {P : Nat → Prop} {f : Nat → Int × ByteArray} (h : MRow w B n P f) {k : Nat} (hk : k < n) (c : Int) (t : ByteArray) :
    MRow ((w.setCell ⟨B, k * 2, none⟩ (.int .u8 c)).setCell ⟨B, k * 2 + 1, none⟩ (.string t)) B n (fun j => j = k ∨ P j) (fun j => if j = k then (c, t) else f j) := by
  obtain ⟨cs, hc, hs, hat⟩ := h
  refine ⟨_, blk_set (blk_set hc _) _, by simpa using hs, fun j hj hp => ?_⟩
  dsimp only at hp ⊢
  by_cases e : j = k
  · subst e
    rw [if_pos rfl]
    rw [Array.getElem?_setIfInBounds_ne (by omega), Array.getElem?_setIfInBounds_self_of_lt (by omega), Array.getElem?_setIfInBounds_self_of_lt (by simp; omega)]
    exact ⟨rfl, rfl⟩
  · rw [if_neg e]
    rw [Array.getElem?_setIfInBounds_ne (by omega), Array.getElem?_setIfInBounds_ne (by omega), Array.getElem?_setIfInBounds_ne (by omega), Array.getElem?_setIfInBounds_ne (by omega)]
    exact hat j hj (hp.resolve_left e)

theorem MRow.sign {w : World} {B n : Nat} {P : Nat → Prop} {f : Nat → Int × ByteArray} (h : MRow w B n P f) {k : Nat} (hk : k < n) (c : Int) :
    MRow (w.setCell ⟨B, k * 2, none⟩ (.int .u8 c)) B n P (fun j => if j = k then (c, (f j).2) else f j) := by
  obtain ⟨cs, hc, hs, hat⟩ := h
  refine ⟨_, blk_set hc _, by simpa using hs, fun j hj hp => ?_⟩
  dsimp only
  by_cases e : j = k
  · subst e
    rw [if_pos rfl]
    rw [Array.getElem?_setIfInBounds_self_of_lt (by omega), Array.getElem?_setIfInBounds_ne (by omega)]
    exact ⟨rfl, (hat j hj hp).2⟩
  · rw [if_neg e]
    rw [Array.getElem?_setIfInBounds_ne (by omega), Array.getElem?_setIfInBounds_ne (by omega)]
    exact hat j hj hp

theorem MRow.mks {w : World} {B : Nat} {P : Nat → Prop} {f : Nat → Int × ByteArray} {ms : List (Int × ByteArray)} (h : MRow w B ms.length P f) (hp : ∀ j, j < ms.length → P j ∧ f j = ms.getD j (0, ByteArray.empty)) : Mks w (some ⟨B, 0, none⟩) ms := by
  intro i hi
  obtain ⟨h1, h2⟩ := hp i hi
  have := h.cell hi h1
  rw [h2] at this
  exact ⟨B, 0, rfl, by rw [Nat.zero_add]; exact this⟩

/-- A row of marks, new. -/
theorem run_make_marks (kl kc : IntKind) (n : Nat) (hn : n ≤ 1000) (w : World) :
    (Instr.makeSlice 38 (.int kl (n : Int)) (.int kc (n : Int))).run Tryd.prog w = .ok (.slice (some ⟨w.heap.size, 0, none⟩) n n) (w.alloc (.cells (madeCells #[.int .u8 0, .string ByteArray.empty] (n * 2)) 37)) := by
  obtain ⟨i0, hi, hz0, hz1, hz2⟩ := info_parts Tryd.infoMark
  have hr := run_make (P := Tryd.prog) w 38 37 i0 _ Tryd.underlying38 hi hz0 kl kc n n (by omega) (Int.le_refl _) (by rw [hz2]; omega) (by omega)
  rw [hz1] at hr
  exact hr

set_option maxRecDepth 100000 in
set_option maxHeartbeats 1000000 in
theorem copyOf (a : Option Addr) (ms : List (Int × ByteArray)) (ca : Nat) (w : World) (ha : Mks w a ms) (hm : ms.length ≤ 120) (ht : ∀ m ∈ ms, m.2.size ≤ 80) :
    Calls Tryd.prog 57 #[.slice a ms.length ca] w fun e w' => e = .returned (.slice (some ⟨w.heap.size, 0, none⟩) ms.length ms.length) ∧ Below w.heap.size w w' ∧ MRow w' w.heap.size ms.length (fun _ => True) (fun j => ms.getD j (0, ByteArray.empty)) := by
  obtain ⟨n, hn⟩ : ∃ n, ms.length = n := ⟨_, rfl⟩
  rw [hn] at hm ⊢
  have HN : Hid (ms.length = n) := hn
  have HA : Hid (Mks w a ms) := ha
  have HT : Hid (∀ m ∈ ms, m.2.size ≤ 80) := ht
  clear hn ha ht
  obtain ⟨B, hB⟩ : ∃ B, w.heap.size = B := ⟨_, rfl⟩
  have HB : Hid (w.heap.size = B) := hB
  have hmk := fun w => run_make_marks .i64 .i64 n (by omega) w
  go_enter Tryd.func57, Tryd.ntmps57
  go_wp2
  clear hmk
  go_loopw [11] (fun i w1 => ∃ k : Nat, k ≤ n ∧ i = .int .i64 k ∧ Below B w w1 ∧ MRow w1 B n (fun j => j < k) (fun j => ms.getD j (0, ByteArray.empty))) (fun i _ => n - (intOf i).toNat)
  case atStart =>
    refine ⟨0, Nat.zero_le _, rfl, (Below.refl _ _).alloc (by rw [hB]; exact Nat.le_refl _) _, ?_⟩
    subst hB
    exact ⟨_, heap_alloc_new w _, size_madeCells _ _, fun j _ hj => absurd hj (Nat.not_lt_zero _)⟩
  case round =>
    obtain ⟨k, hk, rfl, hbl, hrow⟩ := hrel
    by_cases hlt : k < n
    · have ha := HA.out
      have hkl : k < ms.length := by rw [HN.out]; exact hlt
      obtain ⟨b, off, rfl, hc1, hc2⟩ := ha.at (i := k) hkl
      clear ha
      replace hc1 := cell_later (by rw [HB.out]; exact hbl) hc1
      replace hc2 := cell_later (by rw [HB.out]; exact hbl) hc2
      have hts : (ms.getD k (0, ByteArray.empty)).2.size ≤ 80 := HT.out _ (by
        have e : ms.getD k (0, ByteArray.empty) = ms[k] := by simp [hkl]
        rw [e]; exact List.getElem_mem _)
      obtain ⟨c, hc⟩ : ∃ c, (ms.getD k (0, ByteArray.empty)).1 = c := ⟨_, rfl⟩
      obtain ⟨t, ht⟩ : ∃ t, (ms.getD k (0, ByteArray.empty)).2 = t := ⟨_, rfl⟩
      have HE : Hid (ms.getD k (0, ByteArray.empty) = (c, t)) := getD_eta ms k hc ht
      rw [hc] at hc1
      rw [ht] at hc2 hts
      have HROW : Hid (MRow wr B n (fun j => j < k) (fun j => ms.getD j (0, ByteArray.empty))) := hrow
      clear hc ht hkl hrow
      have hmo := markOf c t (wr.alloc (.cells #[.int .u8 c, .string t] 37)) hts
      go_wp2_with (go_at_call 74; refine hmo.mono ?_)
      rintro e w1 ⟨rfl, hb1⟩
      clear hmo hc1 hc2
      have hb1' := (below_alloc wr (.cells #[.int .u8 c, .string t] 37)).trans (hb1.mono (by simp))
      have hrow1 := HROW.out.below hb1'
      have hb1 := hbl.trans (hb1'.mono (by have := hbl.size; have := HB.out; omega))
      obtain ⟨v1, hv1⟩ := hrow1.any (i := k * 2) (by omega)
      obtain ⟨v2, hv2⟩ := hrow1.any (i := k * 2 + 1) (by omega)
      have hf1 := hrow1.frozen (k * 2)
      have hf2 := hrow1.frozen (k * 2 + 1)
      have HR1 : Hid (MRow w1 B n (fun j => j < k) (fun j => ms.getD j (0, ByteArray.empty))) := hrow1
      clear hb1' hrow1 HROW hbl
      go_wp2
      go_roundw
      case rel =>
        refine ⟨k + 1, by omega, by go_num, ?_, ?_⟩
        · exact (hb1.setCell (by simp) _).setCell (by simp) _
        · exact (HR1.out.set hlt c t).mono fun j hj hp => ⟨by omega, by
            by_cases e : j = k
            · rw [if_pos e, e]; exact HE.out.symm
            · rw [if_neg e]⟩
      case measure => simp [intOf]; omega
    · obtain rfl : k = n := by omega
      go_wp2
      go_ret
      refine ⟨by rw [HB.out]; rfl, by rw [HB.out]; exact hbl, by rw [HB.out]; exact hrow.mono fun j hj _ => ⟨hj, rfl⟩⟩

set_option maxHeartbeats 400000 in
theorem turnSign (c : Int) (w : World) : Calls Tryd.prog 73 #[.int .u8 c] w fun e w' => e = .returned (.int .u8 (sw c)) ∧ w' = w := by
  have E : Hid (∀ b, sw c = b → Ending.returned (.int .u8 b) = .returned (.int .u8 (sw c))) := fun b hb => by rw [hb]
  by_cases h1 : c = 45
  · subst h1
    go_enter Tryd.func73, Tryd.ntmps73
    go_wp2
    go_ret
    exact ⟨E.out _ rfl, rfl⟩
  have h1' : (c == 45) = false := by simpa using h1
  by_cases h2 : c = 43
  · subst h2
    go_enter Tryd.func73, Tryd.ntmps73
    go_wp2
    go_ret
    exact ⟨E.out _ rfl, rfl⟩
  have h2' : (c == 43) = false := by simpa using h2
  have E2 : Hid (sw c = c) := by show sw c = c; unfold sw; rw [if_neg h1, if_neg h2]
  clear h1 h2
  go_enter Tryd.func73, Tryd.ntmps73
  go_wp2
  go_ret
  exact ⟨E.out _ E2.out, rfl⟩

theorem swm_getD (ms : List (Int × ByteArray)) (j : Nat) (hj : j < ms.length) : (swm ms).getD j (0, ByteArray.empty) = (sw (ms.getD j (0, ByteArray.empty)).1, (ms.getD j (0, ByteArray.empty)).2) := by
  unfold swm
  simp [hj]

set_option maxRecDepth 100000 in
set_option maxHeartbeats 1000000 in
theorem turnMarks (a : Option Addr) (ms : List (Int × ByteArray)) (ca : Nat) (w : World) (ha : Mks w a ms) (hf : sf ms = 0) :
    Calls Tryd.prog 55 #[.slice a ms.length ca] w fun e w' => e = .returned (.slice (some ⟨w.heap.size, 0, none⟩) ms.length ms.length) ∧ Below w.heap.size w w' ∧ w.heap.size < w'.heap.size ∧ Mks w' (some ⟨w.heap.size, 0, none⟩) (swm ms) := by
  obtain ⟨hm, hgood⟩ := sf_zero hf
  have hcp := copyOf a ms ca w ha hm (fun m hm => by have := (lf_zero (hgood m hm).2).2; rw [Lib.size_eq]; exact this)
  obtain ⟨n, hn⟩ : ∃ n, ms.length = n := ⟨_, rfl⟩
  rw [hn] at hm hcp ⊢
  have HN : Hid (ms.length = n) := hn
  clear hn ha hf hgood
  obtain ⟨B, hB⟩ : ∃ B, w.heap.size = B := ⟨_, rfl⟩
  have HB : Hid (w.heap.size = B) := hB
  rw [hB] at hcp ⊢
  clear hB
  go_enter Tryd.func55, Tryd.ntmps55
  go_wp2_with (go_at_call 57; refine hcp.mono ?_)
  rintro e w0 ⟨rfl, hb0, hr0⟩
  have HB0 : Hid (Below B w w0) := hb0
  have HR0 : Hid (MRow w0 B n (fun _ => True) (fun j => ms.getD j (0, ByteArray.empty))) := hr0
  clear hcp hb0 hr0
  go_wp2
  go_loopw [9] (fun i w1 => ∃ k : Nat, k ≤ n ∧ i = .int .i64 k ∧ Below B w w1 ∧ MRow w1 B n (fun _ => True) (fun j => if j < k then (swm ms).getD j (0, ByteArray.empty) else ms.getD j (0, ByteArray.empty))) (fun i _ => n - (intOf i).toNat)
  case atStart => exact ⟨0, Nat.zero_le _, rfl, HB0.out, HR0.out.mono fun j _ _ => ⟨trivial, by rw [if_neg (Nat.not_lt_zero _)]⟩⟩
  case round =>
    obtain ⟨k, hk, rfl, hbl, hrow⟩ := hrel
    by_cases hlt : k < n
    · obtain ⟨hc1, hc2⟩ := hrow.cell hlt trivial
      rw [if_neg (Nat.lt_irrefl _)] at hc1 hc2
      have hf1 := hrow.frozen (k * 2)
      have HE := swm_getD ms k (by rw [HN.out]; exact hlt)
      obtain ⟨c, hc⟩ : ∃ c, (ms.getD k (0, ByteArray.empty)).1 = c := ⟨_, rfl⟩
      obtain ⟨t, ht⟩ : ∃ t, (ms.getD k (0, ByteArray.empty)).2 = t := ⟨_, rfl⟩
      have HEE : Hid ((swm ms).getD k (0, ByteArray.empty) = (sw c, t)) := by show (swm ms).getD k (0, ByteArray.empty) = _; rw [HE, hc, ht]
      have HT : Hid ((ms.getD k (0, ByteArray.empty)).2 = t) := ht
      rw [hc] at hc1
      have HROW : Hid (MRow wr B n (fun _ => True) (fun j => if j < k then (swm ms).getD j (0, ByteArray.empty) else ms.getD j (0, ByteArray.empty))) := hrow
      clear hc ht hc2 hrow HE
      go_wp2_with (go_at_call 73; refine (turnSign c wr).mono ?_; rintro e w' ⟨rfl, hw⟩; rw [hw])
      go_roundw
      case rel =>
        refine ⟨k + 1, by omega, by go_num, hbl.setCell (by simp) _, (HROW.out.sign hlt (sw c)).mono fun j hj _ => ⟨trivial, ?_⟩⟩
        by_cases e : j = k
        · subst e; rw [if_pos rfl, if_neg (Nat.lt_irrefl _), if_pos (Nat.lt_succ_self _), HEE.out, HT.out]
        · rw [if_neg e]
          by_cases e2 : j < k
          · rw [if_pos e2, if_pos (by omega)]
          · rw [if_neg e2, if_neg (by omega)]
      case measure => simp [intOf]; omega
    · obtain rfl : k = n := by omega
      go_wp2
      go_ret
      have hl := hrow.lt
      refine ⟨rfl, hbl, hl, ?_⟩
      have hlen := HN.out
      rw [← hlen, ← swm_length] at hrow
      refine hrow.mks fun j hj => ⟨trivial, ?_⟩
      rw [swm_length] at hj ⊢
      rw [if_pos hj]

end Go.Proofs.YtnkdmgekpajfhaeDoor
