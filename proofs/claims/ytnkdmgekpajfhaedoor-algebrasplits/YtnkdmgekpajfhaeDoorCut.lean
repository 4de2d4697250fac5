/-
  Walks of hunk.checkCut, of hunk.piece, of the closure in hunk.Cut, and of hunk.Cut: the pieces of a script.
-/
import Derived.Test.YtnkdmgekpajfhaeDoorHown

namespace Go.Proofs.YtnkdmgekpajfhaeDoor
open Go.RowKit Dist

/-- A part of marks, where it lies. -/
theorem Mks.part {w : World} {b off : Nat} {ms : List (Int × ByteArray)} (h : Mks w (some ⟨b, off, none⟩) ms) (lo hi : Nat) : Mks w (some ⟨b, off + lo * 2, none⟩) ((ms.take hi).drop lo) := by
  intro i hi'
  rw [List.length_drop, List.length_take] at hi'
  obtain ⟨b', off', e, h1, h2⟩ := h (lo + i) (by omega)
  simp only [Option.some.injEq, Addr.mk.injEq] at e
  obtain ⟨rfl, rfl, _⟩ := e
  refine ⟨b, off + lo * 2, rfl, ?_⟩
  have e2 : ((ms.take hi).drop lo).getD i (0, ByteArray.empty) = ms.getD (lo + i) (0, ByteArray.empty) := by
    simp [List.getElem?_drop, show lo + i < hi by omega]
  rw [e2, show off + lo * 2 + i * 2 = off + (lo + i) * 2 by omega]
  exact ⟨h1, h2⟩

theorem near_part {ms : List (Int × ByteArray)} {n i : Nat} (hi : i < ms.length) : near ms n i = decide (0 < chg ((ms.take (min ms.length (i + n + 1))).drop (i - n))) := by
  by_cases h : near ms n i = true
  · rw [h]
    rw [near_iff] at h
    obtain ⟨_, c, hc, hcs, h1, h2⟩ := h
    exact (decide_eq_true (ch_pos hc hcs (by omega) (by omega))).symm
  · have h : near ms n i = false := by simpa using h
    rw [h]
    symm
    rw [decide_eq_false_iff_not]
    intro hp
    unfold chg at hp
    rw [List.length_pos_iff_exists_mem] at hp
    obtain ⟨m, hm⟩ := hp
    obtain ⟨hm, hne⟩ := List.mem_filter.1 hm
    obtain ⟨j, hj, rfl⟩ := List.mem_iff_getElem.1 hm
    rw [List.length_drop, List.length_take] at hj
    rw [near_not] at h
    refine h ⟨hi, i - n + j, by omega, ?_, by omega, by omega⟩
    simp only [List.getElem_drop, List.getElem_take] at hne
    simpa [show i - n + j < ms.length by omega] using hne

set_option maxRecDepth 100000 in
set_option maxHeartbeats 400000 in
theorem isNear (b off : Nat) (ms : List (Int × ByteArray)) (ca n i S T : Nat) (w : World) (ha : Mks w (some ⟨b, off, none⟩) ms) (hm : ms.length ≤ 120) (hca : ms.length ≤ ca) (hi : i < ms.length) (hn : n ≤ 1000)
    (hs : w.cell? ⟨S, 0, none⟩ = some (.slice (some ⟨b, off, none⟩) ms.length ca)) (ht : w.cell? ⟨T, 0, none⟩ = some (.int .i64 n)) :
    Calls Tryd.prog 102 #[.int .i64 i, .pointer (some ⟨S, 0, none⟩), .pointer (some ⟨T, 0, none⟩)] w fun e w' => e = .returned (.bool (near ms n i)) ∧ Below w.heap.size w w' := by
  have hco := containsFunc _ _ (ca - (i - n)) w (ha.part (i - n) (min ms.length (i + n + 1))) (by rw [List.length_drop, List.length_take]; unfold maxLen; omega)
  rw [← near_part hi, List.length_drop, List.length_take] at hco
  obtain ⟨q, hq⟩ : ∃ q, ms.length = q := ⟨_, rfl⟩
  rw [hq] at hco hm hca hi hs
  obtain ⟨r, hr⟩ : ∃ r, near ms n i = r := ⟨_, rfl⟩
  rw [hr] at hco ⊢
  clear hq hr ha
  have e1 : (max 0 ((i : Int) - n)).toNat = i - n := by omega
  have e2 : (min (q : Int) ((i : Int) + n + 1)).toNat = min q (i + n + 1) := by omega
  rw [Nat.min_eq_left (show min q (i + n + 1) ≤ q by omega), ← e1, ← e2] at hco
  clear e1 e2
  go_enter Tryd.func102, Tryd.ntmps102
  go_wp2_with (go_at_call 83; refine hco.mono ?_)
  rintro e w1 ⟨rfl, hb1⟩
  clear hco
  go_wp2
  go_ret
  exact ⟨rfl, hb1⟩

set_option maxHeartbeats 1000000 in
theorem checkCut (a : Option Addr) (ms : List (Int × ByteArray)) (ca : Nat) (n : Int) (w : World) (ha : Mks w a ms) (hm : ms.length ≤ maxLen) :
    Calls Tryd.prog 101 #[.slice a ms.length ca, .int .i64 n] w fun e w' => e = .returned (errV (cf ms n)) ∧ Below w.heap.size w w' := by
  have hck := editCheck a ms ca w ha hm
  have HCT := fun w h => countOf a ms ca w h hm
  have HA : Hid (Mks w a ms) := ha
  obtain ⟨q, hq⟩ : ∃ q, ms.length = q := ⟨_, rfl⟩
  rw [hq] at hck HCT
  rw [hq]
  clear ha hm hq
  by_cases h1 : sf ms = 0
  · have H1 : Hid (sf ms = 0) := h1
    have HG0 : Hid (cf ms n = if n < 0 ∨ 1000 < n then 1 else if 60 < ob ms ∨ 60 < nb ms then 3 else 0) := by show cf ms n = _; unfold cf; rw [if_neg (fun h => h H1.out)]
    rw [h1, errV_zero] at hck
    obtain ⟨k1, hk1⟩ : ∃ k, ob ms = k := ⟨_, rfl⟩
    obtain ⟨k2, hk2⟩ : ∃ k, nb ms = k := ⟨_, rfl⟩
    rw [hk1, hk2] at HCT HG0
    obtain ⟨g, hg⟩ : ∃ g, cf ms n = g := ⟨_, rfl⟩
    rw [hg] at HG0 ⊢
    clear h1 hk1 hk2 hg
    go_enter Tryd.func101, Tryd.ntmps101
    go_wp2_with (go_at_call 82; refine hck.mono ?_)
    rintro e w1 ⟨rfl, hb1⟩
    clear hck
    by_cases h2 : n < 0
    · have HG : Hid (g = 1) := by show g = 1; rw [HG0.out, if_pos (.inl h2)]
      clear HG0
      go_wp2
      go_ret
      refine ⟨?_, hb1⟩
      rw [HG.out]; rfl
    · by_cases h3 : 1000 < n
      · have HG : Hid (g = 1) := by show g = 1; rw [HG0.out, if_pos (.inr h3)]
        clear HG0
        go_wp2
        go_ret
        refine ⟨?_, hb1⟩
        rw [HG.out]; rfl
      · have HG1 : Hid (g = if 60 < k1 ∨ 60 < k2 then 3 else 0) := by show g = _; rw [HG0.out, if_neg (by omega)]
        clear HG0
        go_wp2_with (go_at_call 80; refine (HCT w1 (HA.out.below hb1)).mono ?_)
        rintro e w2 ⟨rfl, hb2⟩
        have hb2 := hb1.trans (hb2.mono hb1.size)
        clear HCT
        by_cases h4 : 60 < k1 ∨ 60 < k2
        · have HG : Hid (g = 3) := by show g = 3; rw [HG1.out, if_pos h4]
          have h5 : 60 < max (k1 : Int) (k2 : Int) := by omega
          clear HG1 h4
          go_wp2
          go_ret
          refine ⟨?_, hb2⟩
          rw [HG.out]; rfl
        · have HG : Hid (g = 0) := by show g = 0; rw [HG1.out, if_neg h4]
          have h5 : ¬ 60 < max (k1 : Int) (k2 : Int) := by omega
          clear HG1 h4
          go_wp2
          go_ret
          refine ⟨?_, hb2⟩
          rw [HG.out]; rfl
  · have HG : Hid (cf ms n = sf ms) := by show cf ms n = sf ms; unfold cf; rw [if_pos h1]
    have H1 : Hid (sf ms ≠ 0) := h1
    rw [errV_not h1] at hck
    clear HCT h1
    go_enter Tryd.func101, Tryd.ntmps101
    go_wp2_with (go_at_call 82; refine hck.mono ?_)
    rintro e w1 ⟨rfl, hb1⟩
    clear hck
    go_wp2
    go_ret
    refine ⟨?_, hb1⟩
    rw [HG.out, errV_not H1.out]; rfl

theorem Mks.tk {w : World} {a : Option Addr} {ms : List (Int × ByteArray)} (h : Mks w a ms) (k : Nat) : Mks w a (ms.take k) := by
  intro i hi
  rw [List.length_take] at hi
  obtain ⟨b, off, e, h1, h2⟩ := h i (by omega)
  have e2 : (ms.take k).getD i (0, ByteArray.empty) = ms.getD i (0, ByteArray.empty) := by simp [show i < k by omega]
  exact ⟨b, off, e, by rw [e2]; exact h1, by rw [e2]; exact h2⟩

set_option maxRecDepth 100000 in
set_option maxHeartbeats 400000 in
theorem pieceOf (b off : Nat) (ms : List (Int × ByteArray)) (ca f t : Nat) (w : World) (ha : Mks w (some ⟨b, off, none⟩) ms) (hf : sf ms = 0) (hca : ms.length ≤ ca) (h1 : f < t) (h2 : t ≤ ms.length) :
    Calls Tryd.prog 103 #[.slice (some ⟨b, off, none⟩) ms.length ca, .int .i64 f, .int .i64 t] w fun e w' => ∃ g, e = .returned (.agg #[.int .i64 (ob (ms.take f)), .int .i64 (nb (ms.take f)), .slice (some ⟨g, 0, none⟩) ((ms.take t).drop f).length ((ms.take t).drop f).length]) ∧ Below w.heap.size w w' ∧ w.heap.size ≤ g ∧ g < w'.heap.size ∧ Mks w' (some ⟨g, 0, none⟩) ((ms.take t).drop f) := by
  obtain ⟨hm, hgood⟩ := sf_zero hf
  have hb0 := below_alloc w (.cells #[.int .i64 0, .int .i64 0, .slice none 0 0] 40)
  have hct := countOf _ _ ca _ ((ha.tk f).below hb0) (by rw [List.length_take]; unfold maxLen; omega)
  have HCP := fun w (h : Mks w (some ⟨b, off, none⟩) ms) => copyOf _ _ (ca - f) w (h.part f t) (by rw [List.length_drop, List.length_take]; omega) (fun m hm => by have := (lf_zero (hgood m (List.mem_of_mem_take (List.mem_of_mem_drop hm))).2).2; rw [Lib.size_eq]; exact this)
  have HB0 : Hid (Below w.heap.size w (w.alloc (.cells #[.int .i64 0, .int .i64 0, .slice none 0 0] 40))) := hb0
  have HA : Hid (Mks w (some ⟨b, off, none⟩) ms) := ha
  have e1 : ((ms.take t).drop f).length = t - f := by rw [List.length_drop, List.length_take]; omega
  have HL : Hid (((ms.take t).drop f).length = t - f) := e1
  obtain ⟨q, hq⟩ : ∃ q, ms.length = q := ⟨_, rfl⟩
  obtain ⟨k1, hk1⟩ : ∃ k, ob (ms.take f) = k := ⟨_, rfl⟩
  obtain ⟨k2, hk2⟩ : ∃ k, nb (ms.take f) = k := ⟨_, rfl⟩
  rw [List.length_take, hq, Nat.min_eq_left (show f ≤ q by omega), hk1, hk2] at hct
  rw [hk1, hk2]
  rw [e1] at HCP
  rw [e1]
  rw [hq] at h2 hca ⊢
  clear hb0 ha hf hm hgood hq hk1 hk2 e1
  go_enter Tryd.func103, Tryd.ntmps103
  go_wp2_with (go_at_call 80; refine hct.mono ?_)
  rintro e w1 ⟨rfl, hb1⟩
  obtain ⟨d0, d1, d2⟩ := cells_later hb1
  have hblk := blk_below hb1 (by simp) (heap_alloc_new w (.cells #[.int .i64 0, .int .i64 0, .slice none 0 0] 40))
  have hlt : w.heap.size < w1.heap.size := by have := hb1.size; simp at this; omega
  have hb1 := HB0.out.trans (hb1.mono HB0.out.size)
  clear hct HB0
  go_wp2_with (go_at_call 57; refine (HCP w1 (HA.out.below hb1)).mono ?_)
  rintro e w2 ⟨rfl, hb2, hrow⟩
  have hblk2 := blk_below hb2 hlt hblk
  replace d0 := cell_later hb2 d0
  replace d1 := cell_later hb2 d1
  replace d2 := cell_later hb2 d2
  have hb2 := hb1.trans (hb2.mono hb1.size)
  have hf0 := Lib.frozen_of_heap hblk2 0
  have hf1 := Lib.frozen_of_heap hblk2 1
  have hf2 := Lib.frozen_of_heap hblk2 2
  have hblk3 := blk_set (i := 2) (blk_set (i := 1) (blk_set (i := 0) hblk2 (.int .i64 k1)) (.int .i64 k2)) (.slice (some ⟨w1.heap.size, 0, none⟩) (t - f) (t - f))
  have hc3 := Lib.cell_of_heap hblk3 0
  have hc4 := Lib.cell_of_heap hblk3 1
  have hc5 := Lib.cell_of_heap hblk3 2
  simp at hc3 hc4 hc5
  have hmk := hrow
  rw [← HL.out] at hmk
  have hmk := hmk.mks fun j _ => ⟨trivial, rfl⟩
  have HMK : Hid (Mks w2 (some ⟨w1.heap.size, 0, none⟩) ((ms.take t).drop f)) := hmk
  have HLT : Hid (w1.heap.size < w2.heap.size) := hrow.lt
  clear HCP hblk hblk2 hmk hrow hblk3
  go_wp2
  refine bodyPost_ret (v := .agg #[.int .i64 k1, .int .i64 k2, .slice (some ⟨w1.heap.size, 0, none⟩) (t - f) (t - f)]) (by simp [results, Tryd.results103, go_sem, hc3, hc4, hc5]) rfl ⟨_, rfl, ?_, Nat.le_of_lt hlt, by simpa using HLT.out, ?_⟩
  · exact ((hb2.setCell (Nat.le_refl _) _).setCell (Nat.le_refl _) _).setCell (Nat.le_refl _) _
  · intro i hi
    obtain ⟨b', off', e, m1, m2⟩ := HMK.out i hi
    obtain ⟨rfl⟩ : w1.heap.size = b' := by
      have := congrArg (fun o => o.map Addr.block) e
      simpa using this
    refine ⟨w1.heap.size, off', e, ?_, ?_⟩
    · rw [World.cell?_setCell_other, World.cell?_setCell_other, World.cell?_setCell_other]
      · exact m1
      all_goals (intro e; have := congrArg Addr.block e; simp only at this; omega)
    · rw [World.cell?_setCell_other, World.cell?_setCell_other, World.cell?_setCell_other]
      · exact m2
      all_goals (intro e; have := congrArg Addr.block e; simp only at this; omega)

end Go.Proofs.YtnkdmgekpajfhaeDoor
