/-
  Walks of hunk.checkCut, of hunk.piece, of the closure in hunk.Cut, and of hunk.Cut: the pieces of a script. Walk of hunk.Cut: the pieces of a script; the fault else. Walks of the comparison of two hunks and of two lists of the same hunks, and of hunk.Cut and hunk.Turn where there is a fault.
-/
import Derived.Test.YtnkdmgekpajfhadGreatDoorXy
import Derived.Deep.RegionWith

namespace Go.Proofs.YtnkdmgekpajfhadGreatDoor
open Go.RowKit Dist

/-- A part of marks, where it lies. -/
theorem Mks.part {w : World} {b off : Nat} {ms : List (Int × ByteArray)} (h : Mks w (some ⟨b, off, none⟩) ms) (lo hi : Nat) : Mks w (some ⟨b, off + lo * 2, none⟩) ((ms.take hi).drop lo) := by
  intro i hi'
  rw [List.length_drop, List.length_take] at hi'
  obtain ⟨b', off', e, h1, h2⟩ := h (lo + i) (by omega)
  simp only [Option.some.injEq, Addr.mk.injEq] at e
  obtain ⟨rfl, rfl, _⟩ := e
  refine ⟨b, off + lo * 2, rfl, ?_⟩
  have e2 : ((ms.take hi).drop lo).getD i (0, ByteArray.empty) = ms.getD (lo + i) (0, ByteArray.empty) := by
    simp [List.getElem?_drop, show lo + i < hi by omega]
  rw [e2, show off + lo * 2 + i * 2 = off + (lo + i) * 2 by omega]
  exact ⟨h1, h2⟩

theorem near_part {ms : List (Int × ByteArray)} {n i : Nat} (hi : i < ms.length) : near ms n i = decide (0 < chg ((ms.take (min ms.length (i + n + 1))).drop (i - n))) := by
  by_cases h : near ms n i = true
  · rw [h]
    rw [near_iff] at h
    obtain ⟨_, c, hc, hcs, h1, h2⟩ := h
    exact (decide_eq_true (ch_pos hc hcs (by omega) (by omega))).symm
  · have h : near ms n i = false := by simpa using h
    rw [h]
    symm
    rw [decide_eq_false_iff_not]
    intro hp
    unfold chg at hp
    rw [List.length_pos_iff_exists_mem] at hp
    obtain ⟨m, hm⟩ := hp
    obtain ⟨hm, hne⟩ := List.mem_filter.1 hm
    obtain ⟨j, hj, rfl⟩ := List.mem_iff_getElem.1 hm
    rw [List.length_drop, List.length_take] at hj
    rw [near_not] at h
    refine h ⟨hi, i - n + j, by omega, ?_, by omega, by omega⟩
    simp only [List.getElem_drop, List.getElem_take] at hne
    simpa [show i - n + j < ms.length by omega] using hne

set_option maxRecDepth 100000 in
set_option maxHeartbeats 400000 in
theorem isNear (b off : Nat) (ms : List (Int × ByteArray)) (ca n i S T : Nat) (w : World) (ha : Mks w (some ⟨b, off, none⟩) ms) (hm : ms.length ≤ 120) (hca : ms.length ≤ ca) (hi : i < ms.length) (hn : n ≤ 1000)
    (hs : w.cell? ⟨S, 0, none⟩ = some (.slice (some ⟨b, off, none⟩) ms.length ca)) (ht : w.cell? ⟨T, 0, none⟩ = some (.int .i64 n)) :
    Calls Tryz.prog 150 #[.int .i64 i, .pointer (some ⟨S, 0, none⟩), .pointer (some ⟨T, 0, none⟩)] w fun e w' => e = .returned (.bool (near ms n i)) ∧ Below w.heap.size w w' := by
  have hco := containsFunc _ _ (ca - (i - n)) w (ha.part (i - n) (min ms.length (i + n + 1))) (by rw [List.length_drop, List.length_take]; unfold maxLen; omega)
  rw [← near_part hi, List.length_drop, List.length_take] at hco
  obtain ⟨q, hq⟩ : ∃ q, ms.length = q := ⟨_, rfl⟩
  rw [hq] at hco hm hca hi hs
  obtain ⟨r, hr⟩ : ∃ r, near ms n i = r := ⟨_, rfl⟩
  rw [hr] at hco ⊢
  clear hq hr ha
  have e1 : (max 0 ((i : Int) - n)).toNat = i - n := by omega
  have e2 : (min (q : Int) ((i : Int) + n + 1)).toNat = min q (i + n + 1) := by omega
  rw [Nat.min_eq_left (show min q (i + n + 1) ≤ q by omega), ← e1, ← e2] at hco
  clear e1 e2
  go_enter Tryz.func150, Tryz.ntmps150
  go_wp2_with (go_at_call 107; refine hco.mono ?_)
  rintro e w1 ⟨rfl, hb1⟩
  clear hco
  go_wp2
  go_ret
  exact ⟨rfl, hb1⟩

set_option maxHeartbeats 1000000 in
theorem checkCut (a : Option Addr) (ms : List (Int × ByteArray)) (ca : Nat) (n : Int) (w : World) (ha : Mks w a ms) (hm : ms.length ≤ maxLen) :
    Calls Tryz.prog 149 #[.slice a ms.length ca, .int .i64 n] w fun e w' => e = .returned (errV (cf ms n)) ∧ Below w.heap.size w w' := by
  have hck := editCheck a ms ca w ha hm
  have HCT := fun w h => countOf a ms ca w h hm
  have HA : Hid (Mks w a ms) := ha
  obtain ⟨q, hq⟩ : ∃ q, ms.length = q := ⟨_, rfl⟩
  rw [hq] at hck HCT
  rw [hq]
  clear ha hm hq
  by_cases h1 : sf ms = 0
  · have H1 : Hid (sf ms = 0) := h1
    have HG0 : Hid (cf ms n = if n < 0 ∨ 1000 < n then 1 else if 60 < ob ms ∨ 60 < nb ms then 3 else 0) := by show cf ms n = _; unfold cf; rw [if_neg (fun h => h H1.out)]
    rw [h1, errV_zero] at hck
    obtain ⟨k1, hk1⟩ : ∃ k, ob ms = k := ⟨_, rfl⟩
    obtain ⟨k2, hk2⟩ : ∃ k, nb ms = k := ⟨_, rfl⟩
    rw [hk1, hk2] at HCT HG0
    obtain ⟨g, hg⟩ : ∃ g, cf ms n = g := ⟨_, rfl⟩
    rw [hg] at HG0 ⊢
    clear h1 hk1 hk2 hg
    go_enter Tryz.func149, Tryz.ntmps149
    go_wp2_with (go_at_call 106; refine hck.mono ?_)
    rintro e w1 ⟨rfl, hb1⟩
    clear hck
    by_cases h2 : n < 0
    · have HG : Hid (g = 1) := by show g = 1; rw [HG0.out, if_pos (.inl h2)]
      clear HG0
      go_wp2
      go_ret
      refine ⟨?_, hb1⟩
      rw [HG.out]; rfl
    · by_cases h3 : 1000 < n
      · have HG : Hid (g = 1) := by show g = 1; rw [HG0.out, if_pos (.inr h3)]
        clear HG0
        go_wp2
        go_ret
        refine ⟨?_, hb1⟩
        rw [HG.out]; rfl
      · have HG1 : Hid (g = if 60 < k1 ∨ 60 < k2 then 3 else 0) := by show g = _; rw [HG0.out, if_neg (by omega)]
        clear HG0
        go_wp2_with (go_at_call 110; refine (HCT w1 (HA.out.below hb1)).mono ?_)
        rintro e w2 ⟨rfl, hb2⟩
        have hb2 := hb1.trans (hb2.mono hb1.size)
        clear HCT
        by_cases h4 : 60 < k1 ∨ 60 < k2
        · have HG : Hid (g = 3) := by show g = 3; rw [HG1.out, if_pos h4]
          have h5 : 60 < max (k1 : Int) (k2 : Int) := by omega
          clear HG1 h4
          go_wp2
          go_ret
          refine ⟨?_, hb2⟩
          rw [HG.out]; rfl
        · have HG : Hid (g = 0) := by show g = 0; rw [HG1.out, if_neg h4]
          have h5 : ¬ 60 < max (k1 : Int) (k2 : Int) := by omega
          clear HG1 h4
          go_wp2
          go_ret
          refine ⟨?_, hb2⟩
          rw [HG.out]; rfl
  · have HG : Hid (cf ms n = sf ms) := by show cf ms n = sf ms; unfold cf; rw [if_pos h1]
    have H1 : Hid (sf ms ≠ 0) := h1
    rw [errV_not h1] at hck
    clear HCT h1
    go_enter Tryz.func149, Tryz.ntmps149
    go_wp2_with (go_at_call 106; refine hck.mono ?_)
    rintro e w1 ⟨rfl, hb1⟩
    clear hck
    go_wp2
    go_ret
    refine ⟨?_, hb1⟩
    rw [HG.out, errV_not H1.out]; rfl

theorem Mks.tk {w : World} {a : Option Addr} {ms : List (Int × ByteArray)} (h : Mks w a ms) (k : Nat) : Mks w a (ms.take k) := by
  intro i hi
  rw [List.length_take] at hi
  obtain ⟨b, off, e, h1, h2⟩ := h i (by omega)
  have e2 : (ms.take k).getD i (0, ByteArray.empty) = ms.getD i (0, ByteArray.empty) := by simp [show i < k by omega]
  exact ⟨b, off, e, by rw [e2]; exact h1, by rw [e2]; exact h2⟩

set_option maxRecDepth 100000 in
set_option maxHeartbeats 400000 in
theorem pieceOf (b off : Nat) (ms : List (Int × ByteArray)) (ca f t : Nat) (w : World) (ha : Mks w (some ⟨b, off, none⟩) ms) (hf : sf ms = 0) (hca : ms.length ≤ ca) (h1 : f < t) (h2 : t ≤ ms.length) :
    Calls Tryz.prog 151 #[.slice (some ⟨b, off, none⟩) ms.length ca, .int .i64 f, .int .i64 t] w fun e w' => ∃ g, e = .returned (.agg #[.int .i64 (ob (ms.take f)), .int .i64 (nb (ms.take f)), .slice (some ⟨g, 0, none⟩) ((ms.take t).drop f).length ((ms.take t).drop f).length]) ∧ Below w.heap.size w w' ∧ w.heap.size ≤ g ∧ g < w'.heap.size ∧ Mks w' (some ⟨g, 0, none⟩) ((ms.take t).drop f) := by
  obtain ⟨hm, hgood⟩ := sf_zero hf
  have hb0 := below_alloc w (.cells #[.int .i64 0, .int .i64 0, .slice none 0 0] 57)
  have hct := countOf _ _ ca _ ((ha.tk f).below hb0) (by rw [List.length_take]; unfold maxLen; omega)
  have HCP := fun w (h : Mks w (some ⟨b, off, none⟩) ms) => copyOf _ _ (ca - f) w (h.part f t) (by rw [List.length_drop, List.length_take]; omega) (fun m hm => by have := (lf_zero (hgood m (List.mem_of_mem_take (List.mem_of_mem_drop hm))).2).2; rw [Lib.size_eq]; exact this)
  have HB0 : Hid (Below w.heap.size w (w.alloc (.cells #[.int .i64 0, .int .i64 0, .slice none 0 0] 57))) := hb0
  have HA : Hid (Mks w (some ⟨b, off, none⟩) ms) := ha
  have e1 : ((ms.take t).drop f).length = t - f := by rw [List.length_drop, List.length_take]; omega
  have HL : Hid (((ms.take t).drop f).length = t - f) := e1
  obtain ⟨q, hq⟩ : ∃ q, ms.length = q := ⟨_, rfl⟩
  obtain ⟨k1, hk1⟩ : ∃ k, ob (ms.take f) = k := ⟨_, rfl⟩
  obtain ⟨k2, hk2⟩ : ∃ k, nb (ms.take f) = k := ⟨_, rfl⟩
  rw [List.length_take, hq, Nat.min_eq_left (show f ≤ q by omega), hk1, hk2] at hct
  rw [hk1, hk2]
  rw [e1] at HCP
  rw [e1]
  rw [hq] at h2 hca ⊢
  clear hb0 ha hf hm hgood hq hk1 hk2 e1
  go_enter Tryz.func151, Tryz.ntmps151
  go_wp2_with (go_at_call 110; refine hct.mono ?_)
  rintro e w1 ⟨rfl, hb1⟩
  obtain ⟨d0, d1, d2⟩ := cells_later hb1
  have hblk := blk_below hb1 (by simp) (heap_alloc_new w (.cells #[.int .i64 0, .int .i64 0, .slice none 0 0] 57))
  have hlt : w.heap.size < w1.heap.size := by have := hb1.size; simp at this; omega
  have hb1 := HB0.out.trans (hb1.mono HB0.out.size)
  clear hct HB0
  go_wp2_with (go_at_call 71; refine (HCP w1 (HA.out.below hb1)).mono ?_)
  rintro e w2 ⟨rfl, hb2, hrow⟩
  have hblk2 := blk_below hb2 hlt hblk
  replace d0 := cell_later hb2 d0
  replace d1 := cell_later hb2 d1
  replace d2 := cell_later hb2 d2
  have hb2 := hb1.trans (hb2.mono hb1.size)
  have hf0 := Lib.frozen_of_heap hblk2 0
  have hf1 := Lib.frozen_of_heap hblk2 1
  have hf2 := Lib.frozen_of_heap hblk2 2
  have hblk3 := blk_set (i := 2) (blk_set (i := 1) (blk_set (i := 0) hblk2 (.int .i64 k1)) (.int .i64 k2)) (.slice (some ⟨w1.heap.size, 0, none⟩) (t - f) (t - f))
  have hc3 := Lib.cell_of_heap hblk3 0
  have hc4 := Lib.cell_of_heap hblk3 1
  have hc5 := Lib.cell_of_heap hblk3 2
  simp at hc3 hc4 hc5
  have hmk := hrow
  rw [← HL.out] at hmk
  have hmk := hmk.mks fun j _ => ⟨trivial, rfl⟩
  have HMK : Hid (Mks w2 (some ⟨w1.heap.size, 0, none⟩) ((ms.take t).drop f)) := hmk
  have HLT : Hid (w1.heap.size < w2.heap.size) := hrow.lt
  clear HCP hblk hblk2 hmk hrow hblk3
  go_wp2
  refine bodyPost_ret (v := .agg #[.int .i64 k1, .int .i64 k2, .slice (some ⟨w1.heap.size, 0, none⟩) (t - f) (t - f)]) (by simp [results, Tryz.results151, go_sem, hc3, hc4, hc5]) rfl ⟨_, rfl, ?_, Nat.le_of_lt hlt, by simpa using HLT.out, ?_⟩
  · exact ((hb2.setCell (Nat.le_refl _) _).setCell (Nat.le_refl _) _).setCell (Nat.le_refl _) _
  · intro i hi
    obtain ⟨b', off', e, m1, m2⟩ := HMK.out i hi
    obtain ⟨rfl⟩ : w1.heap.size = b' := by
      have := congrArg (fun o => o.map Addr.block) e
      simpa using this
    refine ⟨w1.heap.size, off', e, ?_, ?_⟩
    · rw [World.cell?_setCell_other, World.cell?_setCell_other, World.cell?_setCell_other]
      · exact m1
      all_goals (intro e; have := congrArg Addr.block e; simp only at this; omega)
    · rw [World.cell?_setCell_other, World.cell?_setCell_other, World.cell?_setCell_other]
      · exact m2
      all_goals (intro e; have := congrArg Addr.block e; simp only at this; omega)

end Go.Proofs.YtnkdmgekpajfhadGreatDoor

namespace Go.Proofs.YtnkdmgekpajfhadGreatDoor
open Go.RowKit Dist

set_option maxRecDepth 100000 in
set_option maxHeartbeats 1000000 in
theorem cut_ok (a : Option Addr) (ms : List (Int × ByteArray)) (ca n : Nat) (w : World) (ha : Mks w a ms) (hca : ms.length ≤ ca) (hc : cf ms n = 0) :
    Calls Tryz.prog 129 #[.slice a ms.length ca, .int .i64 n] w fun e w' => ∃ v, e = .returned (.tuple #[v, .nilIface]) ∧ Below w.heap.size w w' ∧ HOwn w' w.heap.size v (cut ms n) := by
  obtain ⟨hf, _, hn, hob, hnb⟩ := cf_zero hc
  have hm := (sf_zero hf).1
  have hb0 := below_alloc w (.cells #[.slice a ms.length ca] 55)
  have hb00 := below_alloc (w.alloc (.cells #[.slice a ms.length ca] 55)) (.cells #[.int .i64 n] 3)
  have hck := checkCut a ms ca n _ ((ha.below hb0).below hb00) (by unfold maxLen; omega)
  rw [hc, errV_zero] at hck
  obtain ⟨i0, hi0, hz0, hz1, hz2⟩ := info_parts Tryz.infoHunk
  have hmf : ∀ (fn : Fn) (first cap : Array Value) (w : World), (Instr.makeFunc fn first cap).run Tryz.prog w = .ok (.func fn first cap) w := fun _ _ _ _ => rfl
  have eg : ∀ args w, (callFunc 150 args).run Tryz.prog w = .ok (.enter 150 args) w := enters_of Tryz.func150 (by kernel_rfl) rfl
  have s1 : (w.alloc (.cells #[.slice a ms.length ca] 55)).heap.size = w.heap.size + 1 := by simp
  have s2 : ((w.alloc (.cells #[.slice a ms.length ca] 55)).alloc (.cells #[.int .i64 n] 3)).heap.size = w.heap.size + 2 := by simp
  have k1 := blk_below hb00 (by rw [s1]; omega) (heap_alloc_new w (.cells #[.slice a ms.length ca] 55))
  have k2 := heap_alloc_new (w.alloc (.cells #[.slice a ms.length ca] 55)) (.cells #[.int .i64 n] 3)
  rw [s1] at k2
  have hbb := hb0.trans (hb00.mono (by rw [s1]; omega))
  obtain ⟨q, hq⟩ : ∃ q, ms.length = q := ⟨_, rfl⟩
  rw [hq] at hck hbb k1 k2 hca hm s2
  rw [hq]
  have HBB : Hid (Below w.heap.size w ((w.alloc (.cells #[.slice a q ca] 55)).alloc (.cells #[.int .i64 n] 3))) := hbb
  have K1 : Hid (((w.alloc (.cells #[.slice a q ca] 55)).alloc (.cells #[.int .i64 n] 3)).heap[w.heap.size]? = some (.cells #[.slice a q ca] 55)) := k1
  have K2 : Hid (((w.alloc (.cells #[.slice a q ca] 55)).alloc (.cells #[.int .i64 n] 3)).heap[w.heap.size + 1]? = some (.cells #[.int .i64 n] 3)) := k2
  have S2 : Hid (((w.alloc (.cells #[.slice a q ca] 55)).alloc (.cells #[.int .i64 n] 3)).heap.size = w.heap.size + 2) := s2
  have HA : Hid (Mks w a ms) := ha
  have HQ : Hid (ms.length = q) := hq
  have HF : Hid (sf ms = 0) := hf
  have HN : Hid (n ≤ 1000) := by show n ≤ 1000; omega
  have HCA : Hid (q ≤ ca) := hca
  have HNE : Hid (3 * (cut ms n).length ≤ 122) := by
    show 3 * (cut ms n).length ≤ 122
    have := (cut_holds ms (fun m hm => ((sf_zero hf).2 m hm).1) n).2.2.2
    omega
  obtain ⟨B, hB⟩ : ∃ B, w.heap.size = B := ⟨_, rfl⟩
  have HB : Hid (w.heap.size = B) := hB
  clear hb0 hb00 ha hc hf hn hob hnb k1 k2 hbb s1 s2 hq hca
  go_enter Tryz.func129, Tryz.ntmps129
  go_wp2_with (go_at_call 149; refine hck.mono ?_)
  rintro e w0 ⟨rfl, hb0⟩
  clear hck
  have c1 := Lib.cell_of_heap (blk_below hb0 (by rw [S2.out]; omega) K1.out) 0
  have c2 := Lib.cell_of_heap (blk_below hb0 (by rw [S2.out]; omega) K2.out) 0
  have z0 : B + 2 ≤ w0.heap.size := by have := hb0.size; rw [S2.out, hB] at this; exact this
  have hb0 := HBB.out.trans (hb0.mono HBB.out.size)
  simp at c1 c2
  rw [hB] at hb0 c1 c2
  have C1 : Hid (w0.cell? ⟨B, 0, none⟩ = some (.slice a q ca)) := c1
  have C2 : Hid (w0.cell? ⟨B + 1, 0, none⟩ = some (.int .i64 n)) := c2
  have HB0 : Hid (Below B w w0) := hb0
  have HA0 : Hid (Mks w0 a ms) := HA.out.below (by rw [hB]; exact hb0)
  clear hB hb0 K1 K2 S2 HBB HA
  go_wp2
  clear hmf
  obtain ⟨B0, hB0⟩ : ∃ B0, w0.heap.size = B0 := ⟨_, rfl⟩
  have HBZ : Hid (w0.heap.size = B0) := hB0
  rw [hB0] at z0
  clear hB0 c1 c2
  go_loopw [8, 9] (fun v i w1 => ∃ k : Nat, k ≤ q + 1 ∧ i = .int .i64 k ∧ rl ms n k = 0 ∧ Below B0 w0 w1 ∧ HOwn w1 B0 v (cl ms n k)) (fun _ i _ => q + 1 - (intOf i).toNat)
  case atStart => exact ⟨0, Nat.zero_le _, rfl, rfl, Below.refl _ _, HOwn.zero _ _⟩
  case round =>
    obtain ⟨wa, rfl⟩ : ∃ wa, wa = wr := ⟨_, rfl⟩
    obtain ⟨k, hk, rfl, hrl, hbl, hown⟩ := hrel
    have HRL : Hid (rl ms n k = 0) := hrl
    have HOW : Hid (HOwn wa B0 u8 (cl ms n k)) := hown
    clear hrl hown
    have hbw : Below w0.heap.size w0 wa := by rw [HBZ.out]; exact hbl
    have c1 := cell_later hbw C1.out
    have c2 := cell_later hbw C2.out
    by_cases hlt : k < q
    · have hz8 : B0 ≤ wa.heap.size := by have := hbl.size; rw [HBZ.out] at this; exact this
      obtain ⟨U, hU⟩ : ∃ U, wa.heap.size = U := ⟨_, rfl⟩
      have HU : Hid (wa.heap.size = U) := hU
      rw [hU] at hz8
      have hA := HA0.out
      obtain ⟨b, off, rfl, _, _⟩ := hA.at (i := k) (by rw [HQ.out]; exact hlt)
      have HAR : Hid (Mks wa (some ⟨b, off, none⟩) ms) := hA.below hbw
      clear hA hU HA0
      have C1 : Hid (wa.cell? ⟨B, 0, none⟩ = some (.slice (some ⟨b, off, none⟩) q ca)) := c1
      have C2 : Hid (wa.cell? ⟨B + 1, 0, none⟩ = some (.int .i64 n)) := c2
      go_wp2
      clear c1 c2
      go_loopw [10] (fun j w1 => ∃ t : Nat, k ≤ t ∧ t ≤ q ∧ j = .int .i64 t ∧ Below U wa w1 ∧ ∀ j, k ≤ j → j < t → near ms n j = true) (fun j _ => q - (intOf j).toNat)
      case atStart => exact ⟨k, Nat.le_refl _, by omega, rfl, Below.refl _ _, fun j h1 h2 => by omega⟩
      case round =>
        obtain ⟨t, hkt, htq, rfl, hbt, hall⟩ := hrel
        have HALL : Hid (∀ j, k ≤ j → j < t → near ms n j = true) := hall
        clear hall
        have hbu : Below wa.heap.size wa wr := by rw [HU.out]; exact hbt
        have c1 := cell_later hbu C1.out
        have c2 := cell_later hbu C2.out
        by_cases hq : t < q
        case' pos =>
          have hnr := isNear b off ms ca n t B (B + 1) wr (HAR.out.below hbu) (by rw [HQ.out]; exact hm) (by rw [HQ.out]; exact HCA.out) (by rw [HQ.out]; exact hq) HN.out (by rw [HQ.out]; exact c1) c2
          obtain ⟨r, hr⟩ : ∃ r, near ms n t = r := ⟨_, rfl⟩
          rw [hr] at hnr
          have HR : Hid (near ms n t = r) := hr
          clear hr
          cases r
          case' true =>
            go_wp2_with (go_at_fn 150; refine hnr.mono ?_)
            rintro e w2 ⟨rfl, hb2⟩
            have hb2 := hbt.trans (hb2.mono (by have := hbt.size; have := HU.out; omega))
            clear hnr hbt
            go_wp2
            go_roundw
            case rel => exact ⟨t + 1, by omega, by omega, by go_num, hb2, fun j h1 h2 => by
              by_cases e : j = t
              · rw [e]; exact HR.out
              · exact HALL.out j h1 (by omega)⟩
            case measure => simp [intOf]; omega
          case' false =>
            go_wp2_with (go_at_fn 150; refine hnr.mono ?_)
            rintro e w2 ⟨rfl, hb2⟩
            replace c1 := cell_later hb2 c1
            replace c2 := cell_later hb2 c2
            have hb2 := hbt.trans (hb2.mono (by have := hbt.size; have := HU.out; omega))
            clear hnr hbt hbu
        case' neg =>
          have HR : Hid (near ms n t = false) := by show near ms n t = false; rw [show t = q by omega, ← HQ.out]; exact near_end ms n
          obtain ⟨w2, rfl⟩ : ∃ w2, w2 = wr := ⟨_, rfl⟩
          have hb2 := hbt
          clear hbt hbu
        all_goals
          have hbu : Below wa.heap.size wa w2 := by rw [HU.out]; exact hb2
          have hzw : U ≤ w2.heap.size := by have := hb2.size; have := HU.out; omega
          by_cases hft : k < t
          · have hpc := pieceOf b off ms ca k t w2 (HAR.out.below hbu) HF.out (by rw [HQ.out]; exact HCA.out) hft (by rw [HQ.out]; exact htq)
            have HEND := run_ends HRL.out hft HALL.out HR.out
            have HE1 : Hid (rl ms n (t + 1) = 0) := HEND.1
            have HE2 : Hid (cl ms n (t + 1) = cl ms n k ++ [(((ob (ms.take k) : Nat) : Int), ((nb (ms.take k) : Nat) : Int), (ms.take t).drop k)]) := HEND.2
            rw [HQ.out] at hpc
            obtain ⟨o, ho⟩ : ∃ o, ob (ms.take k) = o := ⟨_, rfl⟩
            obtain ⟨p, hp⟩ : ∃ p, nb (ms.take k) = p := ⟨_, rfl⟩
            obtain ⟨part, hpart⟩ : ∃ part, (ms.take t).drop k = part := ⟨_, rfl⟩
            rw [ho, hp, hpart] at hpc HE2
            obtain ⟨pl, hpl⟩ : ∃ pl, part.length = pl := ⟨_, rfl⟩
            have HPL : Hid (part.length = pl) := hpl
            rw [hpl] at hpc
            have HOW2 : Hid (HOwn w2 B0 u8 (cl ms n k)) := HOW.out.below hbu
            have HUB : Hid (∀ x, u8.ownBlock = some x → x < U) := fun x hx => by
              obtain ⟨xs, h1, _⟩ := HOW.out
              have := (h1.lt x hx).2
              rw [HU.out] at this; exact this
            have HCL : Hid ((cl ms n k).length ≤ 200) := by
              have h6 := (cl_holds ms (fun m hm => ((sf_zero HF.out).2 m hm).1) n k (by rw [HQ.out]; exact hk)).2.2.2.2.2
              have h7 := ob_le (ms.take (k - rl ms n k))
              have h8 := nb_le (ms.take (k - rl ms n k))
              rw [List.length_take, HQ.out] at h7 h8
              show (cl ms n k).length ≤ 200
              split at h6 <;> omega
            clear ho hp hpart hpl HEND HAR HOW HALL HR
            go_wp2_with (go_at_call 151; refine hpc.mono ?_)
            rintro e w3 ⟨g, rfl, hb3, hg1, hg2, hm3⟩
            have hown3 := (HOW2.out.below hb3).below (below_alloc w3 (.cells #[.int .i64 o, .int .i64 p, .slice (some ⟨g, 0, none⟩) pl pl] 57))
            have hm4 := hm3.below (below_alloc w3 (.cells #[.int .i64 o, .int .i64 p, .slice (some ⟨g, 0, none⟩) pl pl] 57))
            have hb3 := hb2.trans (hb3.mono hzw)
            have hz3 : U ≤ w3.heap.size := by have := hb3.size; have := HU.out; omega
            have hb4 := (hbl.trans (hb3.mono hz8)).alloc (by omega) (.cells #[.int .i64 o, .int .i64 p, .slice (some ⟨g, 0, none⟩) pl pl] 57)
            obtain ⟨xs, hown, hat⟩ := hown3
            have HAT := hat
            have hcl := HCL.out
            have HB4 : Hid (Below B0 w0 (w3.alloc (.cells #[.int .i64 o, .int .i64 p, .slice (some ⟨g, 0, none⟩) pl pl] 57))) := hb4
            have HM4 : Hid (Mks (w3.alloc (.cells #[.int .i64 o, .int .i64 p, .slice (some ⟨g, 0, none⟩) pl pl] 57)) (some ⟨g, 0, none⟩) part) := hm4
            clear hpc hb2 hbu hbl hb3 hb4 hm3 hm4 hat HOW2 HCL
            go_wp2_with (at_builtin; refine wpList_append_own_at _ rfl _ _ 38 rfl B0 57 i0 (.agg #[.int .i64 0, .int .i64 0, .slice none 0 0]) 3 40 Tryz.underlying38 hi0 hz0 hz1 hz2 rfl (by decide) _ _ _ rfl hown ⟨w3.heap.size, 0, none⟩ 1 1 [.int .i64 o, .int .i64 p, .slice (some ⟨g, 0, none⟩) pl pl] rfl rfl (cell_three_new _ _ _ _ _) (fun x hx => by simp at hx; rcases hx with rfl | rfl | rfl <;> rfl) (by unfold maxLen; omega) (by omega) (by simp; omega) ?_; intro v' w5 hown' hgrow5 hnil5 hblk5)
            go_roundw
            case rel =>
              refine ⟨t + 1, by omega, by go_num, HE1.out, ?_, ?_⟩
              · exact HB4.out.grown hgrow5 (by simp; omega) (fun j hj => (hown.lt j hj).1)
              · rw [HE2.out]
                refine HOwn.snoc hown HAT (by rw [HPL.out]; exact hown') hgrow5 hblk5 (by simp; omega) (fun e => ?_) HM4.out (by rw [HPL.out]; exact Nat.le_refl _) (by omega)
                have := HUB.out _ e
                omega
            case measure => simp [intOf]; omega
          · have HE1 : Hid (rl ms n (t + 1) = 0) := rl_out HR.out
            have HE2 : Hid (cl ms n (t + 1) = cl ms n k) := by
              show cl ms n (t + 1) = cl ms n k
              obtain rfl : t = k := by omega
              exact cl_out HR.out HRL.out
            have HOW2 : Hid (HOwn w2 B0 u8 (cl ms n k)) := HOW.out.below hbu
            have hb3 := hbl.trans (hb2.mono hz8)
            clear HAR HOW HALL HR hbl hb2 hbu
            go_wp2
            go_roundw
            case rel => exact ⟨t + 1, by omega, by go_num, HE1.out, hb3, by rw [HE2.out]; exact HOW2.out⟩
            case measure => simp [intOf]; omega
    · have HE : Hid (cl ms n k = cut ms n) := by
        show cl ms n k = cut ms n
        unfold cut
        rw [HQ.out]
        by_cases e : k = q
        · rw [e, cl_out (by rw [← HQ.out]; exact near_end ms n) (by rw [← e]; exact HRL.out)]
        · rw [show k = q + 1 by omega]
      have hb3 := HB0.out.trans (hbl.mono (by omega))
      go_wp2
      go_ret2
      refine ⟨_, rfl, by rw [HB.out]; exact hb3, ?_⟩
      rw [HB.out, ← HE.out]
      exact HOW.out.mono (by omega)

end Go.Proofs.YtnkdmgekpajfhadGreatDoor

namespace Go.Proofs.YtnkdmgekpajfhadGreatDoor
open Go.RowKit Dist

set_option maxHeartbeats 400000 in
theorem hunk_eq (o p : Int) (a b : Option Addr) (ms : List (Int × ByteArray)) (ca cb : Nat) (w : World) (ha : Mks w a ms) (hb : Mks w b ms) (hm : ms.length ≤ maxLen) :
    Calls Tryz.prog 60 #[.agg #[.int .i64 o, .int .i64 p, .slice a ms.length ca], .agg #[.int .i64 o, .int .i64 p, .slice b ms.length cb]] w fun e w' => e = .returned (.bool true) ∧ Below w.heap.size w w' := by
  have hb0 := below_alloc w (.cells #[.int .i64 o, .int .i64 p, .slice a ms.length ca] 57)
  have hb00 := below_alloc (w.alloc (.cells #[.int .i64 o, .int .i64 p, .slice a ms.length ca] 57)) (.cells #[.int .i64 o, .int .i64 p, .slice b ms.length cb] 57)
  have hmk := marks_eq a b ms ca cb _ ((ha.below hb0).below hb00) ((hb.below hb0).below hb00) hm
  have hbb := hb0.trans (hb00.mono hb0.size)
  have d := cells_later hb00
  obtain ⟨q, hq⟩ : ∃ q, ms.length = q := ⟨_, rfl⟩
  rw [hq] at hmk hbb d
  rw [hq]
  have HBB : Hid (Below w.heap.size w ((w.alloc (.cells #[.int .i64 o, .int .i64 p, .slice a q ca] 57)).alloc (.cells #[.int .i64 o, .int .i64 p, .slice b q cb] 57))) := hbb
  have D : Hid (((w.alloc (.cells #[.int .i64 o, .int .i64 p, .slice a q ca] 57)).alloc (.cells #[.int .i64 o, .int .i64 p, .slice b q cb] 57)).cell? ⟨w.heap.size, 0, none⟩ = some (.int .i64 o) ∧ ((w.alloc (.cells #[.int .i64 o, .int .i64 p, .slice a q ca] 57)).alloc (.cells #[.int .i64 o, .int .i64 p, .slice b q cb] 57)).cell? ⟨w.heap.size, 1, none⟩ = some (.int .i64 p)) := ⟨d.1, d.2.1⟩
  clear hb0 hb00 ha hb hm hbb hq d
  go_enter Tryz.func60, Tryz.ntmps60
  go_wp2_with (go_at_call 91; refine hmk.mono ?_)
  rintro e w1 ⟨rfl, hb1⟩
  have c0 := cell_later hb1 D.out.1
  have c1 := cell_later hb1 D.out.2
  have k := cells_later (w := w.alloc (.cells #[.int .i64 o, .int .i64 p, .slice a q ca] 57)) hb1
  obtain ⟨c2, c3, _⟩ := k
  simp at c2 c3
  have hb1 := HBB.out.trans (hb1.mono HBB.out.size)
  clear hmk HBB D
  go_wp2
  go_ret
  exact ⟨rfl, hb1⟩

set_option maxRecDepth 100000 in
set_option maxHeartbeats 2000000 in
theorem hunks_eq (a b : Option Addr) (l : List (Int × Int × List (Int × ByteArray))) (ca cb : Nat) (w : World) (ha : Hks w a l) (hb : Hks w b l) (hm : l.length ≤ maxLen) (hms : ∀ h ∈ l, h.2.2.length ≤ maxLen) :
    Calls Tryz.prog 35 #[.slice a l.length ca, .slice b l.length cb] w fun e w' => e = .returned (.bool true) ∧ Below w.heap.size w w' := by
  unfold maxLen at hm
  obtain ⟨n, hn⟩ : ∃ n, l.length = n := ⟨_, rfl⟩
  rw [hn] at hm ⊢
  have HN : Hid (l.length = n) := hn
  have HA : Hid (Hks w a l) := ha
  have HBB : Hid (Hks w b l) := hb
  have HM : Hid (∀ h ∈ l, h.2.2.length ≤ maxLen) := hms
  clear hn ha hb hms
  obtain ⟨B, hB⟩ : ∃ B, w.heap.size = B := ⟨_, rfl⟩
  have HB : Hid (w.heap.size = B) := hB
  rw [hB]
  clear hB
  go_enter Tryz.func35, Tryz.ntmps35
  go_wp2
  go_loopw [5] (fun i w1 => ∃ k : Nat, k ≤ n ∧ i = .int .i64 k ∧ Below B w w1) (fun i _ => n - (intOf i).toNat)
  case atStart => exact ⟨0, Nat.zero_le _, rfl, Below.refl _ _⟩
  case round =>
    obtain ⟨k, hk, rfl, hbl⟩ := hrel
    by_cases hlt : k < n
    · have ha := HA.out
      have hb := HBB.out
      have hkl : k < l.length := by rw [HN.out]; exact hlt
      obtain ⟨b1, o1, am1, cm1, rfl, hc1, hc2, hc3, hmk1⟩ := ha.at (i := k) hkl
      obtain ⟨b2, o2, am2, cm2, rfl, hd1, hd2, hd3, hmk2⟩ := hb.at (i := k) hkl
      clear ha hb
      have hb' : Below w.heap.size w wr := by rw [HB.out]; exact hbl
      replace hc1 := cell_later hb' hc1
      replace hc2 := cell_later hb' hc2
      replace hc3 := cell_later hb' hc3
      replace hd1 := cell_later hb' hd1
      replace hd2 := cell_later hb' hd2
      replace hd3 := cell_later hb' hd3
      have hml := HM.out _ (mem_getD3 hkl)
      obtain ⟨o, ho⟩ : ∃ o, (l.getD k (0, 0, [])).1 = o := ⟨_, rfl⟩
      obtain ⟨p, hp⟩ : ∃ p, (l.getD k (0, 0, [])).2.1 = p := ⟨_, rfl⟩
      obtain ⟨ms, hms⟩ : ∃ ms, (l.getD k (0, 0, [])).2.2 = ms := ⟨_, rfl⟩
      rw [ho] at hc1 hd1
      rw [hp] at hc2 hd2
      rw [hms] at hc3 hd3 hmk1 hmk2 hml
      have hheq := hunk_eq o p am1 am2 ms cm1 cm2 wr.drew (hmk1.below (hb'.trans (show Below w.heap.size wr wr.drew from ⟨rfl, rfl, rfl, Nat.le_refl _, fun _ _ => rfl⟩))) (hmk2.below (hb'.trans (show Below w.heap.size wr wr.drew from ⟨rfl, rfl, rfl, Nat.le_refl _, fun _ _ => rfl⟩))) hml
      obtain ⟨q, hq⟩ : ∃ q, ms.length = q := ⟨_, rfl⟩
      rw [hq] at hc3 hd3 hheq
      clear ho hp hms hml hb' hmk1 hmk2 hq hkl
      go_wp2
      go_region_with (go_at_call 60; refine hheq.mono ?_; rintro e w2 ⟨rfl, hb2⟩)
      all_goals
        have hb3 : Below B w w2 := (hbl.trans (show Below B wr wr.drew from ⟨rfl, rfl, rfl, Nat.le_refl _, fun _ _ => rfl⟩)).trans (hb2.mono (by have := hbl.size; have := HB.out; show B ≤ wr.heap.size; omega))
        clear hheq hb2
        go_wp2
        go_roundw
        case rel => exact ⟨k + 1, by omega, by go_num, hb3⟩
        case measure => simp [intOf]; omega
    · go_wp2
      go_ret
      exact ⟨rfl, hbl⟩

end Go.Proofs.YtnkdmgekpajfhadGreatDoor
