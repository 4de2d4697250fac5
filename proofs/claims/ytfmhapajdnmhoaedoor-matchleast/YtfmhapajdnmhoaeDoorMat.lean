/-
  Walk of package match's Match: row by row the first column of a best choice.
-/
import Derived.Test.YtfmhapajdnmhoaeDoorLea

namespace Go.Proofs.YtfmhapajdnmhoaeDoor
open Go.RowKit Dist Go.Maps

theorem Tryd.infoInt1 : (Tryd.prog.info? 3).map (fun i => (i.zero, i.size, i.bytes)) = some (some (.int .i64 0), 1, 8) := by kernel_rfl

theorem made_num (v : Value) (n i : Nat) (h : i < n) : (madeCells #[v] n)[i]? = some v := by
  rw [Array.getElem?_eq_getElem (by rw [size_madeCells]; exact h)]
  simp [madeCells, Nat.mod_one]

/-- A row of numbers of the call's own. -/
def Nrow (w : World) (R n : Nat) (f : Nat → Int) : Prop :=
  ∃ rs : Array Value, w.heap[R]? = some (.cells rs 3 (0, 0)) ∧ rs.size = n ∧ ∀ k, k < n → rs[k]? = some (.int .i64 (f k))
theorem Nrow.cell {w : World} {R n : Nat} {f : Nat → Int} (h : Nrow w R n f) {k : Nat} (hk : k < n) : w.cell? ⟨R, k, none⟩ = some (.int .i64 (f k)) := by
  obtain ⟨rs, hb, _, hat⟩ := h
  rw [Lib.cell_of_heap hb]; exact hat k hk
theorem Nrow.frozen {w : World} {R n : Nat} {f : Nat → Int} (h : Nrow w R n f) (k : Nat) : w.frozen? ⟨R, k, none⟩ = false := by
  obtain ⟨rs, hb, _, _⟩ := h
  exact Lib.frozen_of_heap hb k
theorem Nrow.congr {w : World} {R n : Nat} {f g : Nat → Int} (h : Nrow w R n f) (e : ∀ k, k < n → f k = g k) : Nrow w R n g := by
  obtain ⟨rs, hb, hs, hat⟩ := h
  exact ⟨rs, hb, hs, fun k hk => by rw [← e k hk]; exact hat k hk⟩
theorem Nrow.below {w w' : World} {R n : Nat} {f : Nat → Int} (h : Nrow w R n f) {U : Nat} (hb : Below U w w') (hR : R < U) : Nrow w' R n f := by
  obtain ⟨rs, hh, hs, hat⟩ := h
  exact ⟨rs, blk_below hb hR hh, hs, hat⟩
theorem Nrow.set {w : World} {R n : Nat} {f : Nat → Int} (h : Nrow w R n f) {j : Nat} (hj : j < n) (u : Int) : Nrow (w.setCell ⟨R, j, none⟩ (.int .i64 u)) R n (fun k => if k = j then u else f k) := by
  obtain ⟨rs, hb, hs, hat⟩ := h
  refine ⟨_, blk_set hb _, by simpa using hs, fun k hk => ?_⟩
  by_cases e : k = j
  · subst e
    rw [Array.getElem?_setIfInBounds_self_of_lt (by omega)]
    simp
  · rw [Array.getElem?_setIfInBounds_ne (Ne.symm e), hat k hk]
    simp [e]
theorem Nrow.ins {w : World} {R n : Nat} {f : Nat → Int} (h : Nrow w R n f) {zs : List Int} (hl : zs.length = n) (e : ∀ k, k < n → f k = zs.getD k 0) : Ins w (some ⟨R, 0, none⟩) zs := by
  intro i hi
  refine ⟨R, 0, rfl, ?_⟩
  rw [Nat.zero_add, h.cell (by omega), e i (by omega)]

theorem Lst.blk {w w' : World} {b k : Nat} {D : DataW Unit} (h : Lst w b k D) (e : w'.heap[b]? = w.heap[b]?) : Lst w' b k D := by
  obtain ⟨es, clock, hb, F, hs, hD⟩ := h
  exact ⟨es, clock, e.trans hb, F, hs, hD⟩
theorem Lst.lt {w : World} {b k : Nat} {D : DataW Unit} (h : Lst w b k D) : b < w.heap.size := World.ownsMap.lt h
theorem Lst.below {w w' : World} {b k U : Nat} {D : DataW Unit} (h : Lst w b k D) (hb : Below U w w') (hU : b < U) : Lst w' b k D := h.blk (hb.block b hU)
theorem Lst.other {w : World} {b k : Nat} {D : DataW Unit} (h : Lst w b k D) {R : Nat} (hR : R ≠ b) (i : Nat) (v : Value) : Lst (w.setCell ⟨R, i, none⟩ v) b k D := by
  refine h.blk ?_
  simp only [World.setCell, Array.getElem?_modify]
  rw [if_neg hR]

/-- The document's choice. -/
def mcM (cs : List (List Int)) : List Nat := (bst cs cs.length cs.length 0 (List.replicate cs.length false)).2
def mcO (cs : List (List Int)) : List Int := if sqf cs ≠ 0 then [] else (mcM cs).map Int.ofNat
theorem mcM_best {cs : List (List Int)} (h0 : sqf cs = 0) : isB cs cs.length cs.length 0 (List.replicate cs.length false) (mcM cs) :=
  (bst_best (sqf_nonneg h0) cs.length 0 _ (by simp) (by unfold lefts; simp)).1
theorem mcM_len {cs : List (List Int)} (h0 : sqf cs = 0) : (mcM cs).length = cs.length := (mcM_best h0).1.1
theorem mcO_bad {cs : List (List Int)} (h : sqf cs ≠ 0) : mcO cs = [] := by unfold mcO; rw [if_pos h]
theorem mcO_ok {cs : List (List Int)} (h : sqf cs = 0) : mcO cs = (mcM cs).map Int.ofNat := by unfold mcO; rw [if_neg (by simp [h])]
theorem mcO_len {cs : List (List Int)} (h0 : sqf cs = 0) : (mcO cs).length = cs.length := by rw [mcO_ok h0, List.length_map, mcM_len h0]

/-- What comes of Match. -/
def MatV (cs : List (List Int)) (e : Ending) (w w' : World) : Prop := ∃ g c, e = .returned (.tuple #[.slice g (mcO cs).length c, errV (sqf cs)]) ∧ Ins w' g (mcO cs) ∧ (mcO cs).length ≤ c ∧ Below w.heap.size w w'

set_option maxHeartbeats 1000000 in
set_option maxRecDepth 100000 in
theorem match_any (a : Option Addr) (cs : List (List Int)) (ca : Nat) (w : World) (ha : Sqr w a cs) (hm : cs.length ≤ maxLen) (hr : ∀ r ∈ cs, r.length ≤ maxLen) :
    Calls Tryd.prog 23 #[.slice a cs.length ca] w fun e w' => MatV cs e w w' := by
  have hck := checkSq a cs ca w ha hm hr
  by_cases h0 : sqf cs = 0
  case neg =>
    have HV : Hid (MatV cs (.returned (.tuple #[.slice none 0 0, .iface 45 (.int .i64 (sqf cs))])) w w) := by
      refine ⟨none, 0, ?_, ?_, ?_, Below.refl _ _⟩
      · rw [mcO_bad h0, errV_not h0]; rfl
      · rw [mcO_bad h0]; exact Ins.nil _ _
      · rw [mcO_bad h0]; exact Nat.le_refl _
    rw [errV_not h0] at hck
    clear h0 ha hr
    obtain ⟨f, hf⟩ : ∃ f, sqf cs = f := ⟨_, rfl⟩
    rw [hf] at hck HV
    clear hf
    obtain ⟨n, hn⟩ : ∃ n, cs.length = n := ⟨_, rfl⟩
    rw [hn] at hck hm ⊢
    clear hn
    go_enter Tryd.func23, Tryd.ntmps23
    go_wp2_with (go_at_call 55; refine hck.mono ?_; rintro e w1 ⟨rfl, rfl⟩)
    go_ret2
    exact HV.out
  have hle := least_any a cs ca w ha h0
  rw [h0, errV_zero] at hck
  have h8 := (sqf_zero h0).1
  have HZ : Hid (sqf cs = 0) := h0
  obtain ⟨M, hM⟩ : ∃ M, mcM cs = M := ⟨_, rfl⟩
  have hMl := mcM_len h0
  have hMs : M = (bsS cs cs.length (2 ^ cs.length - 1)).2 := by rw [bsS_all, ← hM]; rfl
  obtain ⟨n, hn⟩ : ∃ n, cs.length = n := ⟨_, rfl⟩
  rw [hM] at hMl
  rw [hn] at hck hle h8 hMs hMl ⊢
  obtain ⟨B, hB⟩ : ∃ B, w.heap.size = B := ⟨_, rfl⟩
  rw [hB] at hle
  have HN : Hid (cs.length = n) := hn
  have HA : Hid (Sqr w a cs) := ha
  have HM : Hid (mcM cs = M) := hM
  have HB : Hid (w.heap.size = B) := hB
  have hp8 : 2 ^ n ≤ 256 := Nat.pow_le_pow_right (n := 2) (by decide) h8
  have hp1 : 0 < 2 ^ n := Nat.pow_pos (by decide)
  have HMS : Hid (M = (bsS cs n (2 ^ n - 1)).2) := hMs
  have hsz := szS_all n
  clear hn ha hr hM hMs h0 hm hB
  obtain ⟨N, hN⟩ : ∃ N, 2 ^ n = N := ⟨_, rfl⟩
  have hfc := firstCols n h8
  rw [hN] at hp8 hp1 hfc hsz
  have HP : Hid (2 ^ n = N) := hN
  clear hN
  have hmk := run_make_row' (P := Tryd.prog) 58 3 (.int .i64 0) 8 Tryd.underlying58 Tryd.infoInt1 rfl .i64 .i64 n (by omega) (by omega)
  go_enter Tryd.func23, Tryd.ntmps23
  go_wp2_with (first
    | (go_at_call 55; refine hck.mono ?_; rintro e w0 ⟨rfl, h⟩; cases h)
    | (go_at_call 56; refine hle.mono ?_; rintro e w1 ⟨z, D, rfl, hL, hD, hb1⟩)
    | (go_at_call 57; refine (hfc _).mono ?_; rintro e w1 ⟨rfl, rfl⟩))
  clear hmk hck hle
  obtain ⟨R, hR⟩ : ∃ R, w1.heap.size = R := ⟨_, rfl⟩
  have hBR : B < R := by rw [← hR]; exact hL.lt
  have hal : Below R w1 (w1.alloc (.cells (madeCells #[.int .i64 0] n) 3)) := by rw [← hR]; exact below_alloc _ _
  have hst : Lst (w1.alloc (.cells (madeCells #[.int .i64 0] n) 3)) B z D ∧ Nrow (w1.alloc (.cells (madeCells #[.int .i64 0] n) 3)) R n (fun _ => 0) ∧ R < (w1.alloc (.cells (madeCells #[.int .i64 0] n) 3)).heap.size := by
    refine ⟨hL.below hal hBR, ⟨madeCells #[.int .i64 0] n, ?_, size_madeCells _ _, fun k hk => made_num _ _ _ hk⟩, by simp; omega⟩
    rw [← hR]; exact heap_alloc_new w1 _
  rw [hR]
  have HW := hb1.trans (hal.mono (Nat.le_of_lt hBR))
  generalize w1.alloc (.cells (madeCells #[.int .i64 0] n) 3) = w2 at hst HW ⊢
  obtain ⟨hL2, hN2, hz2⟩ := hst
  clear hal hb1 hL hR w1
  have HD : Hid (∀ s, s < N → lat D s (bsS cs n s).1) := fun s hs => hD s (by rw [HP.out]; exact hs)
  clear hD
  have HMS2 : Hid (M.drop 0 = (bsS cs n (N - 1)).2) := by
    show M.drop 0 = (bsS cs n (N - 1)).2
    rw [List.drop_zero, ← HP.out]; exact HMS.out
  clear HMS
  go_loopw [6, 25] (fun s6 i wx => ∃ k s : Nat, k ≤ n ∧ s < N ∧ s6 = .int .u64 s ∧ i = .int .i64 k ∧ szS n s + k = n ∧ M.drop k = (bsS cs n s).2 ∧ Lst wx B z D ∧ Nrow wx R n (fun j => if j < k then ((M.getD j 0 : Nat) : Int) else 0) ∧ Below B w wx ∧ R < wx.heap.size) (fun _ i _ => n - (intOf i).toNat)
  case atStart => exact ⟨0, N - 1, Nat.zero_le _, by omega, rfl, rfl, by omega, HMS2.out, hL2, hN2.congr fun k hk => by rw [if_neg (by omega)], HW, hz2⟩
  case round =>
    clear hL2 hN2 hz2 HW HMS2 w2
    obtain ⟨k, s, hk, hsN, rfl, rfl, hsz, hdr, hL, hN, hW, hz⟩ := hrel
    by_cases hlt : k < n
    · have hnn := sqf_nonneg HZ.out
      have hs256 : s < 256 := by omega
      obtain ⟨c, hc, ht, hb, hchs⟩ := chs_bst (c := cs) (r := k) (s := s) (n := n) (g := fun k => (bsS cs n (wo s k)).1) hnn (by omega) (by omega) (fun _ _ _ => rfl)
      obtain ⟨b, off, rfl, hat⟩ := Sqr.at (HA.out.below (by rw [HB.out]; exact hW)) (i := k) (by rw [HN.out]; exact hlt)
      obtain ⟨ar, cap, hcc, hin⟩ := hat k (by rw [HN.out]; exact hlt)
      have hrl : (cs.getD k []).length = n := (sqf_len HZ.out (by rw [HN.out]; exact hlt)).trans HN.out
      have hch := choose_any ar (cs.getD k []) cap s B z n D (fun k => (bsS cs n (wo s k)).1) wr hin hrl h8 hs256 hL (fun j => sqf_cost HZ.out k j) (fun j hj ht => ⟨HD.out _ (Nat.lt_trans (wo_lt ht) hsN), bsS_nonneg hnn n _, bsS_le HZ.out n _ h8⟩)
      rw [hchs] at hch
      rw [hrl] at hcc
      obtain ⟨y, hy⟩ : ∃ y, (bsS cs n s).1 = y := ⟨_, rfl⟩
      rw [hy] at hch
      have hwo := without s c hs256 (by omega)
      have hsw := szS_wo hc ht
      have hMk : M.getD k 0 = c ∧ M.drop (k + 1) = (bsS cs n (wo s c)).2 := by
        have h2 : k < M.length := by omega
        rw [hb, List.drop_eq_getElem_cons h2] at hdr
        have h3 := List.cons.inj hdr
        exact ⟨by simp [h2, h3.1], h3.2⟩
      have hcR := hN.cell hlt
      have hfR := hN.frozen k
      simp only [Nat.lt_irrefl, if_false] at hcR
      have hL' := hL.other (R := R) (by omega) k (.int .i64 c)
      have hN' := (hN.set hlt c).congr (g := fun j => if j < k + 1 then ((M.getD j 0 : Nat) : Int) else 0) (fun j hj => by
        by_cases e : j = k
        · subst e; rw [if_pos rfl, if_pos (by omega), hMk.1]
        · rw [if_neg e]
          by_cases e2 : j < k
          · rw [if_pos e2, if_pos (by omega)]
          · rw [if_neg e2, if_neg (by omega)])
      have hW' := hW.setCell (show B ≤ (⟨R, k, none⟩ : Addr).block from Nat.le_of_lt hBR) (.int .i64 c)
      have hz' : R < (wr.setCell ⟨R, k, none⟩ (.int .i64 c)).heap.size := by simpa using hz
      have hwl := wo_lt ht
      have hnew := World.cell?_setCell_same wr ⟨R, k, none⟩ (.int .i64 c) hcR
      have HH : Hid (szS n (wo s c) + (k + 1) = n ∧ M.drop (k + 1) = (bsS cs n (wo s c)).2 ∧ Lst (wr.setCell ⟨R, k, none⟩ (.int .i64 c)) B z D ∧ Nrow (wr.setCell ⟨R, k, none⟩ (.int .i64 c)) R n (fun j => if j < k + 1 then ((M.getD j 0 : Nat) : Int) else 0) ∧ Below B w (wr.setCell ⟨R, k, none⟩ (.int .i64 c)) ∧ R < (wr.setCell ⟨R, k, none⟩ (.int .i64 c)).heap.size) := ⟨by omega, hMk.2, hL', hN', hW', hz'⟩
      clear hL' hN' hW' hz' hMk hb hchs hy hdr hsw ht hat hin hnn hrl hL hN hW
      go_wp2_with (first
        | (go_at_call 58; refine hch.mono ?_; rintro e w1 ⟨rfl, rfl⟩)
        | (go_at_call 59; refine (hwo _).mono ?_; rintro e w1 ⟨rfl, rfl⟩))
      go_roundw
      case rel => exact ⟨k + 1, wo s c, by omega, by omega, rfl, by go_num, HH.out⟩
      case measure => simp [intOf]; omega
    · have : k = n := by omega
      subst this
      have HV : Hid (MatV cs (.returned (.tuple #[.slice (some ⟨R, 0, none⟩) k k, .nilIface])) w wr) := by
        have hl : (mcO cs).length = k := (mcO_len HZ.out).trans HN.out
        refine ⟨some ⟨R, 0, none⟩, k, ?_, hN.ins hl fun j hj => ?_, by omega, by rw [HB.out]; exact hW⟩
        · rw [hl, HZ.out]; rfl
        · rw [if_pos hj, mcO_ok HZ.out, HM.out]
          simp [show j < M.length by omega]
      go_wp2
      go_ret2
      exact HV.out

end Go.Proofs.YtfmhapajdnmhoaeDoor
