/-
  Walk of the document's best choice of the rows from one on (it calls itself; what it marks as used it unmarks), and of its choice of all. Walks of the document's own fault of a square, of its best choice, row by row, and of its choice of all. Walks of the document's choice of all rows, of two lists of numbers compared, of a number in a list.
-/
import Derived.Test.YtfmhapajdnmhoafGreatDoorXf
import Derived.Test.YtfmhapajdnmhoafGreatDoorXd
namespace Go.Proofs.YtfmhapajdnmhoafGreatDoor
open Go.RowKit Dist

theorem Tryz.infoBool1 : (Tryz.prog.info? 4).map (fun i => (i.zero, i.size, i.bytes)) = some (some (.bool false), 1, 1) := by kernel_rfl

/-- What is used, in memory. -/
def Brow (w : World) (G : Nat) (us : List Bool) : Prop :=
  ∃ bs : Array Value, w.heap[G]? = some (.cells bs 4 (0, 0)) ∧ bs.size = us.length ∧ ∀ k, k < us.length → bs[k]? = some (.bool (us.getD k false))
theorem Brow.cell {w : World} {G : Nat} {us : List Bool} (h : Brow w G us) {k : Nat} (hk : k < us.length) : w.cell? ⟨G, k, none⟩ = some (.bool (us.getD k false)) := by
  obtain ⟨rs, hb, _, hat⟩ := h
  rw [Lib.cell_of_heap hb]; exact hat k hk
theorem Brow.frozen {w : World} {G : Nat} {us : List Bool} (h : Brow w G us) (k : Nat) : w.frozen? ⟨G, k, none⟩ = false := by
  obtain ⟨rs, hb, _, _⟩ := h
  exact Lib.frozen_of_heap hb k
theorem Brow.lt {w : World} {G : Nat} {us : List Bool} (h : Brow w G us) : G < w.heap.size := by
  obtain ⟨rs, hb, _, _⟩ := h
  exact (Array.getElem?_eq_some_iff.1 hb).1
theorem Brow.below {w w' : World} {G U : Nat} {us : List Bool} (h : Brow w G us) (hb : Below U w w') (hG : G < U) : Brow w' G us := by
  obtain ⟨rs, hh, hs, hat⟩ := h
  exact ⟨rs, blk_below hb hG hh, hs, hat⟩
theorem Brow.set {w : World} {G : Nat} {us : List Bool} (h : Brow w G us) {j : Nat} (hj : j < us.length) (u : Bool) : Brow (w.setCell ⟨G, j, none⟩ (.bool u)) G (us.set j u) := by
  obtain ⟨rs, hb, hs, hat⟩ := h
  refine ⟨_, blk_set hb _, by simpa using hs, fun k hk => ?_⟩
  have hk : k < us.length := by simpa using hk
  by_cases e : k = j
  · subst e
    rw [Array.getElem?_setIfInBounds_self_of_lt (by omega)]
    simp [List.getElem?_set_self hj]
  · rw [Array.getElem?_setIfInBounds_ne (Ne.symm e), hat k hk]
    simp [Ne.symm e]

/-- A mark that is put and taken away again leaves all as it was. -/
theorem putback {w w2 : World} {G k : Nat} {us : List Bool} (h : Brow w G us) (hk : k < us.length) (hu : us.getD k false = false) (hb : Below w.heap.size (w.setCell ⟨G, k, none⟩ (.bool true)) w2) : Below w.heap.size w (w2.setCell ⟨G, k, none⟩ (.bool false)) := by
  have hG := h.lt
  obtain ⟨rs, hh, hs, hat⟩ := h
  have h1 : (w.setCell ⟨G, k, none⟩ (.bool true)).heap[G]? = some (.cells (rs.setIfInBounds k (.bool true)) 4 (0, 0)) := blk_set hh _
  have h2 : w2.heap[G]? = some (.cells (rs.setIfInBounds k (.bool true)) 4 (0, 0)) := blk_below hb hG h1
  have h3 := blk_set h2 (i := k) (.bool false)
  have h4 : (rs.setIfInBounds k (.bool true)).setIfInBounds k (.bool false) = rs := by
    refine Array.ext_getElem? fun i => ?_
    by_cases e : i = k
    · subst e
      rw [Array.getElem?_setIfInBounds_self_of_lt (by simp; omega), hat i hk, hu]
    · rw [Array.getElem?_setIfInBounds_ne (Ne.symm e), Array.getElem?_setIfInBounds_ne (Ne.symm e)]
  rw [h4] at h3
  refine ⟨hb.os, hb.tape, hb.output, by simpa using hb.size, fun i hi => ?_⟩
  by_cases e : i = G
  · rw [e, h3, hh]
  · have e1 : (w2.setCell ⟨G, k, none⟩ (.bool false)).heap[i]? = w2.heap[i]? := by
      simp only [World.setCell, Array.getElem?_modify]
      rw [if_neg (fun x => e x.symm)]
    have e2 : (w.setCell ⟨G, k, none⟩ (.bool true)).heap[i]? = w.heap[i]? := by
      simp only [World.setCell, Array.getElem?_modify]
      rw [if_neg (fun x => e x.symm)]
    rw [e1, hb.block i hi, e2]

theorem Brow.not {w : World} {G : Nat} {us : List Bool} (h : Brow w G us) {b i : Nat} {v : Value} (hc : w.cell? ⟨b, i, none⟩ = some v) (hv : ∀ x, v ≠ .bool x) : b ≠ G := by
  rintro rfl
  obtain ⟨rs, hb, hs, hat⟩ := h
  rw [Lib.cell_of_heap hb] at hc
  by_cases hi : i < us.length
  · rw [hat i hi] at hc
    exact hv _ (Option.some.inj hc).symm
  · rw [Array.getElem?_eq_none (by omega)] at hc
    cases hc
theorem Ins.mark {w : World} {a : Option Addr} {zs : List Int} (h : Ins w a zs) {G : Nat} {us : List Bool} (hB : Brow w G us) (k : Nat) (v : Value) : Ins (w.setCell ⟨G, k, none⟩ v) a zs := by
  intro i hi
  obtain ⟨b, off, e, hc⟩ := h i hi
  refine ⟨b, off, e, ?_⟩
  have hne := hB.not hc (by simp)
  rw [World.cell?_setCell_other _ _ _ _ (fun x => hne (by simpa using (congrArg Addr.block x).symm))]
  exact hc
theorem Sqr.mark {w : World} {a : Option Addr} {cs : List (List Int)} (h : Sqr w a cs) {G : Nat} {us : List Bool} (hB : Brow w G us) (k : Nat) (v : Value) : Sqr (w.setCell ⟨G, k, none⟩ v) a cs := by
  intro i hi
  obtain ⟨b, off, ar, cap, e, hc, hr⟩ := h i hi
  refine ⟨b, off, ar, cap, e, ?_, hr.mark hB k v⟩
  have hne := hB.not hc (by simp)
  rw [World.cell?_setCell_other _ _ _ _ (fun x => hne (by simpa using (congrArg Addr.block x).symm))]
  exact hc

/-- What comes of it. -/
def BesV (cs : List (List Int)) (f r : Nat) (us : List Bool) (e : Ending) (w w' : World) : Prop :=
  ∃ v, e = .returned (.tuple #[.int .i64 (bst cs cs.length f r us).1, v]) ∧ Inl w' w.heap.size v ((bst cs cs.length f r us).2.map Int.ofNat) ∧ Below w.heap.size w w'

/-- How far the columns have been gone through. -/
def fdB (cs : List (List Int)) (n f r : Nat) (us : List Bool) (k : Nat) : Int × List Nat := (List.range k).foldl (pickM cs r us fun k => bst cs n f (r + 1) (us.set k true)) (-1, [])
theorem fdB_zero (cs : List (List Int)) (n f r : Nat) (us : List Bool) : fdB cs n f r us 0 = (-1, []) := rfl
theorem fdB_succ (cs : List (List Int)) (n f r : Nat) (us : List Bool) (k : Nat) : fdB cs n f r us (k + 1) = pickM cs r us (fun k => bst cs n f (r + 1) (us.set k true)) (fdB cs n f r us k) k := by
  unfold fdB
  rw [List.range_succ, List.foldl_append, List.foldl_cons, List.foldl_nil]
theorem fdB_all (cs : List (List Int)) (n f r : Nat) (us : List Bool) : fdB cs n f r us n = bst cs n (f + 1) r us := rfl
theorem bst_bound {cs : List (List Int)} (h0 : sqf cs = 0) {n f r : Nat} {us : List Bool} (hn : us.length = n) (hf : lefts us = f) : 0 ≤ (bst cs n f r us).1 ∧ (bst cs n f r us).1 ≤ 100000 * f ∧ (bst cs n f r us).2.length = f := by
  obtain ⟨h1, h2⟩ := bst_best (sqf_nonneg h0) f r us hn hf
  have h3 := cst_le (fun i k => (sqf_cost h0 i k).2) (bst cs n f r us).2 r
  have h4 := cst_nonneg (sqf_nonneg h0) (bst cs n f r us).2 r
  rw [h1.1.1] at h3
  exact ⟨by omega, by omega, h1.1.1⟩

set_option maxHeartbeats 1000000 in
set_option maxRecDepth 100000 in
theorem best_any (a : Option Addr) (cs : List (List Int)) (ca : Nat) (h0 : sqf cs = 0) : ∀ (f r : Nat) (us : List Bool) (G : Nat) (w : World), Sqr w a cs → Brow w G us → us.length = cs.length → lefts us = f → r + f = cs.length →
    Calls Tryz.prog 22 #[.slice a cs.length ca, .int .i64 r, .slice (some ⟨G, 0, none⟩) cs.length cs.length] w fun e w' => BesV cs f r us e w w' := by
  intro f
  induction f with
  | zero =>
    intro r us G w ha hu hl hf hr
    have h8 := (sqf_zero h0).1
    have HV : Hid (BesV cs 0 r us (.returned (.tuple #[.int .i64 0, .slice none 0 0])) w w) := ⟨_, rfl, Inl.nil _ _, Below.refl _ _⟩
    have hr : r = cs.length := by omega
    subst hr
    obtain ⟨n, hn⟩ : ∃ n, cs.length = n := ⟨_, rfl⟩
    rw [hn] at h8 HV ⊢
    clear ha hu hl hf hn h0
    go_enter Tryz.func22, Tryz.ntmps22
    go_wp2
    go_ret2
    exact HV.out
  | succ f ih =>
    intro r us G w ha hu hl hf hr
    have h8 := (sqf_zero h0).1
    obtain ⟨U, hU⟩ : ∃ U, w.heap.size = U := ⟨_, rfl⟩
    have hGU : G < U := by rw [← hU]; exact hu.lt
    have HU : Hid (w.heap.size = U) := hU
    have HZ : Hid (sqf cs = 0) := h0
    have HA : Hid (Sqr w a cs) := ha
    have HB : Hid (Brow w G us) := hu
    have HF : Hid (lefts us = f + 1) := hf
    have HV : Hid (∀ v w', Inl w' U v ((fdB cs cs.length f r us cs.length).2.map Int.ofNat) → Below U w w' → BesV cs (f + 1) r us (.returned (.tuple #[.int .i64 (fdB cs cs.length f r us cs.length).1, v])) w w') := fun v w' h1 h2 => ⟨v, rfl, by rw [hU]; exact h1, by rw [hU]; exact h2⟩
    have hrn : r < cs.length := by omega
    obtain ⟨n, hn⟩ : ∃ n, cs.length = n := ⟨_, rfl⟩
    have HN : Hid (cs.length = n) := hn
    rw [hn] at h8 hl HV hrn hr ih ⊢
    have HL : Hid (us.length = n) := hl
    have HI : Hid (∀ (r : Nat) (us : List Bool) (G : Nat) (w : World), Sqr w a cs → Brow w G us → us.length = n → lefts us = f → r + f = n →
      Calls Tryz.prog 22 #[.slice a n ca, .int .i64 r, .slice (some ⟨G, 0, none⟩) n n] w fun e w' => BesV cs f r us e w w') := ih
    clear ha hu hf hU h0 hn hl ih
    have hne : ((r : Int) == (n : Int)) = false := by simp; omega
    go_enter Tryz.func22, Tryz.ntmps22
    go_wp2
    clear hne
    go_loopw [8, 9, 10] (fun s8 v i wx => ∃ k : Nat, k ≤ n ∧ i = .int .i64 k ∧ s8 = .int .i64 (fdB cs n f r us k).1 ∧ Inl wx U v ((fdB cs n f r us k).2.map Int.ofNat) ∧ Below U w wx) (fun _ _ i _ => n - (intOf i).toNat)
    case atStart => exact ⟨0, Nat.zero_le _, rfl, rfl, Inl.nil _ _, Below.refl _ _⟩
    case round =>
      obtain ⟨k, hk, rfl, rfl, hin, hbl⟩ := hrel
      by_cases hlt : k < n
      · have hBr : Brow wr G us := HB.out.below hbl hGU
        have hku : k < us.length := by rw [HL.out]; exact hlt
        have hcu := hBr.cell hku
        have hfr := hBr.frozen k
        have hzU : U ≤ wr.heap.size := by have := hbl.size; rw [HU.out] at this; exact this
        cases hus : us.getD k false
        case true =>
          rw [hus] at hcu
          have e1 : Hid (fdB cs n f r us (k + 1) = fdB cs n f r us k) := by
            show fdB cs n f r us (k + 1) = _
            rw [fdB_succ, pickM_used hus]
          have HIN : Hid (Inl wr U u9 ((fdB cs n f r us k).2.map Int.ofNat)) := hin
          clear hin hBr hus
          go_wp2
          go_roundw
          case rel => exact ⟨k + 1, by omega, by go_num, by rw [e1.out], by rw [e1.out]; exact HIN.out, hbl⟩
          case measure => simp [intOf]; omega
        case false =>
          rw [hus] at hcu
          have hsw : Sqr wr a cs := HA.out.below (by rw [HU.out]; exact hbl)
          have hlf := lefts_set hku hus
          rw [HF.out] at hlf
          have hcall := HI.out (r + 1) (us.set k true) G (wr.setCell ⟨G, k, none⟩ (.bool true)) (hsw.mark hBr k _) (hBr.set hku true) (by rw [List.length_set]; exact HL.out) (by omega) (by omega)
          have hbd := bst_bound HZ.out (us := us.set k true) (n := n) (f := f) (r := r + 1) (by rw [List.length_set]; exact HL.out) (by omega)
          obtain ⟨b1, o1, rfl, hat1⟩ := Sqr.at hsw (i := r) (by rw [HN.out]; exact hrn)
          obtain ⟨ar, cap, hc1, hin1⟩ := hat1 r (by rw [HN.out]; exact hrn)
          have hrl : (cs.getD r []).length = n := (sqf_len HZ.out (by rw [HN.out]; exact hrn)).trans HN.out
          obtain ⟨b3, o3, rfl, hat3⟩ := Ins.at hin1 (i := k) (by rw [hrl]; exact hlt)
          have hc3 := hat3 k (by rw [hrl]; exact hlt)
          rw [hrl] at hc1
          have hxb := sqf_cost HZ.out r k
          have hcx : (cs.getD r []).getD k 0 = cAtM cs r k := rfl
          rw [hcx] at hc3
          have e1 := fdB_succ cs n f r us k
          rw [pickM_new (by rw [hus]; decide) rfl] at e1
          simp only [BesV, HN.out] at hcall
          obtain ⟨bb, hbb⟩ : ∃ bb, bst cs n f (r + 1) (us.set k true) = bb := ⟨_, rfl⟩
          rw [hbb] at hcall hbd e1
          obtain ⟨x, hx⟩ : ∃ x, cAtM cs r k = x := ⟨_, rfl⟩
          rw [hx] at hc3 hxb e1
          have hmany : (fdB cs n f r us k).1 < 0 → (fdB cs n f r us k).1 < 0 := fun h => h
          obtain ⟨A1, hA1⟩ : ∃ A1, (fdB cs n f r us k).1 = A1 := ⟨_, rfl⟩
          obtain ⟨A2, hA2⟩ : ∃ A2, (fdB cs n f r us k).2 = A2 := ⟨_, rfl⟩
          have hAA : fdB cs n f r us k = (A1, A2) := by rw [← hA1, ← hA2]
          rw [hAA] at e1
          simp only [hAA] at hin ⊢
          obtain ⟨y, L⟩ := bb
          simp only [] at hcall hbd e1
          have HE : Hid (fdB cs n f r us (k + 1) = if A1 < 0 ∨ y + x < A1 then (y + x, k :: L) else (A1, A2)) := e1
          have KF : Hid (∀ w2, Below wr.heap.size (wr.setCell ⟨G, k, none⟩ (.bool true)) w2 → Below wr.heap.size wr (w2.setCell ⟨G, k, none⟩ (.bool false)) ∧ w2.cell? ⟨G, k, none⟩ = some (.bool true) ∧ w2.frozen? ⟨G, k, none⟩ = false) := fun w2 hb2 => by
            have hB2 : Brow w2 G (us.set k true) := (hBr.set hku true).below hb2 hBr.lt
            refine ⟨putback hBr hku hus hb2, ?_, hB2.frozen k⟩
            have := hB2.cell (k := k) (by simpa using hku)
            simpa [List.getElem?_set_self hku] using this
          have KC : Hid (∀ w3, Below wr.heap.size wr w3 → w3.cell? ⟨b1, o1 + r, none⟩ = some (.slice (some ⟨b3, o3, none⟩) n cap) ∧ w3.cell? ⟨b3, o3 + k, none⟩ = some (.int .i64 x)) := fun w3 h3 => ⟨cell_later h3 hc1, cell_later h3 hc3⟩
          have HIN : Hid (Inl wr U u9 (A2.map Int.ofNat)) := hin
          have hGr := hBr.lt
          have hbig : (1 : Int) + n ≤ 9 := by omega
          clear hin hBr hus hsw hat1 hat3 hin1 hc1 hc3 hrl hbb hx hcx e1 hA1 hA2 hAA hmany hlf
          have hszs : (wr.setCell ⟨G, k, none⟩ (.bool true)).heap.size = wr.heap.size := by simp
          rw [hszs] at hcall
          go_upto_region 12 with (first
            | (go_at_call 22; refine hcall.mono ?_; rintro e w2 ⟨v2, rfl, hI2, hb2⟩; obtain ⟨hb3, hc2, hf2⟩ := KF.out w2 hb2)
            | go_in)
          have hI3 : Inl (w2.setCell ⟨G, k, none⟩ (.bool false)) wr.heap.size v2 (L.map Int.ofNat) := hI2.ne hGr k _
          clear hI2 hb2 hc2 hf2 hcall KF
          generalize w2.setCell ⟨G, k, none⟩ (.bool false) = w3 at hb3 hI3 ⊢
          obtain ⟨g2, c2, rfl, hi2, hc2l⟩ := hI3.ins
          obtain ⟨k1, k2⟩ := KC.out w3 hb3
          have hL3 : Below U w w3 := hbl.trans (hb3.mono hzU)
          have hz3 : U ≤ w3.heap.size := by have := hb3.size; omega
          have H4 : Hid (Inl w3 U u9 (A2.map Int.ofNat)) := HIN.out.later hb3
          rw [List.length_map] at hc2l
          simp only [List.length_map, hbd.2.2]
          have hlen : (L.map Int.ofNat).length = f := by rw [List.length_map]; exact hbd.2.2
          have hone : Inl (w3.alloc (.cells #[.int .i64 k] 3)) w3.heap.size (.slice (some ⟨w3.heap.size, 0, none⟩) 1 1) [(k : Int)] := inl_one w3 k
          have hi3 : Ins (w3.alloc (.cells #[.int .i64 k] 3)) g2 (L.map Int.ofNat) := hi2.below (below_alloc _ _)
          have hz4 : (w3.alloc (.cells #[.int .i64 k] 3)).heap.size = w3.heap.size + 1 := by simp
          have hb4 : Below U w (w3.alloc (.cells #[.int .i64 k] 3)) := hL3.trans ((below_alloc w3 _).mono hz3)
          obtain ⟨hy0, hy1, _⟩ := hbd
          clear hI3 hi2 HIN KC hb3 hfr hcu hszs
          by_cases hcond : A1 < 0 ∨ y + x < A1
          · have e2 : Hid (fdB cs n f r us (k + 1) = (y + x, k :: L)) := by
              show fdB cs n f r us (k + 1) = _
              rw [HE.out, if_pos hcond]
            by_cases hA : A1 < 0
            case' neg =>
              have hA2 : 0 ≤ A1 := by omega
              have hA3 : y + x < A1 := by omega
            all_goals
              clear hcond HE
              go_wp2_with (first
                | (at_builtin; refine append_ints rfl _ _ rfl w3.heap.size _ [(k : Int)] rfl hone g2 (L.map Int.ofNat) f c2 hlen rfl hi3 (by simp; omega) (by rw [hz4]; omega) ?_; intro v' w4 hI4 hg4)
                | go_in)
              go_roundw
              case rel => exact ⟨k + 1, by omega, by go_num, by rw [e2.out], by rw [e2.out]; exact hI4.base hz3, hb4.grown hg4 (by omega) (fun j hj => by cases hj; exact hz3)⟩
              case measure => simp [intOf]; omega
          · have e2 : Hid (fdB cs n f r us (k + 1) = (A1, A2)) := by
              show fdB cs n f r us (k + 1) = _
              rw [HE.out, if_neg hcond]
            have hA2 : 0 ≤ A1 := by omega
            have hA3 : A1 ≤ y + x := by omega
            clear hcond HE
            go_wp2
            go_roundw
            case rel => exact ⟨k + 1, by omega, by go_num, by rw [e2.out], by rw [e2.out]; exact H4.out, hL3⟩
            case measure => simp [intOf]; omega
      · have : k = n := by omega
        subst this
        have HV2 := HV.out u9 wr hin hbl
        obtain ⟨A1, hA1⟩ : ∃ A1, (fdB cs k f r us k).1 = A1 := ⟨_, rfl⟩
        simp only [hA1] at HV2 ⊢
        have HV3 : Hid (BesV cs (f + 1) r us (.returned (.tuple #[.int .i64 A1, u9])) w wr) := HV2
        clear HV2 HV hin hA1
        go_wp2
        go_ret2
        exact HV3.out

end Go.Proofs.YtfmhapajdnmhoafGreatDoor
namespace Go.Proofs.YtfmhapajdnmhoafGreatDoor
open Go.RowKit Dist

end Go.Proofs.YtfmhapajdnmhoafGreatDoor
namespace Go.Proofs.YtfmhapajdnmhoafGreatDoor
open Go.RowKit Dist

set_option maxHeartbeats 1000000 in
set_option maxRecDepth 100000 in
theorem matchOf (a : Option Addr) (cs : List (List Int)) (ca : Nat) (w : World) (ha : Sqr w a cs) (h0 : sqf cs = 0) :
    Calls Tryz.prog 11 #[.slice a cs.length ca] w fun e w' => ∃ v, e = .returned v ∧ Inl w' w.heap.size v ((mcM cs).map Int.ofNat) ∧ Below w.heap.size w w' := by
  have h8 := (sqf_zero h0).1
  have hal := below_alloc w (.cells (madeCells #[.bool false] cs.length) 4)
  have hB : Brow (w.alloc (.cells (madeCells #[.bool false] cs.length) 4)) w.heap.size (List.replicate cs.length false) := by
    refine ⟨_, heap_alloc_new w _, by rw [size_madeCells]; simp, fun k hk => ?_⟩
    rw [made_num _ _ _ (by simpa using hk), List.getD_eq_getElem?_getD, List.getElem?_eq_getElem hk]
    simp
  have hc := best_any a cs ca h0 cs.length 0 (List.replicate cs.length false) w.heap.size _ (ha.below hal) hB (by simp) (by unfold lefts; simp) (by omega)
  have hmc : Hid ((bst cs cs.length cs.length 0 (List.replicate cs.length false)).2 = mcM cs) := rfl
  simp only [BesV] at hc
  obtain ⟨bb, hbb⟩ : ∃ bb, bst cs cs.length cs.length 0 (List.replicate cs.length false) = bb := ⟨_, rfl⟩
  rw [hbb] at hc hmc
  obtain ⟨n, hn⟩ : ∃ n, cs.length = n := ⟨_, rfl⟩
  rw [hn] at h8 hc hal ⊢
  have hmk := run_make_row' (P := Tryz.prog) 64 4 (.bool false) 1 Tryz.underlying64 Tryz.infoBool1 rfl .i64 .i64 n (by omega) (by omega)
  have hsz : Hid ((w.alloc (.cells (madeCells #[.bool false] n) 4)).heap.size = w.heap.size + 1) := by
    show _ = _
    simp
  clear hbb hB hn ha h0
  go_enter Tryz.func11, Tryz.ntmps11
  go_wp2_with (go_at_call 22; refine hc.mono ?_; rintro e w1 ⟨v, rfl, hI, hb⟩)
  go_ret
  rw [hsz.out] at hI hb
  rw [hmc.out] at hI
  exact ⟨_, rfl, hI.base (by omega), hal.trans (hb.mono (by omega))⟩

end Go.Proofs.YtfmhapajdnmhoafGreatDoor
