/-
  Walk of the law LooseMoves: it returns true and writes nothing that was there.
-/
import Derived.Test.YthcgbbfejdkgaabExact

namespace Go.Proofs.Ythcgbbfejdkgaab
open Go.RowKit Dist

/-- The word that is put ahead. -/
def ahd : ByteArray := ⟨#[97, 104, 101, 97, 100]⟩

theorem ahd_list : ahd.toList = [97, 104, 101, 97, 100] := by rw [Lib.toList_data]; rfl

theorem fact_m : lcF [(⟨#[121]⟩ : ByteArray), ⟨#[120]⟩] [((0 : Int), (0 : Int), [((45 : Int), (⟨#[120]⟩ : ByteArray))])] 0 1 = 0 := by decide
theorem fact_m2 : (lsR [(⟨#[121]⟩ : ByteArray), ⟨#[120]⟩] [((0 : Int), (0 : Int), [((45 : Int), (⟨#[120]⟩ : ByteArray))])] 0 1).A = [⟨#[121]⟩] ∧ (lsR [(⟨#[121]⟩ : ByteArray), ⟨#[120]⟩] [((0 : Int), (0 : Int), [((45 : Int), (⟨#[120]⟩ : ByteArray))])] 0 1).L = [] ∧ (lsR [(⟨#[121]⟩ : ByteArray), ⟨#[120]⟩] [((0 : Int), (0 : Int), [((45 : Int), (⟨#[120]⟩ : ByteArray))])] 0 1).W = [1] := by decide

/-- Two lines, new. -/
theorem strs_two (w : World) (s r : ByteArray) (t : TypeId) : Strs (w.alloc (.cells #[.string s, .string r] t)) (some ⟨w.heap.size, 0, none⟩) [s, r] := by
  intro i hi
  have hblk := heap_alloc_new w (.cells #[.string s, .string r] t)
  match i, hi with
  | 0, _ => exact ⟨w.heap.size, 0, rfl, by rw [Lib.cell_of_heap hblk]; rfl⟩
  | 1, _ => exact ⟨w.heap.size, 0, rfl, by rw [Lib.cell_of_heap hblk]; rfl⟩

/-- Behind so many lines that it has not, pieces that lead from a file to another one, each with a line that is old, are done that much further. -/
theorem moves_fits {xs ys : List ByteArray} {n : Int} {by' : Nat} (hmk : mkf xs ys n = 0) (hby : by' ≤ 10) (hroom : xs.length + ys.length + by' ≤ 60)
    (hd' : ∀ i j : Nat, i < xs.length → j < xs.length → xs.getD i ByteArray.empty = xs.getD j ByteArray.empty → i = j) (ha : ∀ y ∈ xs, ahd ≠ y) (hne : ∀ h ∈ mOfH xs ys n, 0 < (lessOf 43 h.2.2).length) :
    lcF (List.replicate by' ahd ++ xs) (mOfH xs ys n) 0 by' = 0 ∧ lsR (List.replicate by' ahd ++ xs) (mOfH xs ys n) 0 by' = ⟨List.replicate by' ahd ++ ys, eS (List.replicate by' ahd) xs (mOfH xs ys n) (mOfH xs ys n).length, sh (mOfH xs ys n), [], List.replicate (mOfH xs ys n).length (by' : Int)⟩ := by
  obtain ⟨e1, e2⟩ := stF_make hmk
  obtain ⟨z1, z2, z3, z4⟩ := stF_zero (xs := xs) (l := mOfH xs ys n) (by rw [e1])
  obtain ⟨g, _, _⟩ := hf_good z2
  have hl : lsf (bts (List.replicate by' ahd ++ xs)) = 0 := lsf_of (by rw [List.length_append, List.length_replicate]; omega) (fun x hx => by
    rcases List.mem_append.1 hx with h | h
    · rw [(List.mem_replicate.1 h).2]; decide
    · exact (lsf_zero z1).2 _ (List.mem_map.2 ⟨x, h, rfl⟩))
  have hc : lcF (List.replicate by' ahd ++ xs) (mOfH xs ys n) 0 by' = 0 := by
    rw [lcF_range hl z2, if_neg (by omega)]
  refine ⟨hc, ?_⟩
  rw [lsR_ok hc, Int.toNat_natCast, show (0 : Int).toNat = 0 from rfl]
  have h := moves_run (pre := List.replicate by' ahd) (fuzz := 0) g (clash_stand z3) (by rw [e2, List.length_replicate]; omega) hne hd' (fun x hx y hy => by rw [(List.mem_replicate.1 hx).2]; exact ha y hy)
  rw [List.length_replicate, e2] at h
  exact h

set_option maxRecDepth 100000 in
set_option maxHeartbeats 8000000 in
theorem moves_any (aa ba : Option Addr) (xs ys : List ByteArray) (ca cb : Nat) (n by' : Int) (w : World) (ha : Strs w aa xs) (hb : Strs w ba ys) (h1 : xs.length ≤ maxLen) (h2 : ys.length ≤ maxLen) :
    Calls Try.prog 6 #[.slice aa xs.length ca, .slice ba ys.length cb, .int .i64 n, .int .i64 by'] w fun e w' => e = .returned (.bool true) ∧ Below w.heap.size w w' := by
  have hb1 : Below w.heap.size w ((w.alloc (.cells #[.int .u8 45, .string ⟨#[120]⟩] 29)).alloc (.cells #[.int .i64 0, .int .i64 0, .slice (some ⟨w.heap.size, 0, none⟩) 1 1] 31)) := ((Below.refl _ _).alloc (Nat.le_refl _) _).alloc (by simp) _
  have hb2 := below_alloc ((w.alloc (.cells #[.int .u8 45, .string ⟨#[120]⟩] 29)).alloc (.cells #[.int .i64 0, .int .i64 0, .slice (some ⟨w.heap.size, 0, none⟩) 1 1] 31)) (.cells #[.string ⟨#[121]⟩, .string ⟨#[120]⟩] 9)
  have hfact := looseAny (some ⟨((w.alloc (.cells #[.int .u8 45, .string ⟨#[120]⟩] 29)).alloc (.cells #[.int .i64 0, .int .i64 0, .slice (some ⟨w.heap.size, 0, none⟩) 1 1] 31)).heap.size, 0, none⟩) (some ⟨w.heap.size + 1, 0, none⟩) [⟨#[121]⟩, ⟨#[120]⟩] [((0 : Int), (0 : Int), [((45 : Int), (⟨#[120]⟩ : ByteArray))])] 2 1 0 1 _ (strs_two _ ⟨#[121]⟩ ⟨#[120]⟩ 9) ((hks_one w 0 0 45 ⟨#[120]⟩).below hb2) (by simp; decide) (by simp; decide) (fun h hh => by simp at hh; rw [hh]; simp; decide) (by simp)
  rw [fact_m, fact_m2.1, fact_m2.2.1, fact_m2.2.2, errV_zero] at hfact
  simp only [List.length_cons, List.length_nil, Nat.zero_add, Nat.reduceAdd] at hfact
  rw [show ((w.alloc (.cells #[.int .u8 45, .string ⟨#[120]⟩] 29)).alloc (.cells #[.int .i64 0, .int .i64 0, .slice (some ⟨w.heap.size, 0, none⟩) 1 1] 31)).heap.size = w.heap.size + 2 by simp] at hfact
  have HW : Hid (Below w.heap.size w (((w.alloc (.cells #[.int .u8 45, .string ⟨#[120]⟩] 29)).alloc (.cells #[.int .i64 0, .int .i64 0, .slice (some ⟨w.heap.size, 0, none⟩) 1 1] 31)).alloc (.cells #[.string ⟨#[121]⟩, .string ⟨#[120]⟩] 9))) := hb1.trans (hb2.mono hb1.size)
  have HMA := fun w h h' => makeAny aa ba xs ys ca cb n w h h' h1 h2
  have SA : Hid (Strs w aa xs) := ha
  have SB : Hid (Strs w ba ys) := hb
  have h1' := h1
  have h2' := h2
  unfold maxLen at h1' h2'
  obtain ⟨m1, hm1⟩ : ∃ m, xs.length = m := ⟨_, rfl⟩
  obtain ⟨m2, hm2⟩ : ∃ m, ys.length = m := ⟨_, rfl⟩
  have HM1 : Hid (xs.length = m1) := hm1
  have HM2 : Hid (ys.length = m2) := hm2
  rw [hm1, hm2] at HMA
  rw [hm1] at h1'
  rw [hm2] at h2'
  rw [hm1, hm2]
  clear ha hb h1 h2 hb1 hb2 hm1 hm2
  go_enter Try.func6, Try.ntmps6
  go_wp2_with (go_at_call 16; refine hfact.mono ?_)
  rintro e w1 ⟨a1, c1, b1, cb1, g1, cg1, rfl, hb1, hs1, _, hi1⟩
  obtain ⟨gb, goff, rfl, hgc⟩ := hi1 0 (by simp)
  simp only [Nat.add_zero, List.getD_cons_zero] at hgc
  have hb1 := HW.out.trans (hb1.mono HW.out.size)
  have hbx := below_alloc w1 (.cells #[.string ⟨#[121]⟩] 9)
  have htx := texts_eq a1 (some ⟨w1.heap.size, 0, none⟩) [⟨#[121]⟩] c1 1 _ (hs1.below hbx) (strs_one w1 ⟨#[121]⟩ 9) (by simp; decide)
  simp only [List.length_cons, List.length_nil, Nat.zero_add] at htx
  have hgc2 := cell_later hbx hgc
  have HGC : Hid ((w1.alloc (.cells #[.string ⟨#[121]⟩] 9)).cell? ⟨gb, goff, none⟩ = some (.int .i64 1)) := hgc2
  have HB2 : Hid (Below w.heap.size w (w1.alloc (.cells #[.string ⟨#[121]⟩] 9))) := hb1.trans (hbx.mono hb1.size)
  clear hfact HW hi1 hs1 hbx hgc2
  go_wp2_with (go_at_call 14; refine htx.mono ?_)
  rintro e w2 ⟨rfl, hb2⟩
  have hgc := cell_later hb2 HGC.out
  have hb2 := HB2.out.trans (hb2.mono HB2.out.size)
  have hma := HMA w2 (SA.out.below hb2) (SB.out.below hb2)
  clear htx HB2 hb1 HMA HGC
  by_cases hmk : mkf xs ys n = 0
  · have hff : ff xs ys = 0 := by
      by_cases e : ff xs ys = 0
      · exact e
      · unfold mkf at hmk; rw [if_pos e] at hmk; exact absurd hmk e
    have hm1 : m1 ≤ 60 := by rw [← HM1.out]; exact lsf_len (ff_zero hff).1
    have hm2 : m2 ≤ 60 := by rw [← HM2.out]; exact lsf_len (ff_zero hff).2
    clear hff
    have hsm := mOfH_small xs ys n
    rw [hmk, errV_zero] at hma
    obtain ⟨L, hL⟩ : ∃ L, mOfH xs ys n = L := ⟨_, rfl⟩
    have HLE : Hid (mOfH xs ys n = L) := hL
    have HMK : Hid (mkf xs ys n = 0) := hmk
    rw [hL] at hma hsm
    obtain ⟨z, hz⟩ : ∃ z, L.length = z := ⟨_, rfl⟩
    have HZ : Hid (L.length = z) := hz
    rw [hz] at hma
    have HSM : Hid (L.length ≤ maxLen ∧ ∀ h ∈ L, h.2.2.length ≤ maxLen) := hsm
    have hz60 : z ≤ 60 := by
      obtain ⟨e1, _⟩ := stF_make HMK.out
      obtain ⟨_, z2, _, _⟩ := stF_zero (xs := xs) (l := mOfH xs ys n) (by rw [e1])
      rw [HLE.out] at z2
      rw [← HZ.out]; exact (hf_good z2).2.1
    clear hL hz hsm hmk
    go_wp2_with (go_at_call 15; refine hma.mono ?_)
    rintro e w3 ⟨a3, c3, rfl, hb3, hk3⟩
    have hb3 := hb2.trans (hb3.mono hb2.size)
    have SA3 : Hid (Strs w3 aa xs) := SA.out.below hb3
    have SB3 : Hid (Strs w3 ba ys) := SB.out.below hb3
    have SL3 : Hid (Hks w3 a3 L) := hk3
    have HB3 : Hid (Below w.heap.size w w3) := hb3
    clear hma hb2 hb3 hk3 SA SB hgc
    by_cases y1 : by' < 0
    · go_wp2
      go_ret
      exact ⟨rfl, HB3.out⟩
    by_cases y2 : 10 < by'
    · go_wp2
      go_ret
      exact ⟨rfl, HB3.out⟩
    by_cases y3 : 60 < (m1 : Int) + m2 + by'
    · go_wp2
      go_ret
      exact ⟨rfl, HB3.out⟩
    obtain ⟨Y, rfl⟩ := Int.eq_ofNat_of_zero_le (show 0 ≤ by' by omega)
    obtain ⟨B, hB⟩ : ∃ B, w3.heap.size = B := ⟨_, rfl⟩
    have HB : Hid (w3.heap.size = B) := hB
    clear hB
    go_wp2
    go_loopw [17, 18] (fun i _ w1 => ∃ k : Nat, k ≤ m1 ∧ i = .int .i64 k ∧ Below B w3 w1 ∧ (∀ p q : Nat, p < k → q < p → xs.getD p ByteArray.empty ≠ xs.getD q ByteArray.empty) ∧ ∀ p : Nat, p < k → xs.getD p ByteArray.empty ≠ ahd) (fun i _ _ => m1 - (intOf i).toNat)
    case atStart => exact ⟨0, Nat.zero_le _, rfl, Below.refl _ _, fun p q hp => absurd hp (Nat.not_lt_zero _), fun p hp => absurd hp (Nat.not_lt_zero _)⟩
    case round =>
      obtain ⟨k, hk, rfl, hbl, hd1, hd2⟩ := hrel
      have HD1 : Hid (∀ p q : Nat, p < k → q < p → xs.getD p ByteArray.empty ≠ xs.getD q ByteArray.empty) := hd1
      have HD2 : Hid (∀ p : Nat, p < k → xs.getD p ByteArray.empty ≠ ahd) := hd2
      clear hd1 hd2
      have hzr : B ≤ wr.heap.size := by have := hbl.size; have := HB.out; omega
      by_cases hlt : k < m1
      · obtain ⟨wa, hwa⟩ : ∃ wa, wa = wr := ⟨_, rfl⟩
        have hba := hbl
        rw [← hwa] at hba
        clear hwa
        go_wp2
        go_loopw [18] (fun i w1 => ∃ t : Nat, t ≤ k ∧ i = .int .i64 t ∧ Below B w3 w1 ∧ ∀ q : Nat, q < t → xs.getD k ByteArray.empty ≠ xs.getD q ByteArray.empty) (fun i _ => k - (intOf i).toNat)
        case atStart => exact ⟨0, Nat.zero_le _, rfl, hbl, fun q hq => absurd hq (Nat.not_lt_zero _)⟩
        case round =>
          obtain ⟨t, ht, rfl, hbt, hne⟩ := hrel
          have HNE : Hid (∀ q : Nat, q < t → xs.getD k ByteArray.empty ≠ xs.getD q ByteArray.empty) := hne
          clear hne
          have hb' : Below w3.heap.size w3 wr := by rw [HB.out]; exact hbt
          have hA := SA3.out.below hb'
          obtain ⟨b, off, rfl, hc⟩ := Strs.at hA (i := k) (by rw [HM1.out]; exact hlt)
          have hck := hc k (by rw [HM1.out]; exact hlt)
          have HEX : Hid (Below w.heap.size w wr) := HB3.out.trans (hb'.mono HB3.out.size)
          by_cases hlt2 : t < k
          · have hct := hc t (by rw [HM1.out]; omega)
            clear hc hA hb'
            obtain ⟨x, hx⟩ : ∃ x, xs.getD k ByteArray.empty = x := ⟨_, rfl⟩
            obtain ⟨y, hy⟩ : ∃ y, xs.getD t ByteArray.empty = y := ⟨_, rfl⟩
            rw [hx] at hck
            rw [hy] at hct
            have HX : Hid (xs.getD k ByteArray.empty = x) := hx
            have HY : Hid (xs.getD t ByteArray.empty = y) := hy
            clear hx hy
            by_cases he : (x.toList == y.toList) = true
            · go_wp2
              go_quiet (fail)
              go_wp2
              go_ret
              exact ⟨rfl, below_drawn HEX.out⟩
            · have he : (x.toList == y.toList) = false := by simpa using he
              have HNX : Hid (x ≠ y) := bytes_ne he
              go_wp2
              go_quiet (fail)
              go_wp2
              go_roundw
              case rel => exact ⟨t + 1, by omega, by go_num, below_drawn hbt, fun q hq => by
                by_cases e : q = t
                · rw [e, HX.out, HY.out]; exact HNX.out
                · exact HNE.out q (by omega)⟩
              case measure => simp [intOf]; omega
          · obtain rfl : t = k := by omega
            clear hc hA hb'
            obtain ⟨x, hx⟩ : ∃ x, xs.getD t ByteArray.empty = x := ⟨_, rfl⟩
            rw [hx] at hck
            have HX : Hid (xs.getD t ByteArray.empty = x) := hx
            clear hx
            by_cases he : (x.toList == ahd.toList) = true
            · rw [ahd_list] at he
              go_wp2
              go_ret
              exact ⟨rfl, HEX.out⟩
            · have he : (x.toList == ahd.toList) = false := by simpa using he
              have HNX : Hid (x ≠ ahd) := bytes_ne he
              rw [ahd_list] at he
              go_wp2
              go_roundw
              case rel => exact ⟨t + 1, by omega, by go_num, hbt, fun p q hp hq => by
                by_cases e : p = t
                · rw [e]; exact HNE.out q (by omega)
                · exact HD1.out p q (by omega) hq, fun p hp => by
                by_cases e : p = t
                · rw [e, HX.out]; exact HNX.out
                · exact HD2.out p (by omega)⟩
              case measure => simp [intOf]; omega
      · obtain rfl : k = m1 := by omega
        clear hlt hk
        have HBK : Hid (Below B w3 wr) := hbl
        go_wp2
        go_loopw [19, 20] (fun i _ w1 => ∃ j : Nat, j ≤ m2 ∧ i = .int .i64 j ∧ Below B w3 w1) (fun i _ _ => m2 - (intOf i).toNat)
        case atStart => exact ⟨0, Nat.zero_le _, rfl, HBK.out⟩
        case round =>
          clear HBK hbl hzr
          obtain ⟨j, hj, rfl, hbl⟩ := hrel
          have hb' : Below w3.heap.size w3 wr := by rw [HB.out]; exact hbl
          have HEX : Hid (Below w.heap.size w wr) := HB3.out.trans (hb'.mono HB3.out.size)
          by_cases hlt : j < m2
          · have hA := SB3.out.below hb'
            obtain ⟨b, off, rfl, hc⟩ := Strs.at hA (i := j) (by rw [HM2.out]; exact hlt)
            have hck := hc j (by rw [HM2.out]; exact hlt)
            obtain ⟨x, hx⟩ : ∃ x, ys.getD j ByteArray.empty = x := ⟨_, rfl⟩
            rw [hx] at hck
            clear hc hA hb' hx
            by_cases he : (x.toList == ahd.toList) = true
            · rw [ahd_list] at he
              go_wp2
              go_ret
              exact ⟨rfl, HEX.out⟩
            · have he : (x.toList == ahd.toList) = false := by simpa using he
              rw [ahd_list] at he
              go_wp2
              go_loopw [20] (fun i w1 => ∃ t : Nat, t ≤ j ∧ i = .int .i64 t ∧ Below B w3 w1) (fun i _ => j - (intOf i).toNat)
              case atStart => exact ⟨0, Nat.zero_le _, rfl, hbl⟩
              case round =>
                clear hck he
                obtain ⟨t, ht, rfl, hbt⟩ := hrel
                have hb' : Below w3.heap.size w3 wr := by rw [HB.out]; exact hbt
                have HEX : Hid (Below w.heap.size w wr) := HB3.out.trans (hb'.mono HB3.out.size)
                by_cases hlt2 : t < j
                · have hA := SB3.out.below hb'
                  obtain ⟨b2, off2, e2, hc⟩ := Strs.at hA (i := j) (by rw [HM2.out]; exact hlt)
                  simp only [Option.some.injEq, Addr.mk.injEq] at e2
                  obtain ⟨rfl, rfl, _⟩ := e2
                  have hck := hc j (by rw [HM2.out]; exact hlt)
                  have hct := hc t (by rw [HM2.out]; omega)
                  obtain ⟨x, hx⟩ : ∃ x, ys.getD j ByteArray.empty = x := ⟨_, rfl⟩
                  obtain ⟨y, hy⟩ : ∃ y, ys.getD t ByteArray.empty = y := ⟨_, rfl⟩
                  rw [hx] at hck
                  rw [hy] at hct
                  clear hc hA hb' hx hy
                  by_cases he : (x.toList == y.toList) = true
                  · go_wp2
                    go_quiet (fail)
                    go_wp2
                    go_ret
                    exact ⟨rfl, below_drawn HEX.out⟩
                  · have he : (x.toList == y.toList) = false := by simpa using he
                    go_wp2
                    go_quiet (fail)
                    go_wp2
                    go_roundw
                    case rel => exact ⟨t + 1, by omega, by go_num, below_drawn hbt⟩
                    case measure => simp [intOf]; omega
                · clear hb'
                  go_wp2
                  go_roundw
                  case rel => exact ⟨j + 1, by omega, by go_num, hbt⟩
                  case measure => simp [intOf]; omega
          · obtain rfl : j = m2 := by omega
            have HBJ : Hid (Below B w3 wr) := hbl
            have HONE : Hid (∀ x ∈ L, sf x.2.2 = 0) := fun x hx => by
              obtain ⟨e1, _⟩ := stF_make HMK.out
              obtain ⟨_, z2, _, _⟩ := stF_zero (xs := xs) (l := mOfH xs ys n) (by rw [e1])
              rw [HLE.out] at z2
              exact ((hf_good z2).2.2 x hx).1
            clear hb' hlt hj
            go_wp2
            go_loopw [21] (fun i w1 => ∃ p : Nat, p ≤ z ∧ i = .int .i64 p ∧ Below B w3 w1 ∧ ∀ q : Nat, q < p → 0 < (lessOf 43 (L.getD q (0, 0, [])).2.2).length) (fun i _ => z - (intOf i).toNat)
            case atStart => exact ⟨0, Nat.zero_le _, rfl, HBJ.out, fun q hq => absurd hq (Nat.not_lt_zero _)⟩
            case round =>
              clear HBJ hbl HEX
              obtain ⟨p, hp, rfl, hbl, hpos⟩ := hrel
              have HPOS : Hid (∀ q : Nat, q < p → 0 < (lessOf 43 (L.getD q (0, 0, [])).2.2).length) := hpos
              clear hpos
              have hb' : Below w3.heap.size w3 wr := by rw [HB.out]; exact hbl
              have hzr : B ≤ wr.heap.size := by have := hbl.size; have := HB.out; omega
              by_cases hlt : p < z
              · have hpl : p < L.length := by rw [HZ.out]; exact hlt
                have hl := SL3.out
                obtain ⟨b, off, am, cm, rfl, _, _, hc3, hmk⟩ := hl.at hpl
                clear hl
                replace hc3 := cell_later hb' hc3
                have o1 := HONE.out _ (hk_mem hpl)
                have hol := oldOf am (L.getD p (0, 0, [])).2.2 cm wr (hmk.below hb') o1
                obtain ⟨q, hq⟩ : ∃ q, (L.getD p (0, 0, [])).2.2.length = q := ⟨_, rfl⟩
                obtain ⟨x, hx⟩ : ∃ x, (lessOf 43 (L.getD p (0, 0, [])).2.2).length = x := ⟨_, rfl⟩
                have HX : Hid ((lessOf 43 (L.getD p (0, 0, [])).2.2).length = x) := hx
                rw [hq] at hc3 hol
                rw [hx] at hol
                have hx120 : x ≤ 120 := by
                  have h1 := lessOf_len 43 (L.getD p (0, 0, [])).2.2
                  have h2 := (sf_zero o1).1
                  omega
                have HEX : Hid (Below w.heap.size w wr) := HB3.out.trans (hb'.mono HB3.out.size)
                clear hmk o1 hq hx hb' hpl
                by_cases hx0 : x = 0
                · subst hx0
                  go_wp2_with (go_at_call 19; refine hol.mono ?_; rintro e w5 ⟨a5, c5, rfl, _, hb5⟩)
                  go_ret
                  exact ⟨rfl, HEX.out.trans (hb5.mono HEX.out.size)⟩
                · have hx0' : ((x : Int) == 0) = false := by simpa using hx0
                  go_wp2_with (go_at_call 19; refine hol.mono ?_; rintro e w5 ⟨a5, c5, rfl, _, hb5⟩)
                  go_roundw
                  case rel => exact ⟨p + 1, by omega, by go_num, hbl.trans (hb5.mono hzr), fun q hq => by
                    by_cases e : q = p
                    · rw [e, HX.out]; omega
                    · exact HPOS.out q (by omega)⟩
                  case measure => simp [intOf]; omega
              · obtain rfl : p = z := by omega
                have HBP : Hid (Below B w3 wr) := hbl
                have HFIT : Hid (lcF (List.replicate Y ahd ++ xs) L 0 Y = 0 ∧ lsR (List.replicate Y ahd ++ xs) L 0 Y = ⟨List.replicate Y ahd ++ ys, eS (List.replicate Y ahd) xs L L.length, sh L, [], List.replicate L.length (Y : Int)⟩) := by
                  have h := moves_fits (by' := Y) HMK.out (by omega) (by rw [HM1.out, HM2.out]; omega) (fun i j hi hj e => by
                    rcases Nat.lt_trichotomy i j with h | h | h
                    · exact absurd e.symm (HD1.out j i (by rw [← HM1.out]; exact hj) h)
                    · exact h
                    · exact absurd e (HD1.out i j (by rw [← HM1.out]; exact hi) h)) (fun y hy => by
                    obtain ⟨i, hi, rfl⟩ := List.mem_iff_getElem.1 hy
                    have := HD2.out i (by rw [← HM1.out]; exact hi)
                    have e : xs.getD i ByteArray.empty = xs[i] := by simp [hi]
                    rw [e] at this
                    exact fun e2 => this e2.symm) (fun h hh => by
                    rw [HLE.out] at hh
                    obtain ⟨i, hi, rfl⟩ := List.mem_iff_getElem.1 hh
                    have := HPOS.out i (by rw [← HZ.out]; exact hi)
                    have e : L.getD i (0, 0, []) = L[i] := by simp [hi]
                    rw [e] at this
                    exact this)
                  rw [HLE.out] at h
                  exact h
                clear hb' hlt hp HPOS HD1 HD2 HONE
                obtain ⟨i0, hi0, hz0, hz1, hz2⟩ := info_parts Try.info9
                go_wp2
                go_loopw [22, 24] (fun v i w1 => ∃ c : Nat, c ≤ Y ∧ i = .int .i64 c ∧ Below B w3 w1 ∧ w1.ownsRow B 9 1 v c ((List.replicate c ahd).map Value.string)) (fun _ i _ => Y - (intOf i).toNat)
                case atStart => exact ⟨0, Nat.zero_le _, rfl, HBP.out, World.ownsRow_nil _ _ _ _⟩
                case round =>
                  clear HBP hbl hzr
                  obtain ⟨c, hc, rfl, hbl, hown⟩ := hrel
                  have hzr : B ≤ wr.heap.size := by have := hbl.size; have := HB.out; omega
                  by_cases hlt : c < Y
                  · go_wp2_with (at_builtin; refine wpList_append_own_at _ rfl _ _ 39 rfl B 9 i0 (.string ByteArray.empty) 1 16 Try.underlying39 hi0 hz0 hz1 hz2 rfl (by decide) _ _ _ rfl (hown.alloc _) ⟨wr.heap.size, 0, none⟩ 1 1 [.string ⟨#[97, 104, 101, 97, 100]⟩] rfl rfl (cell_one_new _ _ _) (fun x hx => by simp at hx; subst hx; rfl) (by unfold maxLen; omega) (by omega) (by simp; omega) ?_; intro v' w9 hown' hgrow9 hnil9 hat9)
                    go_roundw
                    case rel =>
                      refine ⟨c + 1, by omega, by go_num, ?_, ?_⟩
                      · exact (hbl.alloc (by omega) _).grown hgrow9 (by simp; omega) (fun j hj => (hown.lt j hj).1)
                      · rw [List.replicate_succ', List.map_append]; exact hown'
                    case measure => simp [intOf]; omega
                  · obtain rfl : c = Y := by omega
                    have hrl : (List.replicate c ahd).length = c := List.length_replicate
                    have hfit := HFIT.out
                    obtain ⟨R, hR⟩ : ∃ R, List.replicate c ahd = R := ⟨_, rfl⟩
                    rw [hR] at hrl hown hfit
                    have hown2 := hown
                    have hown3 : wr.ownsRow B 9 1 u22 R.length (R.map Value.string) := by rw [hrl]; exact hown
                    obtain ⟨a6, c6, e6, hs6, _⟩ := strs_of_own_cap hown3
                    rw [hrl] at e6
                    subst e6
                    have hb' : Below w3.heap.size w3 wr := by rw [HB.out]; exact hbl
                    have HS6 : Hid (Strs wr a6 R) := hs6
                    have HRL : Hid (R.length = c) := hrl
                    have HO6 : Hid (wr.ownsRow B 9 1 (.slice a6 c c6) c (R.map Value.string)) := hown
                    have HFT : Hid (lcF (R ++ xs) L 0 c = 0 ∧ lsR (R ++ xs) L 0 c = ⟨R ++ ys, eS R xs L L.length, sh L, [], List.replicate L.length (c : Int)⟩) := hfit
                    clear hown2 hown3 hs6 hrl hown hlt hc hfit HFIT hR
                    go_wp2_with (at_builtin; refine append_strs rfl _ _ rfl B (.slice none 0 0) 0 [] rfl (World.ownsRow_nil _ _ _ _) a6 R c c6 HRL.out rfl HS6.out (by omega) hzr ?_)
                    intro v7 w7 hown7 hgrow7 hat7
                    have hO7 := HO6.out.kept hgrow7 (by
                      cases h : (Value.slice a6 c c6).ownBlock with
                      | none => exact .inl rfl
                      | some g => exact .inr (by simp [Value.ownBlock]))
                    have hb7 := hbl.grown hgrow7 hzr (fun k hk => by simp [Value.ownBlock] at hk)
                    have hz7 := hgrow7.size
                    have hlt6 : ∀ g, (Value.slice a6 c c6).ownBlock = some g → g < wr.heap.size := fun g hg => (HO6.out.lt g hg).2
                    have hap7 : ∀ g, v7.ownBlock = some g → g = wr.heap.size := fun g hg => by
                      rcases hat7 with h | h
                      · rw [h] at hg; simp [Value.ownBlock] at hg
                      · rw [h] at hg; exact (Option.some.inj hg).symm
                    have hs7 := SB3.out.below (by rw [HB.out]; exact hb7)
                    have hzB7 : B ≤ w7.heap.size := by omega
                    have HO7 : Hid (w7.ownsRow B 9 1 (.slice a6 c c6) c (R.map Value.string)) := hO7
                    have HV7 : Hid (w7.ownsRow B 9 1 v7 c (R.map Value.string)) := hown7
                    have HS7 : Hid (Strs w7 ba ys) := hs7
                    have HAP7 : Hid (∀ g, v7.ownBlock = some g → g = wr.heap.size) := hap7
                    have HLT6 : Hid (∀ g, (Value.slice a6 c c6).ownBlock = some g → g < wr.heap.size) := hlt6
                    clear hO7 hown7 hs7 hap7 hlt6 hgrow7 hat7 hbl hb' HO6 HS6
                    go_wp2_with (at_builtin; refine append_strs rfl _ _ rfl B v7 c (R.map Value.string) rfl HV7.out ba ys j cb HM2.out rfl HS7.out (by omega) hzB7 ?_)
                    intro v8 w8 hown8 hgrow8 hat8
                    have hO8 := HO7.out.kept hgrow8 (by
                      cases h : (Value.slice a6 c c6).ownBlock with
                      | none => exact .inl rfl
                      | some g => exact .inr (fun e => by have h1 := HLT6.out g h; have h2 := HAP7.out g e.symm; omega))
                    have hb8 := hb7.grown hgrow8 hzB7 (fun k hk => (HV7.out.lt k hk).1)
                    have hz8 := hgrow8.size
                    have hap8 : ∀ g, v8.ownBlock = some g → wr.heap.size ≤ g := fun g hg => by
                      rcases hat8 with h | h
                      · rw [h] at hg; have := HAP7.out g hg; omega
                      · rw [h] at hg; have := (Option.some.inj hg).symm; omega
                    have hs8 := SA3.out.below (by rw [HB.out]; exact hb8)
                    have hzB8 : B ≤ w8.heap.size := by omega
                    have HO8 : Hid (w8.ownsRow B 9 1 (.slice a6 c c6) c (R.map Value.string)) := hO8
                    have HV8 : Hid (w8.ownsRow B 9 1 v8 (c + j) (R.map Value.string ++ ys.map Value.string)) := hown8
                    have HS8 : Hid (Strs w8 aa xs) := hs8
                    have HAP8 : Hid (∀ g, v8.ownBlock = some g → wr.heap.size ≤ g) := hap8
                    clear hO8 hown8 hs8 hap8 hgrow8 hat8 hb7 HO7 HV7 HS7 HAP7
                    go_wp2_with (at_builtin; refine append_strs rfl _ _ rfl B (.slice a6 c c6) c (R.map Value.string) rfl HO8.out aa xs k ca HM1.out rfl HS8.out (by omega) hzB8 ?_)
                    intro v9 w9 hown9 hgrow9 hat9
                    have hV9 := HV8.out.kept hgrow9 (by
                      cases h : v8.ownBlock with
                      | none => exact .inl rfl
                      | some g => exact .inr (fun e => by have h1 := HLT6.out g e.symm; have h2 := HAP8.out g h; omega))
                    have hb9 := hb8.grown hgrow9 hzB8 (fun k hk => (HO8.out.lt k hk).1)
                    have e9 : (R ++ xs).length = c + k := by rw [List.length_append, HRL.out, HM1.out]
                    have e8 : (R ++ ys).length = c + j := by rw [List.length_append, HRL.out, HM2.out]
                    have hO9 : w9.ownsRow B 9 1 v9 (R ++ xs).length ((R ++ xs).map Value.string) := by rw [e9, List.map_append]; exact hown9
                    have hW9 : w9.ownsRow B 9 1 v8 (R ++ ys).length ((R ++ ys).map Value.string) := by rw [e8, List.map_append]; exact hV9
                    obtain ⟨ax, cx, rfl, hsx, hcx⟩ := strs_of_own_cap hO9
                    obtain ⟨ay, cy, rfl, hsy, _⟩ := strs_of_own_cap hW9
                    have hb9' : Below w3.heap.size w3 w9 := by rw [HB.out]; exact hb9
                    have hlo := looseAny ax a3 (R ++ xs) L cx c3 0 c w9 hsx (SL3.out.below hb9') (by rw [e9]; unfold maxLen; omega) HSM.out.1 HSM.out.2 hcx
                    obtain ⟨f1, f2⟩ := HFT.out
                    rw [f1, f2, errV_zero, HZ.out, e9] at hlo
                    dsimp only at hlo
                    rw [List.length_replicate, List.length_nil, e8] at hlo
                    rw [e9, e8]
                    have HSY : Hid (Strs w9 ay (R ++ ys)) := hsy
                    have HE8 : Hid ((R ++ ys).length = c + j) := e8
                    have HB9 : Hid (Below w.heap.size w w9) := HB3.out.trans (hb9'.mono HB3.out.size)
                    clear hO9 hW9 hown9 hV9 hsx hsy hcx f1 f2 e9 e8 HFT hgrow9 hat9 hb9 hb9' hb8 HO8 HV8 HS8 HAP8 HLT6
                    go_wp2_with (go_at_call 16; refine hlo.mono ?_)
                    rintro e w10 ⟨a10, c10, b10, cb10, g10, cg10, rfl, hb10, hs10, _, hi10⟩
                    have htx := texts_eq a10 ay (R ++ ys) c10 cy w10 hs10 (HSY.out.below hb10) (by rw [HE8.out]; unfold maxLen; omega)
                    rw [HE8.out] at htx
                    have hb11 := HB9.out.trans (hb10.mono HB9.out.size)
                    clear hlo HSY hs10 hb10
                    go_wp2_with (go_at_call 14; refine htx.mono ?_)
                    rintro e w12 ⟨rfl, hb12⟩
                    have HI : Hid (Ints w12 g10 (List.replicate p (c : Int))) := hi10.below hb12
                    have hb13 := hb11.trans (hb12.mono hb11.size)
                    clear htx hb11 hb12 hi10
                    go_wp2
                    go_loop [28] (fun i => ∃ d : Nat, d ≤ p ∧ i = .int .i64 d) (fun i => p - (intOf i).toNat)
                    case atStart => exact ⟨0, Nat.zero_le _, rfl⟩
                    case round =>
                      obtain ⟨d, hd, rfl⟩ := hrel
                      by_cases hlt : d < p
                      · have hi := HI.out
                        obtain ⟨b, off, rfl, hcell⟩ := hi d (by rw [List.length_replicate]; exact hlt)
                        have e : (List.replicate p (c : Int)).getD d 0 = c := by simp [hlt]
                        rw [e] at hcell
                        clear hi e
                        go_wp2
                        go_round
                        case rel => exact ⟨d + 1, by omega, by go_num⟩
                        case measure => simp [intOf]; omega
                      · go_wp2
                        go_ret
                        exact ⟨rfl, hb13⟩
  · rw [errV_not hmk] at hma
    obtain ⟨f, hf'⟩ : ∃ f, mkf xs ys n = f := ⟨_, rfl⟩
    rw [hf'] at hma
    clear hf' hmk
    go_wp2_with (go_at_call 15; refine hma.mono ?_)
    rintro e w3 ⟨a3, c3, rfl, hb3, hk3⟩
    have hb3 := hb2.trans (hb3.mono hb2.size)
    clear hma hb2 hgc
    go_wp2
    go_ret
    exact ⟨rfl, hb3⟩

end Go.Proofs.Ythcgbbfejdkgaab
