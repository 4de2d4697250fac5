/-
  Walk of the document's MailOf at a text whose head is a mail's.
-/
import Derived.Test.YtppmpofdhkgjmafDoorRmf

namespace Go.Proofs.YtppmpofdhkgjmafDoor
open Go.RowKit Dist

set_option maxRecDepth 100000 in
set_option maxHeartbeats 4000000 in
theorem mailOf_good (s : ByteArray) (hs : s.size ≤ 400000) (w : World) (h : 5 ≤ (parts 10 s.data.toList).1.length)
    (hgood : mhd (((parts 10 s.data.toList).1).getD 0 []) (((parts 10 s.data.toList).1).getD 1 []) (((parts 10 s.data.toList).1).getD 2 []) (((parts 10 s.data.toList).1).getD 3 []) (((parts 10 s.data.toList).1).getD 4 [])) :
    Calls Tryd.prog 20 #[.string s] w fun e w' => MoPost w (mof s.data.toList) e w' := by
  have hb := below_alloc w (.cells #[.string ⟨#[]⟩, .string ⟨#[]⟩, .string ⟨#[]⟩, .slice none 0 0] 51)
  have hblk := heap_alloc_new w (.cells #[.string ⟨#[]⟩, .string ⟨#[]⟩, .string ⟨#[]⟩, .slice none 0 0] 51)
  have hsz : w.heap.size < (w.alloc (.cells #[.string ⟨#[]⟩, .string ⟨#[]⟩, .string ⟨#[]⟩, .slice none 0 0] 51)).heap.size := by simp
  have hp := partsOf s (w.alloc (.cells #[.string ⟨#[]⟩, .string ⟨#[]⟩, .string ⟨#[]⟩, .slice none 0 0] 51)) (by omega)
  have HB : Hid (Below w.heap.size w (w.alloc (.cells #[.string ⟨#[]⟩, .string ⟨#[]⟩, .string ⟨#[]⟩, .slice none 0 0] 51))) := hb
  have HGD : Hid _ := hgood
  clear hb hgood
  go_enter Tryd.func20, Tryd.ntmps20
  go_wp2_with fail
  refine hp.mono ?_
  clear hp
  rintro e w1 ⟨g, cap, ps, rfl, _, hps, hb1, hst⟩
  have hpl : ps.length = (parts 10 s.data.toList).1.length + 1 := by
    have := congrArg List.length hps
    rw [bts_length, List.length_append] at this
    simpa using this
  have hg : ∀ k, k < 5 → ((parts 10 s.data.toList).1).getD k [] = (ps.getD k ByteArray.empty).data.toList := fun k hk => by
    rw [← bts_getD, hps, List.getD_eq_getElem?_getD, List.getD_eq_getElem?_getD, List.getElem?_append_left (by omega)]
  have hgood := HGD.out
  rw [hg 0 (by omega), hg 1 (by omega), hg 2 (by omega), hg 3 (by omega), hg 4 (by omega)] at hgood
  have HM := mof_lines (z := (parts 10 s.data.toList).2) hps (by rw [bts_length]; omega)
  rw [bts_getD, bts_getD, bts_getD, bts_getD, bts_getD, if_pos hgood] at HM
  have hat := Nat.le_trans (joinC_five 10 _ h) (parts_le s.data.toList)
  rw [hg 0 (by omega), hg 1 (by omega), hg 2 (by omega), hg 3 (by omega), hg 4 (by omega)] at hat
  have k0 := strs_at hst 0 (by omega)
  have k1 := strs_at hst 1 (by omega)
  have k2 := strs_at hst 2 (by omega)
  have k3 := strs_at hst 3 (by omega)
  have k4 := strs_at hst 4 (by omega)
  have hl : ¬ (ps.length : Int) < 6 := by omega
  have hl1 : (1 : Int) < (ps.length : Int) := by omega
  have hl4 : (4 : Int) < (ps.length : Int) := by omega
  have hl3 : (3 : Int) < (ps.length : Int) := by omega
  have hl2 : (2 : Int) < (ps.length : Int) := by omega
  have hl0 : (0 : Int) < (ps.length : Int) := by omega
  generalize ps.getD 0 ByteArray.empty = p0 at k0 hgood HM hat
  generalize ps.getD 1 ByteArray.empty = p1 at k1 hgood HM hat
  generalize ps.getD 2 ByteArray.empty = p2 at k2 hgood HM hat
  generalize ps.getD 3 ByteArray.empty = p3 at k3 hgood HM hat
  generalize ps.getD 4 ByteArray.empty = p4 at k4 hgood HM hat
  obtain ⟨n, hn⟩ : ∃ n, ps.length = n := ⟨_, rfl⟩
  rw [hn] at hl hl0 hl1 hl2 hl3 hl4 ⊢
  have hblk1 := blk_below hb1 hsz hblk
  have HB1 : Hid (Below w.heap.size w w1) := HB.out.trans (hb1.mono HB.out.size)
  have hw1 : w.heap.size < w1.heap.size := Nat.lt_of_lt_of_le hsz hb1.size
  rw [← Lib.size_eq, ← Lib.size_eq, ← Lib.size_eq, ← Lib.size_eq, ← Lib.size_eq, ← Lib.size_eq] at hat
  rw [← Lib.size_eq, ← Lib.size_eq, ← Lib.size_eq, ← Lib.size_eq] at HM
  obtain ⟨g0, g1, g2, g3, g4, g5, g6⟩ := hgood
  have e6 : 6 ≤ p0.size := by have := congrArg List.length g0; rw [List.length_take, ← Lib.size_eq] at this; have : kF.length = 6 := rfl; omega
  have e9 : 9 ≤ p1.size := by have := congrArg List.length g1; rw [List.length_take, ← Lib.size_eq] at this; have : kS.length = 9 := rfl; omega
  have e14 : 14 ≤ p2.size := by rw [Lib.size_eq]; exact g4
  have e0 : p4.size = 0 := by rw [Lib.size_eq, g6]; rfl
  have t1 : ¬ (p2.size : Int) < 14 := by omega
  have t2 : p3.toList = [67, 111, 110, 116, 101, 110, 116, 45, 84, 114, 97, 110, 115, 102, 101, 114, 45, 69, 110, 99, 111, 100, 105, 110, 103, 58, 32, 98, 97, 115, 101, 54, 52] := by rw [Lib.toList_data]; exact g5
  dsimp only at t2
  have t3 : ¬ (0 : Int) < (p4.size : Int) := by omega
  have s1 : ∀ W, Calls Tryd.prog 48 #[.string p0, .string ⟨#[70, 114, 111, 109, 58, 32]⟩] W fun e w' => e = .returned (.bool true) ∧ w' = W := fun W => by
    have h1 := starts p0 ⟨#[70, 114, 111, 109, 58, 32]⟩ W
    rw [show Lib.hasPrefix p0.data.toList (⟨#[70, 114, 111, 109, 58, 32]⟩ : ByteArray).data.toList = true from (pre_take _ _).trans (decide_eq_true g0)] at h1
    exact h1
  have s2 : ∀ W, Calls Tryd.prog 48 #[.string p1, .string ⟨#[83, 117, 98, 106, 101, 99, 116, 58, 32]⟩] W fun e w' => e = .returned (.bool true) ∧ w' = W := fun W => by
    have h1 := starts p1 ⟨#[83, 117, 98, 106, 101, 99, 116, 58, 32]⟩ W
    rw [show Lib.hasPrefix p1.data.toList (⟨#[83, 117, 98, 106, 101, 99, 116, 58, 32]⟩ : ByteArray).data.toList = true from (pre_take _ _).trans (decide_eq_true g1)] at h1
    exact h1
  have s3 : ∀ W, Calls Tryd.prog 48 #[.string p2, .string ⟨#[77, 101, 115, 115, 97, 103, 101, 45, 73, 68, 58, 32, 60]⟩] W fun e w' => e = .returned (.bool true) ∧ w' = W := fun W => by
    have h1 := starts p2 ⟨#[77, 101, 115, 115, 97, 103, 101, 45, 73, 68, 58, 32, 60]⟩ W
    rw [show Lib.hasPrefix p2.data.toList (⟨#[77, 101, 115, 115, 97, 103, 101, 45, 73, 68, 58, 32, 60]⟩ : ByteArray).data.toList = true from (pre_take _ _).trans (decide_eq_true g2)] at h1
    exact h1
  have s4 : ∀ W, Calls Tryd.prog 49 #[.string p2, .string ⟨#[62]⟩] W fun e w' => e = .returned (.bool true) ∧ w' = W := fun W => by
    have h1 := ends p2 ⟨#[62]⟩ W (by unfold maxLen; omega)
    rw [show Lib.hasSuffix p2.data.toList (⟨#[62]⟩ : ByteArray).data.toList = true from (suf_last _ _).trans (decide_eq_true g3)] at h1
    exact h1
  have HM : Hid _ := HM
  have HBK1 : Hid _ := hblk1
  clear hps h hb1 hblk hblk1 hsz hst hg hpl hn HGD HB g0 g1 g2 g3 g4 g5 g6
  have hz0 : p0.size ≤ 400000 := by omega
  have hz1 : p1.size ≤ 400000 := by omega
  have hz2 : p2.size ≤ 400000 := by omega
  have hz3 : p3.size ≤ 400000 := by omega
  go_wp2_with (first
    | (go_at_call 48; refine (s1 _).mono ?_; clear s1; rintro e w2 ⟨rfl, rfl⟩)
    | (go_at_call 48; refine (s2 _).mono ?_; clear s2; rintro e w2 ⟨rfl, rfl⟩)
    | (go_at_call 48; refine (s3 _).mono ?_; clear s3; rintro e w2 ⟨rfl, rfl⟩)
    | (go_at_call 49; refine (s4 _).mono ?_; clear s4; rintro e w2 ⟨rfl, rfl⟩))
  go_quiet (fail)
  have hbd : Below w2.heap.size w2 (w2.drewN nq) := below_drawn (Below.refl _ _)
  replace k0 := cell_later hbd k0
  replace k1 := cell_later hbd k1
  replace k2 := cell_later hbd k2
  have HBK3 : Hid _ := blk_below hbd hw1 HBK1.out
  have HB3 : Hid (Below w.heap.size w (w2.drewN nq)) := below_drawn HB1.out
  have hw3 : w.heap.size < (w2.drewN nq).heap.size := Nat.lt_of_lt_of_le hw1 hbd.size
  clear k3 k4 hbd HBK1 HB1 hw1
  generalize w2.drewN nq = w3 at k0 k1 k2 HBK3 HB3 hw3 ⊢
  obtain ⟨AT, hAT⟩ : ∃ AT, p0.size + p1.size + p2.size + p3.size + 5 = AT := ⟨_, rfl⟩
  rw [show ((p0.size : Int) + (p1.size : Int) + (p2.size : Int) + (p3.size : Int) + 5) = (AT : Int) by omega]
  rw [hAT] at HM
  have hA0 : (0 : Int) ≤ (AT : Int) := by omega
  have hA1 : (AT : Int) ≤ (s.size : Int) := by omega
  have HE : Hid ((s.extract AT s.size).data.toList = s.data.toList.drop AT) := by
    show _ = _
    rw [Lib.extract_data, List.take_of_length_le (by rw [List.length_drop, ← Lib.size_eq]; exact Nat.le_refl _)]
  have hby := bytesOfN (s.extract AT s.size) w3
  rw [HE.out] at hby
  have i6 : (6 : Int) ≤ (p0.size : Int) := by omega
  have i9 : (9 : Int) ≤ (p1.size : Int) := by omega
  have i13 : (13 : Int) ≤ (p2.size : Int) - 1 := by omega
  have i14 : (p2.size : Int) - 1 ≤ (p2.size : Int) := by omega
  clear hl hl3 hl4 t1 t2 t3 e0 hat hAT
  cases hx : byo (s.data.toList.drop AT) with
  | none =>
    rw [hx] at hby HM
    go_wp2_with (go_at_call 14; refine hby.mono ?_; rintro e w4 ⟨rfl, hb4⟩)
    replace k0 := cell_later hb4 k0
    replace k1 := cell_later hb4 k1
    replace k2 := cell_later hb4 k2
    have m0 := cell_later (below_alloc w4 (.cells #[.string ⟨#[]⟩, .string ⟨#[]⟩, .string ⟨#[]⟩, .slice none 0 0] 51)) k0
    have m1 := cell_later (below_alloc w4 (.cells #[.string ⟨#[]⟩, .string ⟨#[]⟩, .string ⟨#[]⟩, .slice none 0 0] 51)) k1
    have m2 := cell_later (below_alloc w4 (.cells #[.string ⟨#[]⟩, .string ⟨#[]⟩, .string ⟨#[]⟩, .slice none 0 0] 51)) k2
    clear hby
    go_region
    have hba := below_alloc w4 (.cells #[.string (p0.extract 6 p0.size), .string (p1.extract 9 p1.size), .string (p2.extract 13 (p2.size - 1)), .slice none 0 0] 51)
    have hb5 : Below w4.heap.size w4 ((w4.alloc (.cells #[.string (p0.extract 6 p0.size), .string (p1.extract 9 p1.size), .string (p2.extract 13 (p2.size - 1)), .slice none 0 0] 51)).drew) := hba.trans ⟨rfl, rfl, rfl, Nat.le_refl _, fun _ _ => rfl⟩
    have hd5 := cells4_later (w := w4) (x := .string (p0.extract 6 p0.size)) (y := .string (p1.extract 9 p1.size)) (z := .string (p2.extract 13 (p2.size - 1))) (u := .slice none 0 0) (t := 51) (w1 := ((w4.alloc (.cells #[.string (p0.extract 6 p0.size), .string (p1.extract 9 p1.size), .string (p2.extract 13 (p2.size - 1)), .slice none 0 0] 51)).drew)) ⟨rfl, rfl, rfl, Nat.le_refl _, fun _ _ => rfl⟩
    have hw4 : w.heap.size < w4.heap.size := Nat.lt_of_lt_of_le hw3 hb4.size
    have hbk := blk_below (hb4.trans (hb5.mono hb4.size)) hw3 HBK3.out
    have HB5 : Hid (Below w.heap.size w _) := HB3.out.trans ((hb4.trans (hb5.mono hb4.size)).mono HB3.out.size)
    clear hba m0 m1 m2 k0 k1 k2
    generalize (w4.alloc (.cells #[.string (p0.extract 6 p0.size), .string (p1.extract 9 p1.size), .string (p2.extract 13 (p2.size - 1)), .slice none 0 0] 51)).drew = w5 at hb5 hbk HB5 hd5 ⊢
    obtain ⟨u1, u2, u3⟩ := put_four (x := .string ⟨#[]⟩) (y := .string ⟨#[]⟩) (z := .string ⟨#[]⟩) (u := .slice none 0 0) hbk HB5.out
    have c0 := Lib.cell_of_heap hbk 0
    have c1 := Lib.cell_of_heap hbk 1
    have c2 := Lib.cell_of_heap hbk 2
    have c3 := Lib.cell_of_heap hbk 3
    have f0 := Lib.frozen_of_heap hbk 0
    have f1 := Lib.frozen_of_heap hbk 1
    have f2 := Lib.frozen_of_heap hbk 2
    have f3 := Lib.frozen_of_heap hbk 3
    have q0 := Lib.cell_of_heap u1 0
    have q1 := Lib.cell_of_heap u1 1
    have q2 := Lib.cell_of_heap u1 2
    have q3 := Lib.cell_of_heap u1 3
    simp at c0 c1 c2 c3 q0 q1 q2 q3
    replace u3 : Hid _ := u3
    replace q0 : Hid _ := q0
    replace q1 : Hid _ := q1
    replace q2 : Hid _ := q2
    replace q3 : Hid _ := q3
    clear hbk u1 u2 hb5 hd5 hb4 hw4
    go_wp2
    rw [HM.out]
    refine bodyPost_ret (v := .tuple #[.agg #[.string ⟨#[]⟩, .string ⟨#[]⟩, .string ⟨#[]⟩, .slice none 0 0], .int .i64 5]) (by simp [results, Tryd.results20, go_sem, q0.out, q1.out, q2.out, q3.out]) rfl ⟨rfl, u3.out⟩
  | some b =>
    rw [hx] at hby HM
    go_wp2_with (go_at_call 14; refine hby.mono ?_; rintro e w4 ⟨a4, c4, rfl, hy4, hn4, hb4⟩)
    replace k0 := cell_later hb4 k0
    replace k1 := cell_later hb4 k1
    replace k2 := cell_later hb4 k2
    have m0 := cell_later (below_alloc w4 (.cells #[.string ⟨#[]⟩, .string ⟨#[]⟩, .string ⟨#[]⟩, .slice none 0 0] 51)) k0
    have m1 := cell_later (below_alloc w4 (.cells #[.string ⟨#[]⟩, .string ⟨#[]⟩, .string ⟨#[]⟩, .slice none 0 0] 51)) k1
    have m2 := cell_later (below_alloc w4 (.cells #[.string ⟨#[]⟩, .string ⟨#[]⟩, .string ⟨#[]⟩, .slice none 0 0] 51)) k2
    clear hby
    go_region
    have hba := below_alloc w4 (.cells #[.string (p0.extract 6 p0.size), .string (p1.extract 9 p1.size), .string (p2.extract 13 (p2.size - 1)), .slice a4 b.length c4] 51)
    have hb5 : Below w4.heap.size w4 ((w4.alloc (.cells #[.string (p0.extract 6 p0.size), .string (p1.extract 9 p1.size), .string (p2.extract 13 (p2.size - 1)), .slice a4 b.length c4] 51)).drew) := hba.trans ⟨rfl, rfl, rfl, Nat.le_refl _, fun _ _ => rfl⟩
    have hd5 := cells4_later (w := w4) (x := .string (p0.extract 6 p0.size)) (y := .string (p1.extract 9 p1.size)) (z := .string (p2.extract 13 (p2.size - 1))) (u := .slice a4 b.length c4) (t := 51) (w1 := ((w4.alloc (.cells #[.string (p0.extract 6 p0.size), .string (p1.extract 9 p1.size), .string (p2.extract 13 (p2.size - 1)), .slice a4 b.length c4] 51)).drew)) ⟨rfl, rfl, rfl, Nat.le_refl _, fun _ _ => rfl⟩
    have hw4 : w.heap.size < w4.heap.size := Nat.lt_of_lt_of_le hw3 hb4.size
    have hbk := blk_below (hb4.trans (hb5.mono hb4.size)) hw3 HBK3.out
    have HB5 : Hid (Below w.heap.size w _) := HB3.out.trans ((hb4.trans (hb5.mono hb4.size)).mono HB3.out.size)
    clear hba m0 m1 m2 k0 k1 k2
    generalize (w4.alloc (.cells #[.string (p0.extract 6 p0.size), .string (p1.extract 9 p1.size), .string (p2.extract 13 (p2.size - 1)), .slice a4 b.length c4] 51)).drew = w5 at hb5 hbk HB5 hd5 ⊢
    obtain ⟨d0, d1, d2, d3⟩ := hd5
    have HF : Hid ((p0.extract 6 p0.size).data.toList = p0.data.toList.drop 6) := by
      show _ = _
      rw [Lib.extract_data, List.take_of_length_le (by rw [List.length_drop, ← Lib.size_eq]; exact Nat.le_refl _)]
    have HS : Hid ((p1.extract 9 p1.size).data.toList = p1.data.toList.drop 9) := by
      show _ = _
      rw [Lib.extract_data, List.take_of_length_le (by rw [List.length_drop, ← Lib.size_eq]; exact Nat.le_refl _)]
    have HD : Hid ((p2.extract 13 (p2.size - 1)).data.toList = (p2.data.toList.drop 13).dropLast) := by
      show _ = _
      rw [Lib.extract_data, List.dropLast_eq_take, List.length_drop, ← Lib.size_eq, show p2.size - 1 - 13 = p2.size - 13 - 1 by omega]
    have HM2 := HM.out
    rw [← HF.out, ← HS.out, ← HD.out] at HM2
    obtain ⟨F, hF⟩ : ∃ F, p0.extract 6 p0.size = F := ⟨_, rfl⟩
    obtain ⟨S, hS⟩ : ∃ S, p1.extract 9 p1.size = S := ⟨_, rfl⟩
    obtain ⟨D, hD⟩ : ∃ D, p2.extract 13 (p2.size - 1) = D := ⟨_, rfl⟩
    rw [hF] at HM2 d0
    rw [hS] at HM2 d1
    rw [hD] at HM2 d2
    try rw [hF]
    try rw [hS]
    try rw [hD]
    have hmf := mailFault F S D b a4 c4 w5
    have hw5 : w.heap.size < w5.heap.size := Nat.lt_of_lt_of_le hw4 hb5.size
    have HY5 : Hid (Bya w5 a4 b c4) := hy4.all hb5
    have HN4 : Hid (Nw w a4) := fun A hA => Nat.le_trans (Nat.le_of_lt hw3) (hn4 A hA)
    have HBK5 : Hid _ := hbk
    by_cases ok : mlOk (mlb (F, S, D, b))
    · rw [mlf_0.2 ok] at hmf
      have HM3 : Hid (mof s.data.toList = some (mlb (F, S, D, b))) := HM2.trans (if_pos ok)
      clear HF HS HD HM HM2 hbk hy4 hn4 hb5 hb4 hw4 hF hS hD ok
      go_wp2_with (go_at_call 16; refine hmf.mono ?_)
      clear hmf
      rintro e w6 ⟨rfl, hb6⟩
      replace d0 := cell_later hb6 d0
      replace d1 := cell_later hb6 d1
      replace d2 := cell_later hb6 d2
      replace d3 := cell_later hb6 d3
      have hbk := blk_below hb6 hw5 HBK5.out
      have HY6 : Hid (Bya w6 a4 b c4) := HY5.out.all hb6
      have HB6 : Hid (Below w.heap.size w w6) := HB5.out.trans (hb6.mono HB5.out.size)
      obtain ⟨u1, u2, u3⟩ := put_four (x := .string F) (y := .string S) (z := .string D) (u := .slice a4 b.length c4) hbk HB6.out
      have c0 := Lib.cell_of_heap hbk 0
      have c1 := Lib.cell_of_heap hbk 1
      have c2 := Lib.cell_of_heap hbk 2
      have c3 := Lib.cell_of_heap hbk 3
      have f0 := Lib.frozen_of_heap hbk 0
      have f1 := Lib.frozen_of_heap hbk 1
      have f2 := Lib.frozen_of_heap hbk 2
      have f3 := Lib.frozen_of_heap hbk 3
      have q0 := Lib.cell_of_heap u1 0
      have q1 := Lib.cell_of_heap u1 1
      have q2 := Lib.cell_of_heap u1 2
      have q3 := Lib.cell_of_heap u1 3
      simp at c0 c1 c2 c3 q0 q1 q2 q3
      replace u3 : Hid _ := u3
      replace q0 : Hid _ := q0
      replace q1 : Hid _ := q1
      replace q2 : Hid _ := q2
      replace q3 : Hid _ := q3
      have HY7 : Hid _ := HY6.out.other hbk u2
      clear hbk u1 u2 hb6
      go_wp2
      rw [HM3.out]
      refine bodyPost_ret (v := .tuple #[.agg #[.string F, .string S, .string D, .slice a4 b.length c4], .int .i64 0]) (by simp [results, Tryd.results20, go_sem, q0.out, q1.out, q2.out, q3.out]) rfl ⟨a4, c4, rfl, HY7.out, HN4.out, u3.out⟩
    · have hne : mlf (mlb (F, S, D, b)) ≠ 0 := fun e => ok (mlf_0.1 e)
      have HM3 : Hid (mof s.data.toList = none) := HM2.trans (if_neg ok)
      obtain ⟨z, hz⟩ : ∃ z, mlf (mlb (F, S, D, b)) = z := ⟨_, rfl⟩
      rw [hz] at hmf hne
      have hne2 : (z != 0) = true := bne_iff_ne.2 hne
      clear HF HS HD HM HM2 hbk hy4 hn4 hb5 hb4 hw4 hF hS hD ok HY5 HN4 hz hne
      go_wp2_with (go_at_call 16; refine hmf.mono ?_)
      clear hmf
      rintro e w6 ⟨rfl, hb6⟩
      have hbk := blk_below hb6 hw5 HBK5.out
      have HB6 : Hid (Below w.heap.size w w6) := HB5.out.trans (hb6.mono HB5.out.size)
      obtain ⟨u1, u2, u3⟩ := put_four (x := .string ⟨#[]⟩) (y := .string ⟨#[]⟩) (z := .string ⟨#[]⟩) (u := .slice none 0 0) hbk HB6.out
      have c0 := Lib.cell_of_heap hbk 0
      have c1 := Lib.cell_of_heap hbk 1
      have c2 := Lib.cell_of_heap hbk 2
      have c3 := Lib.cell_of_heap hbk 3
      have f0 := Lib.frozen_of_heap hbk 0
      have f1 := Lib.frozen_of_heap hbk 1
      have f2 := Lib.frozen_of_heap hbk 2
      have f3 := Lib.frozen_of_heap hbk 3
      have q0 := Lib.cell_of_heap u1 0
      have q1 := Lib.cell_of_heap u1 1
      have q2 := Lib.cell_of_heap u1 2
      have q3 := Lib.cell_of_heap u1 3
      simp at c0 c1 c2 c3 q0 q1 q2 q3
      replace u3 : Hid _ := u3
      replace q0 : Hid _ := q0
      replace q1 : Hid _ := q1
      replace q2 : Hid _ := q2
      replace q3 : Hid _ := q3
      clear hbk u1 u2 hb6
      go_wp2
      rw [HM3.out]
      refine bodyPost_ret (v := .tuple #[.agg #[.string ⟨#[]⟩, .string ⟨#[]⟩, .string ⟨#[]⟩, .slice none 0 0], .int .i64 5]) (by simp [results, Tryd.results20, go_sem, q0.out, q1.out, q2.out, q3.out]) rfl ⟨rfl, u3.out⟩

end Go.Proofs.YtppmpofdhkgjmafDoor
