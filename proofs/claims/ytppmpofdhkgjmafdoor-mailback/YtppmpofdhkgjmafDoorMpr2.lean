/-
  Walk of mail.Parse.
-/
import Derived.Test.YtppmpofdhkgjmafDoorMrp
import Derived.Test.YtppmpofdhkgjmafDoorMpt

namespace Go.Proofs.YtppmpofdhkgjmafDoor
open Go.RowKit Dist

set_option maxRecDepth 100000 in
set_option maxHeartbeats 1000000 in
theorem parseMail (s : ByteArray) (w : World) (hs : s.size ≤ 140737488355328) :
    Calls Tryd.prog 21 #[.string s] w fun e w' => ∃ a cap, e = .returned (.tuple #[.agg #[.string (moM (mof s.data.toList)).1, .string (moM (mof s.data.toList)).2.1, .string (moM (mof s.data.toList)).2.2.1, .slice a (moM (mof s.data.toList)).2.2.2.length cap], errV (moE (mof s.data.toList))]) ∧ Bya w' a (moM (mof s.data.toList)).2.2.2 cap ∧ Below w.heap.size w w' := by
  have hrd := fun W => readMail s hs W
  have hmo := mof_rd s.data.toList
  obtain ⟨M, hM⟩ : ∃ M, mbl (rd s.data.toList) = M := ⟨_, rfl⟩
  have hM2 : rd s.data.toList = mlb M := by rw [← hM, mlb_mbl]
  rw [hM] at hrd
  rw [hM2] at hmo
  obtain ⟨O, hO⟩ : ∃ O, mof s.data.toList = O := ⟨_, rfl⟩
  rw [hO] at hmo ⊢
  obtain ⟨F, S, D, X⟩ := M
  have hpr := fun (a : Option Addr) (c : Nat) (W : World) (h : Bya W a X c) => printMail F S D X a c W h
  have hb1 := below_alloc w (.cells #[.string ⟨#[]⟩, .string ⟨#[]⟩, .string ⟨#[]⟩, .slice none 0 0] 51)
  have g1 := heap_alloc_new w (.cells #[.string ⟨#[]⟩, .string ⟨#[]⟩, .string ⟨#[]⟩, .slice none 0 0] 51)
  have s1 : w.heap.size < (w.alloc (.cells #[.string ⟨#[]⟩, .string ⟨#[]⟩, .string ⟨#[]⟩, .slice none 0 0] 51)).heap.size := by simp
  have HB1 : Hid _ := hb1
  have HG1 : Hid _ := g1
  have hfin : ∀ (w1 w2 w3 : World) (a : Option Addr) (c : Nat), Below w1.heap.size w1 w2 → Bya w2 a X c → Below (w2.alloc (.cells #[.string F, .string S, .string D, .slice a X.length c] 51)).heap.size (w2.alloc (.cells #[.string F, .string S, .string D, .slice a X.length c] 51)) w3 → Below w1.heap.size w1 w3 ∧ Bya w3 a X c ∧ (w3.cell? ⟨w2.heap.size, 0, none⟩ = some (.string F) ∧ w3.cell? ⟨w2.heap.size, 1, none⟩ = some (.string S) ∧ w3.cell? ⟨w2.heap.size, 2, none⟩ = some (.string D) ∧ w3.cell? ⟨w2.heap.size, 3, none⟩ = some (.slice a X.length c)) := by
    intro w1 w2 w3 a c h1 h2 h3
    have h4 := (below_alloc w2 _).trans (h3.mono (below_alloc w2 _).size)
    exact ⟨h1.trans (h4.mono h1.size), h2.all h4, cells4_later h3⟩
  have HF : Hid _ := hfin
  clear hM hM2 hO hs hb1 g1 hfin
  obtain ⟨E, hE⟩ : ∃ E, mlf (mlb (F, S, D, X)) = E := ⟨_, rfl⟩
  obtain ⟨T, hT⟩ : ∃ T, prT (mlb (F, S, D, X)) = T := ⟨_, rfl⟩
  simp only [hE, hT] at hpr
  have ways : (E = 0 ∧ T = s ∧ O = some (mlb (F, S, D, X))) ∨ (E = 0 ∧ T ≠ s ∧ O = none) ∨ (E ≠ 0 ∧ O = none) := by
    by_cases e : E = 0
    · have hok := mlf_0.1 (hE.trans e)
      have hT2 : T.data.toList = mtx (mlb (F, S, D, X)) := by
        rw [← hT, prT, if_pos (hE.trans e)]
      by_cases q : mtx (mlb (F, S, D, X)) = s.data.toList
      · rw [if_pos ⟨hok, q⟩] at hmo
        exact .inl ⟨e, ByteArray.ext (Array.toList_inj.1 (hT2.trans q)), hmo⟩
      · rw [if_neg (fun h => q h.2)] at hmo
        exact .inr (.inl ⟨e, fun h => q (by rw [← hT2, h]), hmo⟩)
    · rw [if_neg (fun h => e (hE.symm.trans (mlf_0.2 h.1)))] at hmo
      exact .inr (.inr ⟨e, hmo⟩)
  clear hmo hE hT
  rcases ways with ⟨rfl, rfl, rfl⟩ | ⟨rfl, hne, rfl⟩ | ⟨he, rfl⟩
  case' inl =>
    have hq : (T.toList == T.toList) = true := beq_self_eq_true _
    have hqn : (T.toList != T.toList) = false := by simp
    rw [errV_zero] at hpr
  case' inr.inl =>
    have hq : (T.toList == s.toList) = false := (Lib.bytes_beq_false_iff T s).2 hne
    rw [errV_zero] at hpr
    clear hne
  case' inr.inr =>
    rw [errV_not he] at hpr
    clear he
  case inl =>
    go_enter Tryd.func21, Tryd.ntmps21
    go_wp2_with (first
      | (go_at_call 50; refine (hrd _).mono ?_; clear hrd; rintro e w2 ⟨a2, c2, rfl, hy2, hn2, hb2⟩; have hpr2 := hpr a2 c2 (w2.alloc (.cells #[.string F, .string S, .string D, .slice a2 X.length c2] 51)) (hy2.all (below_alloc w2 (.cells #[.string F, .string S, .string D, .slice a2 X.length c2] 51))); obtain ⟨d0, d1, d2, d3⟩ := (HF.out _ w2 (w2.alloc (.cells #[.string F, .string S, .string D, .slice a2 X.length c2] 51)) a2 c2 hb2 hy2 (Below.refl _ _)).2.2)
      | (go_at_call 19; refine hpr2.mono ?_; clear hpr2))
    rintro e w3 ⟨rfl, hb3⟩
    obtain ⟨hb13, hy3, d0, d1, d2, d3⟩ := HF.out _ w2 w3 a2 c2 hb2 hy2 hb3
    have hblk := blk_below hb13 s1 HG1.out
    have hB3 := HB1.out.trans (hb13.mono HB1.out.size)
    obtain ⟨u1, u2, u3⟩ := put_four (x := .string F) (y := .string S) (z := .string D) (u := .slice a2 X.length c2) hblk hB3
    have HY : Hid _ := hy3.other hblk u2
    have c0 := Lib.cell_of_heap hblk 0
    have c1 := Lib.cell_of_heap hblk 1
    have c2' := Lib.cell_of_heap hblk 2
    have c3 := Lib.cell_of_heap hblk 3
    have f0 := Lib.frozen_of_heap hblk 0
    have f1 := Lib.frozen_of_heap hblk 1
    have f2 := Lib.frozen_of_heap hblk 2
    have f3 := Lib.frozen_of_heap hblk 3
    have q0 := Lib.cell_of_heap u1 0
    have q1 := Lib.cell_of_heap u1 1
    have q2 := Lib.cell_of_heap u1 2
    have q3 := Lib.cell_of_heap u1 3
    simp at c0 c1 c2' c3 q0 q1 q2 q3
    replace u3 : Hid _ := u3
    clear hb3 hb13 hblk hB3 u1 u2 hy3 hb2 hy2 hn2 s1
    go_wp2
    refine bodyPost_ret (v := .tuple #[.agg #[.string F, .string S, .string D, .slice a2 X.length c2], .nilIface]) (by simp [results, Tryd.results21, go_sem, q0, q1, q2, q3]) rfl ?_
    exact ⟨a2, c2, rfl, HY.out, u3.out⟩
  all_goals
    go_enter Tryd.func21, Tryd.ntmps21
    go_wp2_with (first
      | (go_at_call 50; refine (hrd _).mono ?_; clear hrd; rintro e w2 ⟨a2, c2, rfl, hy2, hn2, hb2⟩; have hpr2 := hpr a2 c2 (w2.alloc (.cells #[.string F, .string S, .string D, .slice a2 X.length c2] 51)) (hy2.all (below_alloc w2 (.cells #[.string F, .string S, .string D, .slice a2 X.length c2] 51))); obtain ⟨d0, d1, d2, d3⟩ := (HF.out _ w2 (w2.alloc (.cells #[.string F, .string S, .string D, .slice a2 X.length c2] 51)) a2 c2 hb2 hy2 (Below.refl _ _)).2.2)
      | (go_at_call 19; refine hpr2.mono ?_; clear hpr2))
    rintro e w3 ⟨rfl, hb3⟩
    obtain ⟨hb13, hy3, d0, d1, d2, d3⟩ := HF.out _ w2 w3 a2 c2 hb2 hy2 hb3
    have hblk := blk_below hb13 s1 HG1.out
    have hB3 := HB1.out.trans (hb13.mono HB1.out.size)
    obtain ⟨u1, u2, u3⟩ := put_four (x := .string ⟨#[]⟩) (y := .string ⟨#[]⟩) (z := .string ⟨#[]⟩) (u := .slice none 0 0) hblk hB3
    have HY : Hid _ := hy3.other hblk u2
    have c0 := Lib.cell_of_heap hblk 0
    have c1 := Lib.cell_of_heap hblk 1
    have c2' := Lib.cell_of_heap hblk 2
    have c3 := Lib.cell_of_heap hblk 3
    have f0 := Lib.frozen_of_heap hblk 0
    have f1 := Lib.frozen_of_heap hblk 1
    have f2 := Lib.frozen_of_heap hblk 2
    have f3 := Lib.frozen_of_heap hblk 3
    have q0 := Lib.cell_of_heap u1 0
    have q1 := Lib.cell_of_heap u1 1
    have q2 := Lib.cell_of_heap u1 2
    have q3 := Lib.cell_of_heap u1 3
    simp at c0 c1 c2' c3 q0 q1 q2 q3
    replace u3 : Hid _ := u3
    clear hb3 hb13 hblk hB3 u1 u2 hy3 hb2 hy2 hn2 s1
    go_wp2
    refine bodyPost_ret (v := .tuple #[.agg #[.string ⟨#[]⟩, .string ⟨#[]⟩, .string ⟨#[]⟩, .slice none 0 0], .iface 33 (.int .i64 5)]) (by simp [results, Tryd.results21, go_sem, q0, q1, q2, q3]) rfl ?_
    exact ⟨none, 0, rfl, .inl ⟨rfl, fun _ => rfl⟩, u3.out⟩

end Go.Proofs.YtppmpofdhkgjmafDoor
