/-
  Walks of the reader: isWhole, takeHead.
-/
import Derived.Test.YtjgdicghmkfohacGreatDoorUrw
import Derived.Test.YtjgdicghmkfohacGreatDoorUnm
import Derived.Deep.RegionHeld3
import Derived.Deep.RegionLaw
import Derived.Deep.DrawnRows

namespace Go.Proofs.YtjgdicghmkfohacGreatDoor
open Go.RowKit Dist

attribute [local go_sem] Go.wp_at_zero Go.wp_at_succ

set_option maxHeartbeats 400000 in
theorem isWhole (r : Nat) (v : Value) (b a : Nat) (w : World) (h : Rsb w r v b a) : Calls Tryz.prog 64 #[.pointer (some ⟨r, 0, none⟩)] w fun e w' => e = .returned (.bool (decide (b = 0 ∧ a = 0))) ∧ w' = w := by
  obtain ⟨_, c1, c2, _⟩ := h.cells
  by_cases h1 : b = 0
  · subst h1
    have e : decide (0 = 0 ∧ a = 0) = ((a : Int) == 0) := by rw [Bool.eq_iff_iff]; simp
    rw [e]
    clear e h
    go_enter Tryz.func64, Tryz.ntmps64
    go_wp2
    go_ret
    exact ⟨rfl, rfl⟩
  · have h2 : ((b : Int) == 0) = false := by simpa using h1
    rw [show decide (b = 0 ∧ a = 0) = false by simp [h1]]
    clear h h1
    go_enter Tryz.func64, Tryz.ntmps64
    go_wp2
    go_ret
    exact ⟨rfl, rfl⟩

theorem hdc_flag (a b : Option (Nat × Nat)) : (hdc a b).isSome = (a.isSome && b.isSome) := by
  cases a with
  | none => rfl
  | some x => cases b <;> rfl

/-- What the three cuts of a head answer. -/
theorem head_cuts (s : ByteArray) (w : World) (hg : Gs w) (hsz : s.size ≤ 400000) : ∃ (X1 X2 X3 : Bool) (x1 x2 y1 y2 : List UInt8),
    (Calls Tryz.prog 117 #[.string s, .string ⟨#[64, 64, 32, 45]⟩] w fun e w' => e = .returned (.tuple #[.string ⟨x1.toArray⟩, .bool X1]) ∧ w' = w) ∧
    (Calls Tryz.prog 118 #[.string ⟨x1.toArray⟩, .string ⟨#[32, 64, 64]⟩] w fun e w' => e = .returned (.tuple #[.string ⟨x2.toArray⟩, .bool X2]) ∧ w' = w) ∧
    (Calls Tryz.prog 119 #[.string ⟨x2.toArray⟩, .string ⟨#[32, 43]⟩] w fun e w' => e = .returned (.tuple #[.string ⟨y1.toArray⟩, .string ⟨y2.toArray⟩, .bool X3]) ∧ ∃ n, w' = w.drewN n) ∧
    (X1 && (X2 && X3)) = hfit s.data.toList ∧ (hfit s.data.toList = true → hdo s.data.toList = hdc (spo y1) (spo y2)) ∧ y1.length ≤ 400000 ∧ y2.length ≤ 400000 := by
  have hp1 := Tryz.strings_CutPrefix s ⟨#[64, 64, 32, 45]⟩ w
  rw [show (ByteArray.mk #[64, 64, 32, 45]).data.toList = [64, 64, 32, 45] from rfl] at hp1
  obtain ⟨mm, hmm⟩ := hg.1
  have hl1 : (Lib.trimPrefix s.data.toList [64, 64, 32, 45]).length ≤ 400000 := by
    rw [Lib.size_eq] at hsz
    unfold Lib.trimPrefix
    split
    · rw [List.length_drop]; omega
    · exact hsz
  have hl2 : (hin s.data.toList).length ≤ 400000 := by
    unfold hin Lib.trimSuffix
    split
    · rw [List.length_take]; omega
    · exact hl1
  have hp2 := Tryz.strings_CutSuffix ⟨(Lib.trimPrefix s.data.toList [64, 64, 32, 45]).toArray⟩ ⟨#[32, 64, 64]⟩ w (by rw [Lib.size_eq]; simp; omega)
  rw [show (ByteArray.mk #[32, 64, 64]).data.toList = [32, 64, 64] from rfl, show (ByteArray.mk (Lib.trimPrefix s.data.toList [64, 64, 32, 45]).toArray).data.toList = Lib.trimPrefix s.data.toList [64, 64, 32, 45] by simp] at hp2
  have hp3 := Tryz.strings_Cut ⟨(hin s.data.toList).toArray⟩ ⟨#[32, 43]⟩ mm w (by rw [Lib.size_eq]; simp; omega) hmm
  rw [show (ByteArray.mk #[32, 43]).data.toList = [32, 43] from rfl, show (ByteArray.mk (hin s.data.toList).toArray).data.toList = hin s.data.toList by simp] at hp3
  refine ⟨_, _, _, _, _, _, _, hp1, hp2, hp3, rfl, fun h => ?_, ?_⟩
  · unfold hdo; rw [if_pos h]
  · unfold Lib.cut
    split
    · simp only [List.length_take, List.length_drop]; omega
    · simp; omega

set_option maxRecDepth 100000 in
set_option maxHeartbeats 1000000 in
theorem takeHead_no (B r : Nat) (s : ByteArray) (w : World) (hg : Gs w) (hsz : s.size ≤ 400000) (hf : hfit s.data.toList = false) :
    Calls Tryz.prog 96 #[.pointer (some ⟨r, 0, none⟩), .string s] w fun e w' => e = .returned (.bool false) ∧ Below B w w' := by
  obtain ⟨X1, X2, X3, x1, x2, y1, y2, hp1, hp2, hp3, hx, _⟩ := head_cuts s w hg hsz
  rw [hf] at hx
  have hp3' := hp3.mono (R' := fun e w' => e = .returned (.tuple #[.string ⟨y1.toArray⟩, .string ⟨y2.toArray⟩, .bool X3]) ∧ Below B w w') fun e w' ⟨he, q, hw⟩ => ⟨he, by rw [hw]; exact below_drawn (Below.refl _ _)⟩
  clear hp3 hf hg hsz
  cases X1
  case' true =>
    cases X2
    case' true => cases X3
    case' true.true => simp at hx
  all_goals
    clear hx
    go_enter Tryz.func96, Tryz.ntmps96
    go_wp2_with (go_at_call 117; refine hp1.mono ?_; rintro e w' ⟨rfl, hw⟩; rw [hw])
    clear hp1
    go_wp2_with (go_at_call 118; refine hp2.mono ?_; rintro e w' ⟨rfl, hw⟩; rw [hw])
    clear hp2
    go_wp2_with (go_at_call 119; refine hp3'.mono ?_; rintro e w1 ⟨rfl, hb1⟩)
    go_ret
    exact ⟨rfl, hb1⟩

theorem hdc_none {a b : Option (Nat × Nat)} (h : hdc a b = none) : (a.isSome && b.isSome) = false := by rw [← hdc_flag, h]; rfl

theorem hdc_some {a b : Option (Nat × Nat)} {o n p m : Nat} (h : hdc a b = some (o, n, p, m)) : a = some (o, n) ∧ b = some (p, m) := by
  cases a with
  | none => simp [hdc] at h
  | some x =>
    cases b with
    | none => simp [hdc] at h
    | some y =>
      obtain ⟨x1, x2⟩ := x
      obtain ⟨y1, y2⟩ := y
      simp only [hdc, Option.some.injEq, Prod.mk.injEq] at h
      obtain ⟨rfl, rfl, rfl, rfl⟩ := h
      exact ⟨rfl, rfl⟩

set_option maxRecDepth 100000 in
set_option maxHeartbeats 1000000 in
theorem takeHead_flaw (r : Nat) (s : ByteArray) (w : World) (hg : Gs w) (hsz : s.size ≤ 400000) (hd : hdo s.data.toList = none) :
    Calls Tryz.prog 96 #[.pointer (some ⟨r, 0, none⟩), .string s] w fun e w' => e = .returned (.bool false) ∧ Below w.heap.size w w' := by
  by_cases hf : hfit s.data.toList = true
  case neg => exact takeHead_no w.heap.size r s w hg hsz (by simpa using hf)
  obtain ⟨X1, X2, X3, x1, x2, y1, y2, hp1, hp2, hp3, hx, hdx, hyl1, hyl2⟩ := head_cuts s w hg hsz
  rw [hf] at hx
  simp only [Bool.and_eq_true] at hx
  obtain ⟨rfl, rfl, rfl⟩ := hx
  have hno := hdc_none ((hdx hf).symm.trans hd)
  have hp3' := hp3.mono (R' := fun e w' => e = .returned (.tuple #[.string ⟨y1.toArray⟩, .string ⟨y2.toArray⟩, .bool true]) ∧ Below w.heap.size w w') fun e w' ⟨he, q, hw⟩ => ⟨he, by rw [hw]; exact below_drawn (Below.refl _ _)⟩
  have HG : Hid (Gs w) := hg
  have HS1 : ∀ w', Below w.heap.size w w' → Calls Tryz.prog 120 #[.string ⟨y1.toArray⟩] w' fun e w2 => ∃ n1 m1 : Int, e = .returned (.tuple #[.int .i64 n1, .int .i64 m1, .bool (spo y1).isSome]) ∧ Below w'.heap.size w' w2 := fun w' h => by
    have h1 := parseSpan ⟨y1.toArray⟩ w' (HG.out.below h) (by rw [Lib.size_eq]; simp; omega)
    rw [show (ByteArray.mk y1.toArray).data.toList = y1 by simp] at h1
    exact h1.mono fun e w2 ⟨n1, m1, _, _, _, _, he, _, hb⟩ => ⟨n1, m1, he, hb⟩
  have HS2 : ∀ w', Below w.heap.size w w' → Calls Tryz.prog 120 #[.string ⟨y2.toArray⟩] w' fun e w2 => ∃ n1 m1 : Int, e = .returned (.tuple #[.int .i64 n1, .int .i64 m1, .bool (spo y2).isSome]) ∧ Below w'.heap.size w' w2 := fun w' h => by
    have h1 := parseSpan ⟨y2.toArray⟩ w' (HG.out.below h) (by rw [Lib.size_eq]; simp; omega)
    rw [show (ByteArray.mk y2.toArray).data.toList = y2 by simp] at h1
    exact h1.mono fun e w2 ⟨n1, m1, _, _, _, _, he, _, hb⟩ => ⟨n1, m1, he, hb⟩
  obtain ⟨F1, hF1⟩ : ∃ F, (spo y1).isSome = F := ⟨_, rfl⟩
  obtain ⟨F2, hF2⟩ : ∃ F, (spo y2).isSome = F := ⟨_, rfl⟩
  rw [hF1] at HS1 hno
  rw [hF2] at HS2 hno
  clear hp3 hf hg hsz hd hdx hF1 hF2 hyl1 hyl2
  go_enter Tryz.func96, Tryz.ntmps96
  go_wp2_with (go_at_call 117; refine hp1.mono ?_; rintro e w' ⟨rfl, hw⟩; rw [hw])
  clear hp1
  go_wp2_with (go_at_call 118; refine hp2.mono ?_; rintro e w' ⟨rfl, hw⟩; rw [hw])
  clear hp2
  go_wp2_with (go_at_call 119; refine hp3'.mono ?_)
  rintro e w1 ⟨rfl, hb1⟩
  have hs1 := HS1 w1 hb1
  clear hp3' HS1
  go_wp2_with (go_at_call 120; refine hs1.mono ?_)
  rintro e w2 ⟨n1, m1, rfl, hb2⟩
  have hb2 := hb1.trans (hb2.mono hb1.size)
  have hs2 := HS2 w2 hb2
  clear hs1 HS2 hb1
  go_wp2_with (go_at_call 120; refine hs2.mono ?_)
  rintro e w3 ⟨n2, m2, rfl, hb3⟩
  have hb3 := hb2.trans (hb3.mono hb2.size)
  clear hs2 hb2
  cases F1
  case' true => cases F2
  case' true.true => simp at hno
  all_goals
    clear hno
    go_wp2
    go_ret
    exact ⟨rfl, hb3⟩

set_option maxRecDepth 100000 in
set_option maxHeartbeats 2000000 in
theorem takeHead_good (B r : Nat) (hs : List Uk) (b0 a0 o n p m : Nat) (s : ByteArray) (w : World) (hst : Rst w B r (hs, b0, a0)) (hg : Gs w) (hBw : B ≤ w.heap.size) (hlen : hs.length ≤ 400000) (hsz : s.size ≤ 400000) (hd : hdo s.data.toList = some (o, n, p, m)) :
    Calls Tryz.prog 96 #[.pointer (some ⟨r, 0, none⟩), .string s] w fun e w' => e = .returned (.bool true) ∧ Below B w w' ∧ Rst w' B r (hs ++ [((o : Int), (p : Int), [])], n, m) := by
  have hf : hfit s.data.toList = true := by
    cases h : hfit s.data.toList with
    | true => rfl
    | false => unfold hdo at hd; rw [if_neg (by rw [h]; decide)] at hd; cases hd
  obtain ⟨X1, X2, X3, x1, x2, y1, y2, hp1, hp2, hp3, hx, hdx, hyl1, hyl2⟩ := head_cuts s w hg hsz
  rw [hf] at hx
  simp only [Bool.and_eq_true] at hx
  obtain ⟨rfl, rfl, rfl⟩ := hx
  obtain ⟨hq1, hq2⟩ := hdc_some ((hdx hf).symm.trans hd)
  have hp3' := hp3.mono (R' := fun e w' => e = .returned (.tuple #[.string ⟨y1.toArray⟩, .string ⟨y2.toArray⟩, .bool true]) ∧ Below w.heap.size w w') fun e w' ⟨he, q, hw⟩ => ⟨he, by rw [hw]; exact below_drawn (Below.refl _ _)⟩
  have HG : Hid (Gs w) := hg
  have HS1 : ∀ w', Below w.heap.size w w' → Calls Tryz.prog 120 #[.string ⟨y1.toArray⟩] w' fun e w2 => e = .returned (.tuple #[.int .i64 o, .int .i64 n, .bool true]) ∧ Below w'.heap.size w' w2 := fun w' h => by
    have h1 := parseSpan ⟨y1.toArray⟩ w' (HG.out.below h) (by rw [Lib.size_eq]; simp; omega)
    rw [show (ByteArray.mk y1.toArray).data.toList = y1 by simp] at h1
    refine h1.mono fun e w2 ⟨n1, m1, _, _, _, _, he, hh, hb⟩ => ⟨?_, hb⟩
    obtain ⟨rfl, rfl⟩ := hh _ _ hq1
    rw [he, hq1]; rfl
  have HS2 : ∀ w', Below w.heap.size w w' → Calls Tryz.prog 120 #[.string ⟨y2.toArray⟩] w' fun e w2 => e = .returned (.tuple #[.int .i64 p, .int .i64 m, .bool true]) ∧ Below w'.heap.size w' w2 := fun w' h => by
    have h1 := parseSpan ⟨y2.toArray⟩ w' (HG.out.below h) (by rw [Lib.size_eq]; simp; omega)
    rw [show (ByteArray.mk y2.toArray).data.toList = y2 by simp] at h1
    refine h1.mono fun e w2 ⟨n1, m1, _, _, _, _, he, hh, hb⟩ => ⟨?_, hb⟩
    obtain ⟨rfl, rfl⟩ := hh _ _ hq2
    rw [he, hq2]; rfl
  obtain ⟨i0, hi0, hz0, hz1, hz2⟩ := info_parts Tryz.infoHunk
  obtain ⟨hBr, v, hrb, ⟨xs, hown, hold⟩, _⟩ := hst
  have hrl := hrb.lt
  have HRB : Hid (Rsb w r v b0 a0) := hrb
  have HOW : Hid (w.ownsRow B 42 3 v hs.length xs) := hown
  have HOL : Hid (Olds w B hs xs none) := hold
  clear hp3 hf hg hsz hd hdx hrb hown hold hq1 hq2 hyl1 hyl2
  go_enter Tryz.func96, Tryz.ntmps96
  go_wp2_with (go_at_call 117; refine hp1.mono ?_; rintro e w' ⟨rfl, hw⟩; rw [hw])
  clear hp1
  go_wp2_with (go_at_call 118; refine hp2.mono ?_; rintro e w' ⟨rfl, hw⟩; rw [hw])
  clear hp2
  go_wp2_with (go_at_call 119; refine hp3'.mono ?_)
  rintro e w1 ⟨rfl, hb1⟩
  have hs1 := HS1 w1 hb1
  clear hp3' HS1
  go_wp2_with (go_at_call 120; refine hs1.mono ?_)
  rintro e w2 ⟨rfl, hb2⟩
  have hb2 := hb1.trans (hb2.mono hb1.size)
  have hs2 := HS2 w2 hb2
  clear hs1 HS2 hb1
  go_wp2_with (go_at_call 120; refine hs2.mono ?_)
  rintro e w3 ⟨rfl, hb3⟩
  have hb3 := hb2.trans (hb3.mono hb2.size)
  clear hs2 hb2
  obtain ⟨al, nl, el, rfl⟩ := own_slc HOW.out
  have hr3 := HRB.out.below hb3
  have hb4 := below_alloc w3 (.cells #[.int .i64 o, .int .i64 p, .slice none 0 0] 42)
  have hs3 : B ≤ w3.heap.size := Nat.le_trans hBw hb3.size
  have HO4 : Hid ((w3.alloc (.cells #[.int .i64 o, .int .i64 p, .slice none 0 0] 42)).ownsRow B 42 3 (.slice al nl el) hs.length xs) := own_later (own_later HOW.out hb3) hb4
  have HL4 : Hid (Olds (w3.alloc (.cells #[.int .i64 o, .int .i64 p, .slice none 0 0] 42)) B hs xs none) := (HOL.out.below hb3).below hb4
  have HR4 : Hid (Rsb (w3.alloc (.cells #[.int .i64 o, .int .i64 p, .slice none 0 0] 42)) r (.slice al nl el) b0 a0) := hr3.below hb4
  have HB4 : Hid (Below B w (w3.alloc (.cells #[.int .i64 o, .int .i64 p, .slice none 0 0] 42))) := (hb3.mono hBw).alloc hs3 _
  have hvr : (Value.slice al nl el).ownBlock ≠ some r := fun e => by
    obtain ⟨cs, fr, h⟩ := own_type HO4.out e
    have h2 := HR4.out
    unfold Rsb at h2
    rw [h] at h2
    simp at h2
  have KK : Hid (∀ w5, (w3.alloc (.cells #[.int .i64 o, .int .i64 p, .slice none 0 0] 42)).grownBy w5 (Value.slice al nl el).ownBlock → Rsb w5 r (.slice al nl el) b0 a0) := fun w5 hg => (hg.block r HR4.out.lt (fun e => hvr e.symm)).trans HR4.out
  obtain ⟨k0, _⟩ := hr3.cells
  clear hr3 hb4 hb3
  go_wp2_with (at_builtin; refine wpList_append_lies _ rfl _ _ 22 rfl B 42 i0 (.agg #[.int .i64 0, .int .i64 0, .slice none 0 0]) 3 40 Tryz.underlying22 hi0 hz0 hz1 hz2 rfl (by decide) _ _ _ rfl HO4.out ⟨w3.heap.size, 0, none⟩ 1 1 [.int .i64 o, .int .i64 p, .slice none 0 0] rfl rfl (cell_three_new _ _ _ _ _) (fun x hx => by simp at hx; rcases hx with rfl | rfl | rfl <;> rfl) (by decide) (by unfold maxLen; omega) (by omega) (by simp; omega) (w3.heap.size + 1) (by simp) ?_; intro g5 c5 w5 hown5 hgrow5 hblk5 hlt5; obtain ⟨y0, y1, y2, f0, f1, f2⟩ := (KK.out w5 hgrow5).cells; clear k0)
  have hr5 := KK.out w5 hgrow5
  have hb5 : Below B w w5 := HB4.out.grown hgrow5 (by simp; omega) (fun j hj => (HO4.out.lt j hj).1)
  have hrop := Rop.begin HO4.out HL4.out hown5 hgrow5
  go_ret
  have hr6 : Rsb (w5.setCell ⟨r, 0, none⟩ (.slice (some ⟨g5, 0, none⟩) (hs.length + 1) c5)) r (.slice (some ⟨g5, 0, none⟩) (hs.length + 1) c5) b0 a0 := by
    have := blk_set (i := 0) hr5 (.slice (some ⟨g5, 0, none⟩) (hs.length + 1) c5)
    unfold Rsb; simpa using this
  have hrop6 := hrop.set hr5 (i := 0) (by decide) (by decide) (.slice (some ⟨g5, 0, none⟩) (hs.length + 1) c5)
  have hr7 : Rsb ((w5.setCell ⟨r, 0, none⟩ (.slice (some ⟨g5, 0, none⟩) (hs.length + 1) c5)).setCell ⟨r, 1, none⟩ (.int .i64 n)) r (.slice (some ⟨g5, 0, none⟩) (hs.length + 1) c5) n a0 := by
    have := blk_set (i := 1) hr6 (.int .i64 n)
    unfold Rsb; simpa using this
  have hrop7 := hrop6.set hr6 (i := 1) (by decide) (by decide) (.int .i64 n)
  have hr8 : Rsb (((w5.setCell ⟨r, 0, none⟩ (.slice (some ⟨g5, 0, none⟩) (hs.length + 1) c5)).setCell ⟨r, 1, none⟩ (.int .i64 n)).setCell ⟨r, 2, none⟩ (.int .i64 m)) r (.slice (some ⟨g5, 0, none⟩) (hs.length + 1) c5) n m := by
    have := blk_set (i := 2) hr7 (.int .i64 m)
    unfold Rsb; simpa using this
  have hrop8 := hrop7.set hr7 (i := 2) (by decide) (by decide) (.int .i64 m)
  exact ⟨rfl, ((hb5.setCell (show B ≤ r from hBr) _).setCell (show B ≤ r from hBr) _).setCell (show B ≤ r from hBr) _, Rst.of hBr hr8 hrop8⟩

end Go.Proofs.YtjgdicghmkfohacGreatDoor
