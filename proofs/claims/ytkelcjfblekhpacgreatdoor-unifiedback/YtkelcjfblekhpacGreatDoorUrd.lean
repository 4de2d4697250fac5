/-
  Walks of the reader: isWhole, takeHead.
-/
import Derived.Test.YtkelcjfblekhpacGreatDoorUrw
import Derived.Test.YtkelcjfblekhpacGreatDoorUnm
import Derived.Deep.RegionHeld3
import Derived.Deep.RegionLaw
import Derived.Deep.DrawnRows

namespace Go.Proofs.YtkelcjfblekhpacGreatDoor
open Go.RowKit Dist

attribute [local go_sem] Go.wp_at_zero Go.wp_at_succ

set_option maxHeartbeats 400000 in
theorem isWhole (r : Nat) (v : Value) (b a : Nat) (w : World) (h : Rsb w r v b a) : Calls Tryz.prog 40 #[.pointer (some ⟨r, 0, none⟩)] w fun e w' => e = .returned (.bool (decide (b = 0 ∧ a = 0))) ∧ w' = w := by
  obtain ⟨_, c1, c2, _⟩ := h.cells
  by_cases h1 : b = 0
  · subst h1
    have e : decide (0 = 0 ∧ a = 0) = ((a : Int) == 0) := by rw [Bool.eq_iff_iff]; simp
    rw [e]
    clear e h
    go_enter Tryz.func40, Tryz.ntmps40
    go_wp2
    go_ret
    exact ⟨rfl, rfl⟩
  · have h2 : ((b : Int) == 0) = false := by simpa using h1
    rw [show decide (b = 0 ∧ a = 0) = false by simp [h1]]
    clear h h1
    go_enter Tryz.func40, Tryz.ntmps40
    go_wp2
    go_ret
    exact ⟨rfl, rfl⟩

theorem hdc_flag (a b : Option (Nat × Nat)) : (hdc a b).isSome = (a.isSome && b.isSome) := by
  cases a with
  | none => rfl
  | some x => cases b <;> rfl

/-- What the three cuts of a head answer. -/
theorem head_cuts (s : ByteArray) (w : World) (hg : Gs w) (hsz : s.size ≤ 400000) : ∃ (X1 X2 X3 : Bool) (x1 x2 y1 y2 : List UInt8),
    (Calls Tryz.prog 71 #[.string s, .string ⟨#[64, 64, 32, 45]⟩] w fun e w' => e = .returned (.tuple #[.string ⟨x1.toArray⟩, .bool X1]) ∧ w' = w) ∧
    (Calls Tryz.prog 72 #[.string ⟨x1.toArray⟩, .string ⟨#[32, 64, 64]⟩] w fun e w' => e = .returned (.tuple #[.string ⟨x2.toArray⟩, .bool X2]) ∧ w' = w) ∧
    (Calls Tryz.prog 73 #[.string ⟨x2.toArray⟩, .string ⟨#[32, 43]⟩] w fun e w' => e = .returned (.tuple #[.string ⟨y1.toArray⟩, .string ⟨y2.toArray⟩, .bool X3]) ∧ ∃ n, w' = w.drewN n) ∧
    (X1 && (X2 && X3)) = hfit s.data.toList ∧ (hfit s.data.toList = true → hdo s.data.toList = hdc (spo y1) (spo y2)) ∧ y1.length ≤ 400000 ∧ y2.length ≤ 400000 := by
  have hp1 := Tryz.strings_CutPrefix s ⟨#[64, 64, 32, 45]⟩ w
  rw [show (ByteArray.mk #[64, 64, 32, 45]).data.toList = [64, 64, 32, 45] from rfl] at hp1
  obtain ⟨mm, hmm⟩ := hg.1
  have hl1 : (Lib.trimPrefix s.data.toList [64, 64, 32, 45]).length ≤ 400000 := by
    rw [Lib.size_eq] at hsz
    unfold Lib.trimPrefix
    split
    · rw [List.length_drop]; omega
    · exact hsz
  have hl2 : (hin s.data.toList).length ≤ 400000 := by
    unfold hin Lib.trimSuffix
    split
    · rw [List.length_take]; omega
    · exact hl1
  have hp2 := Tryz.strings_CutSuffix ⟨(Lib.trimPrefix s.data.toList [64, 64, 32, 45]).toArray⟩ ⟨#[32, 64, 64]⟩ w (by rw [Lib.size_eq]; simp; omega)
  rw [show (ByteArray.mk #[32, 64, 64]).data.toList = [32, 64, 64] from rfl, show (ByteArray.mk (Lib.trimPrefix s.data.toList [64, 64, 32, 45]).toArray).data.toList = Lib.trimPrefix s.data.toList [64, 64, 32, 45] by simp] at hp2
  have hp3 := Tryz.strings_Cut ⟨(hin s.data.toList).toArray⟩ ⟨#[32, 43]⟩ mm w (by rw [Lib.size_eq]; simp; omega) hmm
  rw [show (ByteArray.mk #[32, 43]).data.toList = [32, 43] from rfl, show (ByteArray.mk (hin s.data.toList).toArray).data.toList = hin s.data.toList by simp] at hp3
  refine ⟨_, _, _, _, _, _, _, hp1, hp2, hp3, rfl, fun h => ?_, ?_⟩
  · unfold hdo; rw [if_pos h]
  · unfold Lib.cut
    split
    · simp only [List.length_take, List.length_drop]; omega
    · simp; omega

set_option maxRecDepth 100000 in
set_option maxHeartbeats 1000000 in
theorem takeHead_no (B r : Nat) (s : ByteArray) (w : World) (hg : Gs w) (hsz : s.size ≤ 400000) (hf : hfit s.data.toList = false) :
    Calls Tryz.prog 58 #[.pointer (some ⟨r, 0, none⟩), .string s] w fun e w' => e = .returned (.bool false) ∧ Below B w w' := by
  obtain ⟨X1, X2, X3, x1, x2, y1, y2, hp1, hp2, hp3, hx, _⟩ := head_cuts s w hg hsz
  rw [hf] at hx
  have hp3' := hp3.mono (R' := fun e w' => e = .returned (.tuple #[.string ⟨y1.toArray⟩, .string ⟨y2.toArray⟩, .bool X3]) ∧ Below B w w') fun e w' ⟨he, q, hw⟩ => ⟨he, by rw [hw]; exact below_drawn (Below.refl _ _)⟩
  clear hp3 hf hg hsz
  cases X1
  case' true =>
    cases X2
    case' true => cases X3
    case' true.true => simp at hx
  all_goals
    clear hx
    go_enter Tryz.func58, Tryz.ntmps58
    go_wp2_with (go_at_call 71; refine hp1.mono ?_; rintro e w' ⟨rfl, hw⟩; rw [hw])
    clear hp1
    go_wp2_with (go_at_call 72; refine hp2.mono ?_; rintro e w' ⟨rfl, hw⟩; rw [hw])
    clear hp2
    go_wp2_with (go_at_call 73; refine hp3'.mono ?_; rintro e w1 ⟨rfl, hb1⟩)
    go_ret
    exact ⟨rfl, hb1⟩

set_option maxRecDepth 100000 in
set_option maxHeartbeats 2000000 in
theorem takeHead_yes (B r : Nat) (hs : List Uk) (b0 a0 : Nat) (s : ByteArray) (w : World) (hst : Rst w B r (hs, b0, a0)) (hg : Gs w) (hGB : GB B) (hBw : B ≤ w.heap.size) (hlen : hs.length ≤ 400000) (hsz : s.size ≤ 400000) (hf : hfit s.data.toList = true) :
    Calls Tryz.prog 58 #[.pointer (some ⟨r, 0, none⟩), .string s] w fun e w' => e = .returned (.bool (hdo s.data.toList).isSome) ∧ Below B w w' ∧ ∀ o n p m, hdo s.data.toList = some (o, n, p, m) → Rst w' B r (hs ++ [((o : Int), (p : Int), [])], n, m) := by
  obtain ⟨X1, X2, X3, x1, x2, y1, y2, hp1, hp2, hp3, hx, hd, hyl1, hyl2⟩ := head_cuts s w hg hsz
  rw [hf] at hx
  simp only [Bool.and_eq_true] at hx
  obtain ⟨rfl, rfl, rfl⟩ := hx
  rw [hd hf]
  obtain ⟨i0, hi0, hz0, hz1, hz2⟩ := info_parts Tryz.infoHunk
  obtain ⟨hBr, v, hrb, ⟨xs, hown, hold⟩, _⟩ := hst
  have hrl := hrb.lt
  have hp3' := hp3.mono (R' := fun e w' => e = .returned (.tuple #[.string ⟨y1.toArray⟩, .string ⟨y2.toArray⟩, .bool true]) ∧ Below w.heap.size w w') fun e w' ⟨he, q, hw⟩ => ⟨he, by rw [hw]; exact below_drawn (Below.refl _ _)⟩
  have HG : Hid (Gs w) := hg
  have HRB : Hid (Rsb w r v b0 a0) := hrb
  have HOW : Hid (w.ownsRow B 42 3 v hs.length xs) := hown
  have HOL : Hid (Olds w B hs xs none) := hold
  clear hp3 hf hg hsz hd hrb hown hold
  go_enter Tryz.func58, Tryz.ntmps58
  go_wp2_with (go_at_call 71; refine hp1.mono ?_; rintro e w' ⟨rfl, hw⟩; rw [hw])
  clear hp1
  go_wp2_with (go_at_call 72; refine hp2.mono ?_; rintro e w' ⟨rfl, hw⟩; rw [hw])
  clear hp2
  go_wp2_with (go_at_call 73; refine hp3'.mono ?_)
  rintro e w1 ⟨rfl, hb1⟩
  clear hp3'
  have hb1a := hb1.trans ((below_alloc w1 (.cells #[.int .i64 0, .int .i64 0, .slice none 0 0] 42)).mono hb1.size)
  have hs1 := parseSpan ⟨y1.toArray⟩ _ (HG.out.below hb1a) (by rw [Lib.size_eq]; simp; omega)
  rw [show (ByteArray.mk y1.toArray).data.toList = y1 by simp] at hs1
  have HB1 : Hid (Below w.heap.size w (w1.alloc (.cells #[.int .i64 0, .int .i64 0, .slice none 0 0] 42))) := hb1a
  clear hb1a
  go_wp2_with (go_at_call 74; refine hs1.mono ?_)
  rintro e w2 ⟨n1, m1, b1, b2, b3, b4, rfl, hsp1, hb2⟩
  obtain ⟨H, hH⟩ : ∃ H, w1.heap.size = H := ⟨_, rfl⟩
  have hHw : w.heap.size ≤ H := by rw [← hH]; exact hb1.size
  have hkH := blk_below hb2 (by simp) (heap_alloc_new w1 (.cells #[.int .i64 0, .int .i64 0, .slice none 0 0] 42))
  have hb2 := HB1.out.trans (hb2.mono HB1.out.size)
  rw [hH] at hkH
  have hkr : Rsb w2 r v b0 a0 := HRB.out.below hb2
  have HSP1 : Hid (∀ a b, spo y1 = some (a, b) → n1 = a ∧ m1 = b) := hsp1
  have HB2 : Hid (Below w.heap.size w w2) := hb2
  have HKH : Hid (w2.heap[H]? = some (.cells #[.int .i64 0, .int .i64 0, .slice none 0 0] 42 (0, 0))) := hkH
  have HKR : Hid (Rsb w2 r v b0 a0) := hkr
  obtain ⟨_, k1, k2, _, f1, f2⟩ := hkr.cells
  have q0 := Lib.cell_of_heap hkH 0
  have q1 := Lib.cell_of_heap hkH 1
  have g0 := Lib.frozen_of_heap hkH 0
  have g1 := Lib.frozen_of_heap hkH 1
  have hne : r ≠ H := by omega
  clear hs1 hsp1 hb2 HB1 hkH hkr
  go_wp2_with fail
  have hb3a : Below w.heap.size w (w2.setCell ⟨H, 0, none⟩ (.int .i64 n1)) := HB2.out.setCell (show w.heap.size ≤ H from hHw) _
  have hkH3a : (w2.setCell ⟨H, 0, none⟩ (.int .i64 n1)).heap[H]? = some (.cells #[.int .i64 n1, .int .i64 0, .slice none 0 0] 42 (0, 0)) := by
    have := blk_set (i := 0) HKH.out (.int .i64 n1)
    simpa using this
  have hkr3a : Rsb (w2.setCell ⟨H, 0, none⟩ (.int .i64 n1)) r v b0 a0 := by
    unfold Rsb
    rw [Below.heap_setCell _ _ _ _ (show r ≠ H from hne)]
    exact HKR.out
  have hkH3 : ((w2.setCell ⟨H, 0, none⟩ (.int .i64 n1)).setCell ⟨r, 1, none⟩ (.int .i64 m1)).heap[H]? = some (.cells #[.int .i64 n1, .int .i64 0, .slice none 0 0] 42 (0, 0)) := by
    rw [Below.heap_setCell _ _ _ _ (show H ≠ r from fun e => hne e.symm)]
    exact hkH3a
  have hkr3 : Rsb ((w2.setCell ⟨H, 0, none⟩ (.int .i64 n1)).setCell ⟨r, 1, none⟩ (.int .i64 m1)) r v m1 a0 := by
    have := blk_set (i := 1) hkr3a (.int .i64 m1)
    unfold Rsb
    simpa using this
  have hown3 := own_set (G := r) (i := 1) (own_later HOW.out hb3a) hkr3a (by decide) (.int .i64 m1)
  have hold3 := (HOL.out.below hb3a).mono (r' := none) fun _ _ _ c1 c2 => ⟨own_set (G := r) (i := 1) c1 hkr3a (by decide) (.int .i64 m1), c2⟩
  have hb3 : Below B w ((w2.setCell ⟨H, 0, none⟩ (.int .i64 n1)).setCell ⟨r, 1, none⟩ (.int .i64 m1)) := (hb3a.mono hBw).setCell (show B ≤ r from hBr) _
  have hsz3 : H < ((w2.setCell ⟨H, 0, none⟩ (.int .i64 n1)).setCell ⟨r, 1, none⟩ (.int .i64 m1)).heap.size := by
    by_cases e : H < ((w2.setCell ⟨H, 0, none⟩ (.int .i64 n1)).setCell ⟨r, 1, none⟩ (.int .i64 m1)).heap.size
    · exact e
    · rw [Array.getElem?_eq_none (by omega)] at hkH3; cases hkH3
  generalize (w2.setCell ⟨H, 0, none⟩ (.int .i64 n1)).setCell ⟨r, 1, none⟩ (.int .i64 m1) = W3 at hkH3 hkr3 hown3 hold3 hb3 hsz3 ⊢
  clear hb3a hkH3a hkr3a k1 k2 f1 f2 q0 q1 g0 g1 HKH HKR HB2
  have hs2 := parseSpan ⟨y2.toArray⟩ W3 (HG.out.keep hGB hb3) (by rw [Lib.size_eq]; simp; omega)
  rw [show (ByteArray.mk y2.toArray).data.toList = y2 by simp] at hs2
  refine hs2.mono ?_
  rintro e w3 ⟨n2, m2, c1, c2, c3, c4, rfl, hsp2, hb4⟩
  have HSP2 : Hid (∀ a b, spo y2 = some (a, b) → n2 = a ∧ m2 = b) := hsp2
  have hkH := blk_below hb4 hsz3 hkH3
  have hkr := hkr3.below hb4
  have hown := own_later hown3 hb4
  have hold := hold3.below hb4
  have hBsz : B ≤ W3.heap.size := Nat.le_trans hBw hb3.size
  have hb4 := hb3.trans (hb4.mono hBsz)
  clear hs2 hsp2 hkH3 hkr3 hown3 hold3 hb3
  have hHl : H < w3.heap.size := by
    by_cases e : H < w3.heap.size
    · exact e
    · rw [Array.getElem?_eq_none (by omega)] at hkH; cases hkH
  have hkH5 : (w3.setCell ⟨H, 1, none⟩ (.int .i64 n2)).heap[H]? = some (.cells #[.int .i64 n1, .int .i64 n2, .slice none 0 0] 42 (0, 0)) := by
    have := blk_set (i := 1) hkH (.int .i64 n2)
    simpa using this
  have hkr5 : Rsb (w3.setCell ⟨H, 1, none⟩ (.int .i64 n2)) r v m1 a0 := by
    unfold Rsb
    rw [Below.heap_setCell _ _ _ _ (show r ≠ H from hne)]
    exact hkr
  have hkH6 : ((w3.setCell ⟨H, 1, none⟩ (.int .i64 n2)).setCell ⟨r, 2, none⟩ (.int .i64 m2)).heap[H]? = some (.cells #[.int .i64 n1, .int .i64 n2, .slice none 0 0] 42 (0, 0)) := by
    rw [Below.heap_setCell _ _ _ _ (show H ≠ r from fun e => hne e.symm)]
    exact hkH5
  have hkr6 : Rsb ((w3.setCell ⟨H, 1, none⟩ (.int .i64 n2)).setCell ⟨r, 2, none⟩ (.int .i64 m2)) r v m1 m2 := by
    have := blk_set (i := 2) hkr5 (.int .i64 m2)
    unfold Rsb
    simpa using this
  have hvH : v.ownBlock ≠ some H := fun e => by have := (HOW.out.lt H e).2; omega
  have hown6 := own_set (G := r) (i := 2) (own_ne (G := H) (i := 1) hown hvH (.int .i64 n2)) hkr5 (by decide) (.int .i64 m2)
  have hold6 := hold.mono (w' := (w3.setCell ⟨H, 1, none⟩ (.int .i64 n2)).setCell ⟨r, 2, none⟩ (.int .i64 m2)) (r' := none) fun _ _ _ d1 d2 => ⟨own_set (G := r) (i := 2) (own_set (G := H) (i := 1) d1 hkH (by decide) (.int .i64 n2)) hkr5 (by decide) (.int .i64 m2), d2⟩
  have hb6 : Below B w ((w3.setCell ⟨H, 1, none⟩ (.int .i64 n2)).setCell ⟨r, 2, none⟩ (.int .i64 m2)) := (hb4.setCell (show B ≤ H by omega) _).setCell (show B ≤ r from hBr) _
  have hHl6 : H < ((w3.setCell ⟨H, 1, none⟩ (.int .i64 n2)).setCell ⟨r, 2, none⟩ (.int .i64 m2)).heap.size := by simpa using hHl
  obtain ⟨_, k1, k2, _, f1, f2⟩ := hkr.cells
  have q0 := Lib.cell_of_heap hkH 0
  have q1 := Lib.cell_of_heap hkH 1
  have g1 := Lib.frozen_of_heap hkH 1
  clear hkH hkr hown hold hb4 hkH5 hkr5 hHl
  go_wp2_with fail
  clear k1 k2 f1 f2 q0 q1 g1
  generalize (w3.setCell ⟨H, 1, none⟩ (.int .i64 n2)).setCell ⟨r, 2, none⟩ (.int .i64 m2) = W6 at hkH6 hkr6 hown6 hold6 hb6 hHl6 ⊢
  have HK6 : Hid (W6.heap[H]? = some (.cells #[.int .i64 n1, .int .i64 n2, .slice none 0 0] 42 (0, 0))) := hkH6
  have HR6 : Hid (Rsb W6 r v m1 m2) := hkr6
  have HO6 : Hid (W6.ownsRow B 42 3 v hs.length xs) := hown6
  have HL6 : Hid (Olds W6 B hs xs none) := hold6
  have HB6 : Hid (Below B w W6) := hb6
  clear hkH6 hkr6 hown6 hold6 hb6
  obtain ⟨al, nl, el, rfl⟩ := own_slc HO6.out
  have hvr : (Value.slice al nl el).ownBlock ≠ some r := fun e => by
    obtain ⟨cs, fr, h⟩ := own_type HO6.out e
    have h2 := HR6.out
    unfold Rsb at h2
    rw [h] at h2
    simp at h2
  have hrl6 : r < W6.heap.size := HR6.out.lt
  have hb7 : Below W6.heap.size W6 (W6.alloc (.cells #[.int .i64 n1, .int .i64 n2, .slice none 0 0] 42)).drew := (below_alloc W6 _).trans ⟨rfl, rfl, rfl, Nat.le_refl _, fun _ _ => rfl⟩
  have XX : Hid (∀ w2, Below W6.heap.size W6 w2 → w2.cell? ⟨H, 0, none⟩ = some (.int .i64 n1) ∧ w2.cell? ⟨H, 1, none⟩ = some (.int .i64 n2) ∧ w2.cell? ⟨H, 2, none⟩ = some (.slice none 0 0)) := fun w2 h => by
    have := blk_below h hHl6 HK6.out
    exact ⟨Lib.cell_of_heap this 0, Lib.cell_of_heap this 1, Lib.cell_of_heap this 2⟩
  have BB : Hid (Below W6.heap.size W6 W6.drew) := ⟨rfl, rfl, rfl, Nat.le_refl _, fun _ _ => rfl⟩
  have B7 : Hid (Below W6.heap.size W6 (W6.alloc (.cells #[.int .i64 n1, .int .i64 n2, .slice none 0 0] 42)).drew) := hb7
  have HOWN7 : Hid (((W6.alloc (.cells #[.int .i64 n1, .int .i64 n2, .slice none 0 0] 42)).drew).ownsRow B 42 3 (.slice al nl el) hs.length xs) := own_later HO6.out hb7
  have HOLD7 : Hid (Olds ((W6.alloc (.cells #[.int .i64 n1, .int .i64 n2, .slice none 0 0] 42)).drew) B hs xs none) := HL6.out.below hb7
  have HNEWS : Hid (∀ j u, ([.int .i64 n1, .int .i64 n2, .slice none 0 0] : List Value)[j]? = some u → ((W6.alloc (.cells #[.int .i64 n1, .int .i64 n2, .slice none 0 0] 42)).drew).cell? ((⟨W6.heap.size, 0, none⟩ : Addr).add j) = some u) := cell_three_new W6 (.int .i64 n1) (.int .i64 n2) (.slice none 0 0) 42
  have HS7 : Hid (((W6.alloc (.cells #[.int .i64 n1, .int .i64 n2, .slice none 0 0] 42)).drew).heap.size = W6.heap.size + 1) := by show ((W6.alloc (.cells #[.int .i64 n1, .int .i64 n2, .slice none 0 0] 42)).drew).heap.size = W6.heap.size + 1; simp
  have hBW6 : B ≤ W6.heap.size := Nat.le_trans hBw HB6.out.size
  have D2 : Hid (W6.cell? ⟨r, 0, none⟩ = some (.slice al nl el)) := HR6.out.cells.1
  have D2' : Hid ((W6.alloc (.cells #[.int .i64 n1, .int .i64 n2, .slice none 0 0] 42)).cell? ⟨r, 0, none⟩ = some (.slice al nl el)) := cell_later (below_alloc W6 _) HR6.out.cells.1
  have KK : Hid (∀ w8, ((W6.alloc (.cells #[.int .i64 n1, .int .i64 n2, .slice none 0 0] 42)).drew).grownBy w8 (Value.slice al nl el).ownBlock → Rsb w8 r (.slice al nl el) m1 m2 ∧ w8.cell? ⟨H, 0, none⟩ = some (.int .i64 n1) ∧ w8.cell? ⟨H, 1, none⟩ = some (.int .i64 n2) ∧ w8.cell? ⟨H, 2, none⟩ = some (.slice none 0 0)) := fun w8 hg => by
    have k1 : w8.heap[H]? = some (.cells #[.int .i64 n1, .int .i64 n2, .slice none 0 0] 42 (0, 0)) := (hg.block H (by rw [HS7.out]; omega) (fun e => hvH e.symm)).trans (blk_below B7.out hHl6 HK6.out)
    have k2 : w8.heap[r]? = some (.cells #[.slice al nl el, .int .i64 m1, .int .i64 m2] 79 (0, 0)) := (hg.block r (by rw [HS7.out]; omega) (fun e => hvr e.symm)).trans (blk_below B7.out hrl6 HR6.out)
    exact ⟨k2, Lib.cell_of_heap k1 0, Lib.cell_of_heap k1 1, Lib.cell_of_heap k1 2⟩
  clear hb7
  refine wp_region_held_drew (S := fun w' => w'.cell? ⟨H, 0, none⟩ = some (.int .i64 n1) ∧ w'.cell? ⟨H, 1, none⟩ = some (.int .i64 n2) ∧ w'.cell? ⟨H, 2, none⟩ = some (.slice none 0 0)) (by kernel_rfl) ?_ (fun hHeld => ?_)
  · exact XX.out _ BB.out
  refine wpAnyH_take (i := 0) (v := ?_) rfl (by kernel_rfl) (by kernel_rfl) (by kernel_rfl) (fun _ _ _ h => h) (Or.inl ⟨by rfl, ?_⟩) (by assumption) ?_
  rotate_left
  · intro w' hSw
    (try dsimp only at hSw)
    go_simp
    try with_reducible rfl
  simp only [Act.put, List.getElem_toArray, List.getElem_cons_zero, List.setIfInBounds_toArray, List.set_cons_zero, List.set_cons_succ]
  refine wpAnyH_take (i := 1) (v := ?_) rfl (by kernel_rfl) (by kernel_rfl) (by kernel_rfl) (fun _ _ _ h => h) (Or.inl ⟨by rfl, ?_⟩) (by assumption) ?_
  rotate_left
  · intro w' hSw
    (try dsimp only at hSw)
    go_simp
    try with_reducible rfl
  simp only [Act.put, List.getElem_toArray, List.getElem_cons_zero, List.getElem_cons_succ, List.setIfInBounds_toArray, List.set_cons_zero, List.set_cons_succ]
  refine wpAnyH_take (i := 2) (v := ?_) rfl (by kernel_rfl) (by kernel_rfl) (by kernel_rfl) (fun _ _ _ h => h) (Or.inl ⟨by rfl, ?_⟩) (by assumption) ?_
  rotate_left
  · intro w' hSw
    (try dsimp only at hSw)
    go_simp
    try with_reducible rfl
  simp only [Act.put, List.getElem_toArray, List.getElem_cons_zero, List.getElem_cons_succ, List.setIfInBounds_toArray, List.set_cons_zero, List.set_cons_succ]
  refine wpAnyH_take (i := 3) (v := ?_) rfl (by kernel_rfl) (by kernel_rfl) (by kernel_rfl) (fun _ _ _ h => h) (Or.inl ⟨by rfl, ?_⟩) (by assumption) ?_
  rotate_left
  · intro w' hSw
    (try dsimp only at hSw)
    go_simp
    try with_reducible rfl
  simp only [Act.put, List.getElem_toArray, List.getElem_cons_zero, List.getElem_cons_succ, List.setIfInBounds_toArray, List.set_cons_zero, List.set_cons_succ]
  refine wpAnyH_take (i := 5) (v := ?_) rfl (by kernel_rfl) (by kernel_rfl) (by kernel_rfl) (fun _ _ _ h => h) (Or.inl ⟨by rfl, ?_⟩) (by assumption) ?_
  rotate_left
  · intro w' hSw
    (try dsimp only at hSw)
    go_simp
    try with_reducible rfl
  simp only [Act.put, List.getElem_toArray, List.getElem_cons_zero, List.getElem_cons_succ, List.setIfInBounds_toArray, List.set_cons_zero, List.set_cons_succ]
  refine wpAnyH_ready (rs := [4, 6]) (by kernel_rfl) (by simp) ?_
  refine AllReadyH.cons rfl (fun K hK => ?_) (AllReadyH.cons rfl (fun K hK => ?_) AllReadyH.nil)
  case' refine_1 =>
    have d2 := D2.out
    go_simp
    refine hK.out _ _ ?_ (fun hHeld => ?_)
    · exact XX.out _ BB.out
    clear hK K
    refine wpAnyH_ready (rs := [6]) (by kernel_rfl) (by simp) ?_
    refine AllReadyH.cons rfl (fun K hK => ?_) AllReadyH.nil
    go_simp
    refine hK.out _ _ ?_ (fun hHeld => ?_)
    · exact XX.out _ B7.out
    clear hK K
  case' refine_2 =>
    go_simp
    refine hK.out _ _ ?_ (fun hHeld => ?_)
    · exact XX.out _ B7.out
    clear hK K
    have d2 := D2'.out
    refine wpAnyH_ready (rs := [4]) (by kernel_rfl) (by simp) ?_
    refine AllReadyH.cons rfl (fun K hK => ?_) AllReadyH.nil
    go_simp
    refine hK.out _ _ ?_ (fun hHeld => ?_)
    · exact XX.out _ B7.out
    clear hK K
  all_goals
    refine wpAnyH_ready (rs := [7]) (by kernel_rfl) (by simp) ?_
    refine AllReadyH.cons rfl (fun K hK => ?_) AllReadyH.nil
    refine step_append_lies _ (by rfl) _ _ 22 (by rfl) B 42 i0 (.agg #[.int .i64 0, .int .i64 0, .slice none 0 0]) 3 40 Tryz.underlying22 hi0 hz0 hz1 hz2 rfl (by decide) _ _ _ (by rfl) HOWN7.out ⟨W6.heap.size, 0, none⟩ 1 1 [.int .i64 n1, .int .i64 n2, .slice none 0 0] (by rfl) rfl HNEWS.out (fun x hx => by simp at hx; rcases hx with rfl | rfl | rfl <;> rfl) (by decide) (by unfold maxLen; omega) (by omega) (by rw [HS7.out]; omega) (W6.heap.size + 1) HS7.out ?_; intro g8 c8 w8 hown8 hgrow8 hat8 hlt8
    refine hK.out _ _ ?_ (fun hHeld => ?_)
    · exact (KK.out w8 hgrow8).2
    clear hK K
    simp only [Act.put, List.getElem_toArray, List.getElem_cons_zero, List.getElem_cons_succ, List.setIfInBounds_toArray, List.set_cons_zero, List.set_cons_succ]
    refine wpAnyH_take (i := 8) (v := ?_) rfl (by kernel_rfl) (by kernel_rfl) (by kernel_rfl) (fun _ _ _ h => h) (Or.inl ⟨by rfl, ?_⟩) (by assumption) ?_
    rotate_left
    · intro w' hSw
      (try dsimp only at hSw)
      go_simp
      try with_reducible rfl
    simp only [Act.put, List.getElem_toArray, List.getElem_cons_zero, List.getElem_cons_succ, List.setIfInBounds_toArray, List.set_cons_zero, List.set_cons_succ]
    refine wpAnyH_take (i := 9) (v := ?_) rfl (by kernel_rfl) (by kernel_rfl) (by kernel_rfl) (fun _ _ _ h => h) (Or.inl ⟨by rfl, ?_⟩) (by assumption) ?_
    rotate_left
    · intro w' hSw
      (try dsimp only at hSw)
      go_simp
      try with_reducible rfl
    simp only [Act.put, List.getElem_toArray, List.getElem_cons_zero, List.getElem_cons_succ, List.setIfInBounds_toArray, List.set_cons_zero, List.set_cons_succ]
    obtain ⟨hr8, _⟩ := KK.out w8 hgrow8
    obtain ⟨z0, _, _, zf, _⟩ := hr8.cells
    have KB : Hid ((w8.setCell ⟨r, 0, none⟩ (.slice (some ⟨g8, 0, none⟩) (hs.length + 1) c8)).cell? ⟨H, 0, none⟩ = some (.int .i64 n1) ∧ (w8.setCell ⟨r, 0, none⟩ (.slice (some ⟨g8, 0, none⟩) (hs.length + 1) c8)).cell? ⟨H, 1, none⟩ = some (.int .i64 n2) ∧ (w8.setCell ⟨r, 0, none⟩ (.slice (some ⟨g8, 0, none⟩) (hs.length + 1) c8)).cell? ⟨H, 2, none⟩ = some (.slice none 0 0)) := by
      obtain ⟨_, z1, z2, z3⟩ := KK.out w8 hgrow8
      refine ⟨?_, ?_, ?_⟩ <;> (rw [World.cell?_setCell_other]; assumption; intro e; have := congrArg Addr.block e; simp only at this; omega)
    have HR8 : Hid (Rsb w8 r (.slice al nl el) m1 m2) := hr8
    clear hr8
    refine wpAnyH_ready (rs := [10]) (by kernel_rfl) (by simp) ?_
    refine AllReadyH.cons rfl (fun K hK => ?_) AllReadyH.nil
    go_simp
    refine hK.out _ _ ?_ (fun hHeld => ?_)
    · exact KB.out
    clear hK K
    refine wpAnyH_done (by kernel_rfl) ?_ _
    have hrop := Rop.begin HOWN7.out HOLD7.out hown8 hgrow8
    have HROP : Hid (Rop (w8.setCell ⟨r, 0, none⟩ (.slice (some ⟨g8, 0, none⟩) (hs.length + 1) c8)) B (.slice (some ⟨g8, 0, none⟩) (hs.length + 1) c8) hs n1 n2 []) := hrop.set HR8.out (by decide) (by decide) _
    have HRS : Hid (Rsb (w8.setCell ⟨r, 0, none⟩ (.slice (some ⟨g8, 0, none⟩) (hs.length + 1) c8)) r (.slice (some ⟨g8, 0, none⟩) (hs.length + 1) c8) m1 m2) := by
      have := blk_set (i := 0) HR8.out (.slice (some ⟨g8, 0, none⟩) (hs.length + 1) c8)
      show (w8.setCell ⟨r, 0, none⟩ (.slice (some ⟨g8, 0, none⟩) (hs.length + 1) c8)).heap[r]? = _
      simpa using this
    have hb8 : Below B w (w8.setCell ⟨r, 0, none⟩ (.slice (some ⟨g8, 0, none⟩) (hs.length + 1) c8)) := ((HB6.out.trans (B7.out.mono hBW6)).grown hgrow8 (by rw [HS7.out]; omega) (fun k hk => (HOWN7.out.lt k hk).1)).setCell (show B ≤ r from hBr) _
    generalize w8.setCell ⟨r, 0, none⟩ (.slice (some ⟨g8, 0, none⟩) (hs.length + 1) c8) = W9 at HROP HRS hb8 ⊢
    clear KB z0 zf hHeld hrop hown8 hgrow8 hat8 hlt8 d2
    obtain ⟨F1, hF1⟩ : ∃ F, (spo y1).isSome = F := ⟨_, rfl⟩
    obtain ⟨F2, hF2⟩ : ∃ F, (spo y2).isSome = F := ⟨_, rfl⟩
    have HFF : Hid ((hdc (spo y1) (spo y2)).isSome = (F1 && F2)) := by show (hdc (spo y1) (spo y2)).isSome = _; rw [hdc_flag, hF1, hF2]
    rw [hF1, hF2]
    clear hF1 hF2
    have FIN : Hid (∀ o n p m, hdc (spo y1) (spo y2) = some (o, n, p, m) → Rst W9 B r (hs ++ [((o : Int), (p : Int), [])], n, m)) := fun o n p m h => by
      cases h1 : spo y1 with
      | none => rw [h1] at h; simp [hdc] at h
      | some x =>
        cases h2 : spo y2 with
        | none => rw [h1, h2] at h; simp [hdc] at h
        | some y =>
          obtain ⟨x1, x2⟩ := x
          obtain ⟨y1', y2'⟩ := y
          rw [h1, h2] at h
          simp only [hdc, Option.some.injEq, Prod.mk.injEq] at h
          obtain ⟨rfl, rfl, rfl, rfl⟩ := h
          obtain ⟨e1, e2⟩ := HSP1.out _ _ h1
          obtain ⟨e3, e4⟩ := HSP2.out _ _ h2
          have hp := HROP.out
          have hr := HRS.out
          rw [e1, e3] at hp
          rw [e2, e4] at hr
          exact Rst.of hBr hr hp
    cases F1
    all_goals
      go_wp2
      go_ret
      refine ⟨?_, hb8, FIN.out⟩
      rw [HFF.out]; rfl

end Go.Proofs.YtkelcjfblekhpacGreatDoor
