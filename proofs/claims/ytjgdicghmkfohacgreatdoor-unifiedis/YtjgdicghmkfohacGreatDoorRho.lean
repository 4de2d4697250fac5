/-
  Walk of the document's own answer for a head of a hunk, read.
-/
import Derived.Test.YtjgdicghmkfohacGreatDoorRhd
import Derived.Test.YtjgdicghmkfohacGreatDoorHks

namespace Go.Proofs.YtjgdicghmkfohacGreatDoor
open Go.RowKit

theorem spV_form (s : List UInt8) : ∃ (a n : Nat) (f : Bool), spV (spo s) = .tuple #[.int .i64 a, .int .i64 n, .bool f] ∧ f = (spo s).isSome ∧ (∀ x y, spo s = some (x, y) → a = x ∧ n = y) ∧ a ≤ 999 ∧ n ≤ 999 := by
  cases h : spo s with
  | none => exact ⟨0, 0, false, rfl, rfl, (fun _ _ h => by cases h), by decide, by decide⟩
  | some x =>
    obtain ⟨a, n⟩ := x
    obtain ⟨_, h1, h2⟩ := spo_iff.1 h
    refine ⟨a, n, true, rfl, rfl, fun x y e => ?_, by split at h2 <;> omega, h1⟩
    simp only [Option.some.injEq, Prod.mk.injEq] at e
    exact e

/-- What a head that is read answers, as far as it is asked. -/
def HoP (s : List UInt8) (e : Ending) : Prop := ∃ o n p m : Nat, o ≤ 999 ∧ n ≤ 999 ∧ p ≤ 999 ∧ m ≤ 999 ∧ e = .returned (.tuple #[.agg #[.int .i64 o, .int .i64 p, .slice none 0 0], .int .i64 n, .int .i64 m, .bool (hdo s).isSome]) ∧ ∀ a b c d, hdo s = some (a, b, c, d) → o = a ∧ n = b ∧ p = c ∧ m = d

theorem HoP.no {s : List UInt8} (h : hdo s = none) : HoP s (.returned (.tuple #[.agg #[.int .i64 0, .int .i64 0, .slice none 0 0], .int .i64 0, .int .i64 0, .bool false])) :=
  ⟨0, 0, 0, 0, by decide, by decide, by decide, by decide, by rw [h]; rfl, fun _ _ _ _ e => by rw [h] at e; cases e⟩

set_option maxRecDepth 100000 in
set_option maxHeartbeats 1000000 in
theorem refHead_no (s : ByteArray) (w : World) (hs : s.size ≤ 400000) (hb : hdB s.data.toList = false) : Calls Tryz.prog 61 #[.string s] w fun e w' => HoP s.data.toList e ∧ Below w.heap.size w w' := by
  have HN : Hid (HoP s.data.toList (.returned (.tuple #[.agg #[.int .i64 0, .int .i64 0, .slice none 0 0], .int .i64 0, .int .i64 0, .bool false]))) := HoP.no (hdo_ref_no hb)
  have hst := fun w => starts s ⟨#[64, 64, 32, 45]⟩ w
  have hen := fun w => ends s ⟨#[32, 64, 64]⟩ w (Nat.le_trans hs (by decide))
  have hx : hdB s.data.toList = (Lib.hasPrefix s.data.toList [64, 64, 32, 45] && (Lib.hasSuffix s.data.toList [32, 64, 64] && decide (7 ≤ s.data.toList.length))) := rfl
  rw [show (ByteArray.mk #[64, 64, 32, 45]).data.toList = [64, 64, 32, 45] from rfl] at hst
  rw [show (ByteArray.mk #[32, 64, 64]).data.toList = [32, 64, 64] from rfl] at hen
  rw [hb] at hx
  obtain ⟨X1, hX1⟩ : ∃ X, Lib.hasPrefix s.data.toList [64, 64, 32, 45] = X := ⟨_, rfl⟩
  obtain ⟨X2, hX2⟩ : ∃ X, Lib.hasSuffix s.data.toList [32, 64, 64] = X := ⟨_, rfl⟩
  rw [hX1] at hst hx
  rw [hX2] at hen hx
  rw [← Lib.size_eq] at hx
  obtain ⟨P, hP⟩ : ∃ P : Ending → Prop, HoP s.data.toList = P := ⟨_, rfl⟩
  rw [hP] at HN ⊢
  have HBL : Hid (Below w.heap.size w (w.alloc (.cells #[.int .i64 0, .int .i64 0, .slice none 0 0] 42))) := below_alloc w _
  clear hX1 hX2 hb hP
  cases X1
  case' true => cases X2
  case' true.true =>
    have h7 : (s.size : Int) < 7 := by simp at hx; omega
  all_goals
    clear hx
    go_enter Tryz.func61, Tryz.ntmps61
    go_wp2_with (go_at_call 60; refine (hst _).mono ?_; rintro e w' ⟨rfl, hw⟩; rw [hw]; clear hw)
    clear hst
    go_wp2_with (go_at_call 90; refine (hen _).mono ?_; rintro e w' ⟨rfl, hw⟩; rw [hw]; clear hw)
    clear hen
    refine bodyPost_ret (v := .tuple #[.agg #[.int .i64 0, .int .i64 0, .slice none 0 0], .int .i64 0, .int .i64 0, .bool false]) (by simp [results, Tryz.results61, go_sem]) rfl ⟨HN.out, HBL.out⟩

set_option maxRecDepth 100000 in
set_option maxHeartbeats 1000000 in
theorem refHead_yes (s : ByteArray) (w : World) (hs : s.size ≤ 400000) (hb : hdB s.data.toList = true) : Calls Tryz.prog 61 #[.string s] w fun e w' => HoP s.data.toList e ∧ Below w.heap.size w w' := by
  have hst := fun w => starts s ⟨#[64, 64, 32, 45]⟩ w
  have hen := fun w => ends s ⟨#[32, 64, 64]⟩ w (Nat.le_trans hs (by decide))
  have hx : hdB s.data.toList = (Lib.hasPrefix s.data.toList [64, 64, 32, 45] && (Lib.hasSuffix s.data.toList [32, 64, 64] && decide (7 ≤ s.data.toList.length))) := rfl
  rw [hb] at hx
  replace hx := hx.symm
  simp only [Bool.and_eq_true, decide_eq_true_eq] at hx
  obtain ⟨x1, x2, x3⟩ := hx
  rw [show (ByteArray.mk #[64, 64, 32, 45]).data.toList = [64, 64, 32, 45] from rfl, x1] at hst
  rw [show (ByteArray.mk #[32, 64, 64]).data.toList = [32, 64, 64] from rfl, x2] at hen
  rw [← Lib.size_eq] at x3
  have h7 : ¬ (s.size : Int) < 7 := by omega
  have z1 : (4 : Int) ≤ (s.size : Int) - 3 := by omega
  have z2 : (s.size : Int) - 3 ≤ s.size := by omega
  have hin' := hin_extract hb
  have hrf := hdo_ref hb
  rw [← hin'] at hrf
  have HM : Hid (s.extract 4 (s.size - 3) = s.extract 4 (s.size - 3)) := rfl
  obtain ⟨M, hM⟩ : ∃ M, s.extract 4 (s.size - 3) = M := ⟨_, rfl⟩
  rw [hM] at hrf
  have hMs : M.size ≤ 400000 := by rw [← hM, ByteArray.size_extract]; omega
  have hf := fun w => findIn M ⟨#[32, 43]⟩ w hMs (by decide) (by decide)
  have HBL : Hid (Below w.heap.size w (w.alloc (.cells #[.int .i64 0, .int .i64 0, .slice none 0 0] 42))) := below_alloc w _
  have hblk := heap_alloc_new w (.cells #[.int .i64 0, .int .i64 0, .slice none 0 0] 42)
  clear hb x1 x2 hin' HM
  rcases Lib.indexB_cases M ⟨#[32, 43]⟩ with hix | ⟨i, hix, hroom⟩
  · have hix' : Lib.index M.data.toList (ByteArray.mk #[32, 43]).data.toList = -1 := hix
    have HN : Hid (HoP s.data.toList (.returned (.tuple #[.agg #[.int .i64 0, .int .i64 0, .slice none 0 0], .int .i64 0, .int .i64 0, .bool false]))) := by
      refine HoP.no ?_
      have := cut_of_none hix'
      rw [show (ByteArray.mk #[32, 43]).data.toList = [32, 43] from rfl] at this
      rw [hrf, this]; rfl
    rw [hix'] at hf
    obtain ⟨P, hP⟩ : ∃ P : Ending → Prop, HoP s.data.toList = P := ⟨_, rfl⟩
    rw [hP] at HN ⊢
    clear hix hix' hrf hP hblk
    go_enter Tryz.func61, Tryz.ntmps61
    go_wp2_with (go_at_call 60; refine (hst _).mono ?_; rintro e w' ⟨rfl, hw⟩; rw [hw]; clear hw)
    clear hst
    go_wp2_with (go_at_call 90; refine (hen _).mono ?_; rintro e w' ⟨rfl, hw⟩; rw [hw]; clear hw)
    clear hen
    go_wp2_with (go_at_call 91; refine (hf _).mono ?_; rintro e w' ⟨rfl, hw⟩; rw [hw]; clear hw)
    refine bodyPost_ret (v := .tuple #[.agg #[.int .i64 0, .int .i64 0, .slice none 0 0], .int .i64 0, .int .i64 0, .bool false]) (by simp [results, Tryz.results61, go_sem]) rfl ⟨HN.out, HBL.out⟩
  · have hix' : Lib.index M.data.toList (ByteArray.mk #[32, 43]).data.toList = i := hix
    have hroom' : i + 2 ≤ M.size := hroom
    have hcut := cut_of_index hix'
    rw [show (ByteArray.mk #[32, 43]).data.toList = [32, 43] from rfl, show (ByteArray.mk #[32, 43]).size = 2 from rfl] at hcut
    rw [hcut] at hrf
    simp only [if_true] at hrf
    rw [hix'] at hf
    have c0 : ¬ ((i : Int) < 0) := by omega
    have c2 : (↑i : Int) ≤ ↑M.size := by omega
    have c3 : (0 : Int) ≤ ↑i + 2 := by omega
    have c4 : (↑i + 2 : Int) ≤ ↑M.size := by omega
    have hs1 := fun w => refSpanOf (M.extract 0 i) w (by rw [ByteArray.size_extract]; omega)
    have hs2 := fun w => refSpanOf (M.extract (i + 2) M.size) w (by rw [ByteArray.size_extract]; omega)
    obtain ⟨o, n, f1, e1, ef1, q1, b1, b2⟩ := spV_form (M.extract 0 i).data.toList
    obtain ⟨p, m, f2, e2, ef2, q2, b3, b4⟩ := spV_form (M.extract (i + 2) M.size).data.toList
    rw [e1] at hs1
    rw [e2] at hs2
    have HN : Hid (HoP s.data.toList (.returned (.tuple #[.agg #[.int .i64 o, .int .i64 p, .slice none 0 0], .int .i64 n, .int .i64 m, .bool (f1 && f2)]))) := by
      refine ⟨o, n, p, m, b1, b2, b3, b4, ?_, fun a b c d h => ?_⟩
      · rw [hrf, ef1, ef2]
        cases spo (M.extract 0 i).data.toList with
        | none => rfl
        | some x => cases spo (M.extract (i + 2) M.size).data.toList <;> rfl
      · rw [hrf] at h
        cases g1 : spo (M.extract 0 i).data.toList with
        | none => rw [g1] at h; simp [hdc] at h
        | some x =>
          cases g2 : spo (M.extract (i + 2) M.size).data.toList with
          | none => rw [g1, g2] at h; simp [hdc] at h
          | some y =>
            obtain ⟨xa, xb⟩ := x
            obtain ⟨ya, yb⟩ := y
            rw [g1, g2] at h
            simp only [hdc, Option.some.injEq, Prod.mk.injEq] at h
            obtain ⟨rfl, rfl, rfl, rfl⟩ := h
            obtain ⟨k1, k2⟩ := q1 _ _ g1
            obtain ⟨k3, k4⟩ := q2 _ _ g2
            exact ⟨k1, k2, k3, k4⟩
    obtain ⟨P, hP⟩ : ∃ P : Ending → Prop, HoP s.data.toList = P := ⟨_, rfl⟩
    rw [hP] at HN ⊢
    clear hblk hix hix' hrf hP hcut q1 q2 ef1 ef2 e1 e2 b1 b2 b3 b4 hroom
    cases f1
    all_goals
      go_enter Tryz.func61, Tryz.ntmps61
      go_wp2_with (go_at_call 60; refine (hst _).mono ?_; rintro e w' ⟨rfl, hw⟩; rw [hw]; clear hw)
      clear hst
      go_wp2_with (go_at_call 90; refine (hen _).mono ?_; rintro e w' ⟨rfl, hw⟩; rw [hw]; clear hw)
      clear hen
      go_wp2_with (go_at_call 91; refine (hf _).mono ?_; rintro e w' ⟨rfl, hw⟩; rw [hw]; clear hw)
      clear hf
      go_wp2_with fail
      refine (hs1 _).mono ?_
      rintro e w' ⟨rfl, hw⟩
      rw [hw]
      clear hw hs1
      go_wp2_with fail
      refine (hs2 _).mono ?_
      rintro e w' ⟨rfl, hw⟩
      rw [hw]
      clear hw hs2
      go_wp2
    · refine bodyPost_ret (v := .tuple #[.agg #[.int .i64 o, .int .i64 p, .slice none 0 0], .int .i64 n, .int .i64 m, .bool (false && f2)]) (by simp [results, Tryz.results61, go_sem]) rfl ⟨HN.out, below_alloc w _⟩
    · refine bodyPost_ret (v := .tuple #[.agg #[.int .i64 o, .int .i64 p, .slice none 0 0], .int .i64 n, .int .i64 m, .bool (true && f2)]) (by simp [results, Tryz.results61, go_sem]) rfl ⟨HN.out, below_alloc w _⟩

theorem refHead (s : ByteArray) (w : World) (hs : s.size ≤ 400000) : Calls Tryz.prog 61 #[.string s] w fun e w' => HoP s.data.toList e ∧ Below w.heap.size w w' := by
  by_cases h : hdB s.data.toList = true
  · exact refHead_yes s w hs h
  · exact refHead_no s w hs (by simpa using h)

end Go.Proofs.YtjgdicghmkfohacGreatDoor
