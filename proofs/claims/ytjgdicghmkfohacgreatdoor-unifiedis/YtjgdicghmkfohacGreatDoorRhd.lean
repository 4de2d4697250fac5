/-
  Walks of the document's own answers for spans and heads of hunks, read.
-/
import Derived.Test.YtjgdicghmkfohacGreatDoorRdc
import Derived.Test.YtjgdicghmkfohacGreatDoorUmc

namespace Go.Proofs.YtjgdicghmkfohacGreatDoor
open Go.RowKit

/-- What a span that is read answers. -/
def spV (o : Option (Nat × Nat)) : Value := match o with
  | some (a, n) => .tuple #[.int .i64 a, .int .i64 n, .bool true]
  | none => .tuple #[.int .i64 0, .int .i64 0, .bool false]

theorem cut_of_index {s : ByteArray} {sep : ByteArray} {i : Nat} (h : Lib.index s.data.toList sep.data.toList = i) : Lib.cut s.data.toList sep.data.toList = ((s.extract 0 i).data.toList, (s.extract (i + sep.size) s.size).data.toList, true) := by
  obtain ⟨e1, e2, e3⟩ := Lib.cutB_hit s sep i h
  have h1 : (Lib.cut s.data.toList sep.data.toList).1 = (s.extract 0 i).data.toList := by rw [← e1]
  have h2 : (Lib.cut s.data.toList sep.data.toList).2.1 = (s.extract (i + sep.size) s.size).data.toList := by rw [← e2]
  rw [← h1, ← h2, ← e3]

theorem cut_of_none {s : ByteArray} {sep : ByteArray} (h : Lib.index s.data.toList sep.data.toList = -1) : (Lib.cut s.data.toList sep.data.toList).2.2 = false := (Lib.cutB_miss s sep h).2.2

set_option maxRecDepth 100000 in
set_option maxHeartbeats 1000000 in
theorem refSpanOf (s : ByteArray) (w : World) (hs : s.size ≤ 400000) : Calls Tryz.prog 92 #[.string s] w fun e w' => e = .returned (spV (spo s.data.toList)) ∧ w' = w := by
  have E : Hid (∀ r o, spo s.data.toList = o → spV o = r → Ending.returned r = .returned (spV (spo s.data.toList))) := fun r o h1 h2 => by rw [h1, h2]
  have hf := findIn s ⟨#[44]⟩ w hs (by decide) (by decide)
  rcases Lib.indexB_cases s ⟨#[44]⟩ with hix | ⟨i, hix, hroom⟩
  · have hix' : Lib.index s.data.toList (ByteArray.mk #[44]).data.toList = -1 := hix
    have HC : Hid (spo s.data.toList = none) := by
      show spo s.data.toList = none
      have := cut_of_none hix'
      rw [show (ByteArray.mk #[44]).data.toList = [44] from rfl] at this
      unfold spo
      rw [this]; rfl
    rw [hix'] at hf
    clear hix hix'
    go_enter Tryz.func92, Tryz.ntmps92
    go_wp2_with (go_at_call 91; refine hf.mono ?_; rintro e w' ⟨rfl, hw⟩; rw [hw])
    go_ret3
    exact ⟨E.out _ _ HC.out rfl, rfl⟩
  · have hix' : Lib.index s.data.toList (ByteArray.mk #[44]).data.toList = i := hix
    have hroom' : i + 1 ≤ s.size := hroom
    have hcut := cut_of_index hix'
    rw [show (ByteArray.mk #[44]).data.toList = [44] from rfl, show (ByteArray.mk #[44]).size = 1 from rfl] at hcut
    have HC : Hid (spo s.data.toList = spc (num (s.extract 0 i).data.toList) (num (s.extract (i + 1) s.size).data.toList)) := by
      show spo s.data.toList = _
      unfold spo
      rw [hcut]; rfl
    rw [hix'] at hf
    have c0 : ¬ ((i : Int) < 0) := by omega
    have c2 : (↑i : Int) ≤ ↑s.size := by omega
    have c3 : (0 : Int) ≤ ↑i + 1 := by omega
    have c4 : (↑i + 1 : Int) ≤ ↑s.size := by omega
    have hn1 := numberOf (s.extract 0 i) w (by rw [ByteArray.size_extract]; omega)
    have hn2 := numberOf (s.extract (i + 1) s.size) w (by rw [ByteArray.size_extract]; omega)
    obtain ⟨o1, ho1⟩ : ∃ o, num (s.extract 0 i).data.toList = o := ⟨_, rfl⟩
    obtain ⟨o2, ho2⟩ : ∃ o, num (s.extract (i + 1) s.size).data.toList = o := ⟨_, rfl⟩
    have hb1 : ∀ m, o1 = some m → m ≤ 999 := fun m h => (num_iff.1 (ho1.trans h)).1
    have hb2 : ∀ m, o2 = some m → m ≤ 999 := fun m h => (num_iff.1 (ho2.trans h)).1
    rw [ho1] at hn1 HC
    rw [ho2] at hn2 HC
    clear hix hix' hcut ho1 ho2 hroom
    cases o1 with
    | none =>
      have HC2 : Hid (spo s.data.toList = none) := by show spo s.data.toList = none; rw [HC.out]; cases o2 <;> rfl
      obtain ⟨q, hq⟩ : ∃ q, nmI o2 = q := ⟨_, rfl⟩
      rw [hq] at hn2
      rw [show nmI none = -1 from rfl] at hn1
      clear hb1 hb2 hq
      go_enter Tryz.func92, Tryz.ntmps92
      go_wp2_with (go_at_call 91; refine hf.mono ?_; rintro e w' ⟨rfl, hw⟩; rw [hw]; clear hw)
      go_wp2_with fail
      refine hn1.mono ?_
      rintro e w' ⟨rfl, hw⟩
      rw [hw]
      clear hw hn1
      go_wp2_with fail
      refine hn2.mono ?_
      rintro e w' ⟨rfl, hw⟩
      rw [hw]
      clear hw hn2
      go_wp2
      go_ret3
      exact ⟨E.out _ _ HC2.out rfl, rfl⟩
    | some x =>
      have hx := hb1 x rfl
      rw [show nmI (some x) = (x : Int) from rfl] at hn1
      cases o2 with
      | none =>
        have HC2 : Hid (spo s.data.toList = none) := by show spo s.data.toList = none; rw [HC.out]; rfl
        rw [show nmI none = -1 from rfl] at hn2
        clear hb1 hb2
        go_enter Tryz.func92, Tryz.ntmps92
        go_wp2_with (go_at_call 91; refine hf.mono ?_; rintro e w' ⟨rfl, hw⟩; rw [hw]; clear hw)
        go_wp2_with fail
        refine hn1.mono ?_
        rintro e w' ⟨rfl, hw⟩
        rw [hw]
        clear hw hn1
        go_wp2_with fail
        refine hn2.mono ?_
        rintro e w' ⟨rfl, hw⟩
        rw [hw]
        clear hw hn2
        go_wp2
        go_ret3
        exact ⟨E.out _ _ HC2.out rfl, rfl⟩
      | some y =>
        have hy := hb2 y rfl
        rw [show nmI (some y) = (y : Int) from rfl] at hn2
        clear hb1 hb2
        by_cases hy0 : y = 0
        case' pos =>
          have HC2 : Hid (spo s.data.toList = some (x, 0)) := by show spo s.data.toList = _; rw [HC.out, hy0]; rfl
          have y1 : ¬ (0 : Int) < y := by omega
          have HY : Hid (y = 0) := hy0
          clear hy0
        case' neg =>
          have y1 : (0 : Int) < y := by omega
          by_cases hx0 : x = 0
          case' pos =>
            have HC2 : Hid (spo s.data.toList = none) := by show spo s.data.toList = _; rw [HC.out]; unfold spc; simp [hy0, hx0]
            have x1 : ((x : Int) == 0) = true := by rw [hx0]; rfl
            clear hy0 hx0
          case' neg =>
            have HC2 : Hid (spo s.data.toList = some (x - 1, y)) := by show spo s.data.toList = _; rw [HC.out]; unfold spc; simp [hy0, hx0]
            have x1 : ((x : Int) == 0) = false := by simpa using hx0
            have HX : Hid (((x - 1 : Nat) : Int) = (x : Int) - 1) := by show ((x - 1 : Nat) : Int) = _; omega
            clear hy0 hx0
        all_goals
          go_enter Tryz.func92, Tryz.ntmps92
          go_wp2_with (go_at_call 91; refine hf.mono ?_; rintro e w' ⟨rfl, hw⟩; rw [hw]; clear hw)
          go_wp2_with fail
          refine hn1.mono ?_
          rintro e w' ⟨rfl, hw⟩
          rw [hw]
          clear hw hn1
          go_wp2_with fail
          refine hn2.mono ?_
          rintro e w' ⟨rfl, hw⟩
          rw [hw]
          clear hw hn2
          go_wp2
          go_ret3
        · exact ⟨E.out _ _ HC2.out (by unfold spV; dsimp only; rw [HX.out]; rfl), rfl⟩
        · exact ⟨E.out _ _ HC2.out rfl, rfl⟩
        · exact ⟨E.out _ _ HC2.out (by unfold spV; dsimp only; rw [← HY.out]; rfl), rfl⟩

/-- A head's beginning and end, and room for both. -/
def hdB (s : List UInt8) : Bool := Lib.hasPrefix s [64, 64, 32, 45] && (Lib.hasSuffix s [32, 64, 64] && decide (7 ≤ s.length))

theorem hdB_iff {s : List UInt8} : hdB s = true ↔ s = [64, 64, 32, 45] ++ (hin s ++ [32, 64, 64]) := by
  constructor
  · intro h
    unfold hdB at h
    simp only [Bool.and_eq_true, decide_eq_true_eq] at h
    obtain ⟨h1, h2, h3⟩ := h
    obtain ⟨r, hr⟩ := isPrefixOf_iff.1 h1
    obtain ⟨q, hq⟩ := isSuffixOf_iff.1 h2
    have hl := congrArg List.length hq
    rw [List.length_append] at hl
    simp only [List.length_cons, List.length_nil] at hl
    have h4 : q = [64, 64, 32, 45] ++ q.drop 4 := by
      have e : s.take 4 = [64, 64, 32, 45] := by rw [hr]; rfl
      rw [hq, List.take_append_of_le_length (by omega)] at e
      rw [← e, List.take_append_drop]
    have h5 : s = [64, 64, 32, 45] ++ (q.drop 4 ++ [32, 64, 64]) := by rw [← List.append_assoc, ← h4]; exact hq
    have h6 := (hin_of (q.drop 4)).2.2
    rw [← h5] at h6
    rw [h6]; exact h5
  · intro h
    have h1 := hin_of (hin s)
    rw [← h] at h1
    unfold hdB
    rw [h1.1, Bool.true_and, Bool.and_eq_true, decide_eq_true_eq]
    refine ⟨isSuffixOf_iff.2 ⟨[64, 64, 32, 45] ++ hin s, by rw [List.append_assoc]; exact h⟩, ?_⟩
    rw [h, List.length_append, List.length_append]
    simp; omega

theorem hdo_ref {s : List UInt8} (h : hdB s = true) : hdo s = if (Lib.cut (hin s) [32, 43]).2.2 = true then hdc (spo (Lib.cut (hin s) [32, 43]).1) (spo (Lib.cut (hin s) [32, 43]).2.1) else none := by
  unfold hdo
  have h1 := hdB_iff.1 h
  have h2 := hin_of (hin s)
  rw [← h1] at h2
  have e : hfit s = (Lib.cut (hin s) [32, 43]).2.2 := by
    unfold hfit
    rw [h2.1, h2.2.1]; rfl
  rw [e]

theorem hdo_ref_no {s : List UInt8} (h : hdB s = false) : hdo s = none := by
  unfold hdo
  rw [if_neg]
  intro hf
  obtain ⟨_, _, _, h2⟩ := hfit_iff.1 hf
  rw [hdB_iff.2 h2] at h
  cases h

theorem hin_extract {s : ByteArray} (h : hdB s.data.toList = true) : (s.extract 4 (s.size - 3)).data.toList = hin s.data.toList := by
  have h1 := hdB_iff.1 h
  have hl := congrArg List.length h1
  rw [List.length_append, List.length_append, ← Lib.size_eq] at hl
  simp only [List.length_cons, List.length_nil] at hl
  rw [Lib.extract_data]
  obtain ⟨t, ht⟩ : ∃ t, hin s.data.toList = t := ⟨_, rfl⟩
  rw [ht] at h1 hl ⊢
  rw [h1]
  show (t ++ [32, 64, 64]).take (s.size - 3 - 4) = t
  rw [List.take_left' (by omega)]

end Go.Proofs.YtjgdicghmkfohacGreatDoor
