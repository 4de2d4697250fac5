/-
  Walks of strings.genSplit and strings.SplitN at one byte, six pieces at most: a text of any size.
-/
import Derived.Test.YtppmpofdhkgjmafDoorMem
import Derived.Test.YtppmpofdhkgjmafDoorMlr
import Derived.Lib.CutLaws

namespace Go.Proofs.YtppmpofdhkgjmafDoor
open Go.RowKit Dist

theorem indexB_byte (c : UInt8) (s : ByteArray) : Lib.indexB s ⟨#[c]⟩ = Lib.indexByte s.data.toList c := by
  show Lib.index s.data.toList [c] = _
  rcases cases_at c s.data.toList with h | ⟨a, r, ha, hr⟩
  · rw [index_miss c _ h, indexByte_miss c _ h]
  · rw [hr, index_hit c a r ha, indexByte_hit c a r ha]

set_option maxRecDepth 100000 in
set_option maxHeartbeats 4000000 in
theorem genSplit_six (s : ByteArray) (c : UInt8) (N : Nat) (w : World) (hs : s.size ≤ 140737488355328) (hN : min 6 (s.size + 1) = N) :
    Calls Tryd.prog 77 #[.string s, .string ⟨#[c]⟩, .int .i64 0, .int .i64 6] w fun e w' =>
      e = .returned (.slice (some ⟨w.heap.size, 0, none⟩) (Lib.splitB ⟨#[c]⟩ 0 (N - 1) s).length N) ∧ w' = w.alloc (.cells (Lib.cellsOf (Lib.splitB ⟨#[c]⟩ 0 (N - 1) s) N) 9) := by
  have hN1 : 1 ≤ N := by omega
  have hNs : N ≤ s.size + 1 := by omega
  have hNk : N ≤ 6 := by omega
  have hmin : min (6 : Int) ((s.size : Int) + 1) = (N : Int) := by omega
  have hse : (ByteArray.mk #[c]).toList.isEmpty = false := by rw [Lib.toList_data]; rfl
  have hsz1 : (ByteArray.mk #[c]).size = 1 := rfl
  have hmk := run_make_row' (P := Tryd.prog) 83 9 (.string ByteArray.empty) 16 Tryd.underlying83 Tryd.info9 rfl .i64 .i64 N (by omega) (by omega)
  clear hN
  obtain ⟨sep, hsep⟩ : ∃ sep, sep = ByteArray.mk #[c] := ⟨_, rfl⟩
  have hI : ∀ (x : ByteArray) (w : World), Calls Tryd.prog 104 #[.string x, .string sep] w fun e w' => e = .returned (.int .i64 (Lib.indexB x sep)) ∧ w' = w := fun x w => by
    rw [hsep, indexB_byte]; exact Tryd.strings_Index_one x c w
  rw [← hsep] at hse hsz1 ⊢
  clear hsep
  go_enter Tryd.func77, Tryd.ntmps77
  go_wp2
  clear hmk
  go_loopw [0, 10] (fun s0 s10 wr => ∃ (done : List ByteArray) (rest : ByteArray), s0 = .string rest ∧ s10 = .int .i64 done.length ∧ done.length ≤ N - 1 ∧ rest.size ≤ s.size ∧
    wr = w.alloc (.cells (Lib.cellsOf done N) 9) ∧ done ++ Lib.splitB sep 0 (N - 1 - done.length) rest = Lib.splitB sep 0 (N - 1) s) (fun _ i _ => N - (intOf i).toNat)
  case atStart => exact ⟨[], s, rfl, rfl, Nat.zero_le _, Nat.le_refl _, by rw [Lib.cellsOf_nil], rfl⟩
  case round =>
    obtain ⟨done, rest, rfl, rfl, hd, hrs, rfl, hsp⟩ := hrel
    have hnext : (Lib.cellsOf done N)[done.length]? = some (.string ByteArray.empty) := Lib.cellsOf_next (by omega)
    have HS : Hid (done ++ Lib.splitB sep 0 (N - 1 - done.length) rest = Lib.splitB sep 0 (N - 1) s) := hsp
    clear hsp
    have fin : Hid (Lib.splitB sep 0 (N - 1 - done.length) rest = [rest] → (Lib.splitB sep 0 (N - 1) s).length = done.length + 1 ∧ (Lib.cellsOf done N).setIfInBounds done.length (.string rest) = Lib.cellsOf (Lib.splitB sep 0 (N - 1) s) N) := fun h => by
      have e := HS.out
      rw [h] at e
      rw [← e]
      exact ⟨by simp, Lib.cellsOf_set (by omega) rest⟩
    by_cases hlt : done.length < N - 1
    · have hltz : ((done.length : Nat) : Int) < (N : Int) - 1 := by omega
      rcases Lib.indexB_cases rest sep with hix | ⟨i, hix, hroom⟩
      · go_wp2_with (go_at_call 104; refine (hI rest _).mono ?_; rintro e w' ⟨rfl, hw⟩; rw [hw, hix])
        go_ret
        obtain ⟨f1, f2⟩ := fin.out (Lib.splitB_miss sep 0 _ rest hix)
        rw [f1, ← f2]
        exact ⟨by first | rfl | (congr 2 <;> omega), rfl⟩
      · have c0 : ¬ ((i : Int) < 0) := by omega
        have c2 : (↑i : Int) ≤ ↑rest.size := by omega
        have c3 : (0 : Int) ≤ ↑i + 1 := by omega
        have c4 : (↑i + 1 : Int) ≤ ↑rest.size := by omega
        go_wp2_with (go_at_call 104; refine (hI rest _).mono ?_; rintro e w' ⟨rfl, hw⟩; rw [hw, hix])
        go_roundw
        case rel =>
          refine ⟨done ++ [rest.extract 0 i], rest.extract (i + 1) rest.size, rfl, by simp, by simp; omega, by rw [ByteArray.size_extract]; omega, by rw [← Lib.cellsOf_set (by omega)], ?_⟩
          have hh := Lib.splitB_hit sep 0 (N - 1 - (done.length + 1)) rest i hix
          rw [hsz1, Nat.add_zero] at hh
          rw [← HS.out, show N - 1 - done.length = (N - 1 - (done.length + 1)) + 1 by omega, hh]
          simp
        case measure => simp [intOf]; omega
    · have hltz : ¬ (((done.length : Nat) : Int) < (N : Int) - 1) := by omega
      go_wp2
      go_ret
      obtain ⟨f1, f2⟩ := fin.out (by rw [show N - 1 - done.length = 0 by omega]; rfl)
      rw [f1, ← f2]
      exact ⟨by first | rfl | (congr 2 <;> omega), rfl⟩

theorem spl_bytes (t : ByteArray) (n : Nat) (s : ByteArray) : bts (Lib.splitB t 0 (min n (s.size + 1) - 1) s) = spl t.data.toList n s.data.toList := by
  show (Lib.splitB t 0 (min n (s.size + 1) - 1) s).map (·.data.toList) = _
  rw [Lib.splitB_data, Lib.size_eq]; rfl

/-- A text in six pieces at most: they lie in a new block. -/
theorem splitSix (s : ByteArray) (w : World) (hs : s.size ≤ 140737488355328) :
    Calls Tryd.prog 70 #[.string s, .string ⟨#[10]⟩, .int .i64 6] w fun e w' => ∃ (ps : List ByteArray) (N : Nat), e = .returned (.slice (some ⟨w.heap.size, 0, none⟩) ps.length N) ∧
      bts ps = spl [10] 6 s.data.toList ∧ 1 ≤ ps.length ∧ ps.length ≤ N ∧ N ≤ 6 ∧ w' = w.alloc (.cells (Lib.cellsOf ps N) 9) := by
  have hg := genSplit_six s 10 (min 6 (s.size + 1)) w hs rfl
  have hd := spl_bytes ⟨#[10]⟩ 6 s
  have hl := Lib.splitB_length_le ⟨#[10]⟩ 0 (min 6 (s.size + 1) - 1) s
  have h1 : 1 ≤ (Lib.splitB ⟨#[10]⟩ 0 (min 6 (s.size + 1) - 1) s).length := by
    cases h : Lib.splitB ⟨#[10]⟩ 0 (min 6 (s.size + 1) - 1) s with
    | nil =>
      exfalso
      cases k : min 6 (s.size + 1) - 1 with
      | zero => rw [k] at h; cases h
      | succ k2 =>
        rw [k, Lib.splitB] at h
        split at h <;> cases h
    | cons a b => simp
  obtain ⟨N, hN⟩ : ∃ N, min 6 (s.size + 1) = N := ⟨_, rfl⟩
  have hN6 : N ≤ 6 := by omega
  have hN1 : 1 ≤ N := by omega
  rw [hN] at hg hd hl h1
  obtain ⟨ps, hp⟩ : ∃ ps, Lib.splitB ⟨#[10]⟩ 0 (N - 1) s = ps := ⟨_, rfl⟩
  rw [hp] at hg hd hl h1
  have HD : Hid (bts ps = spl [10] 6 s.data.toList) := hd
  clear hd hp hN hs
  go_enter Tryd.func70, Tryd.ntmps70
  go_wp2_with (go_at_call 77; refine hg.mono ?_; rintro e w' ⟨rfl, hw⟩; rw [hw])
  go_ret
  exact ⟨ps, N, rfl, HD.out, h1, by omega, hN6, rfl⟩

end Go.Proofs.YtppmpofdhkgjmafDoor
