/-
  Walks of strings.genSplit and strings.Split at one byte: a text in all its pieces.
-/
import Derived.Test.YtfmhapajdnmhoafDoorXm
import Derived.Lib.CutLaws
namespace Go.Proofs.YtfmhapajdnmhoafDoor
open Go.RowKit

theorem indexB_byte (c : UInt8) (s : ByteArray) : Lib.indexB s ⟨#[c]⟩ = Lib.indexByte s.data.toList c := by
  show Lib.index s.data.toList [c] = _
  rcases cases_at c s.data.toList with h | ⟨a, r, ha, hr⟩
  · rw [index_miss c _ h, indexByte_miss c _ h]
  · rw [hr, index_hit c a r ha, indexByte_hit c a r ha]

theorem parts_count (c : UInt8) (s : List UInt8) : (parts c s).1.length = s.count c := by
  induction s with
  | nil => rfl
  | cons b r ih =>
    rw [parts, List.count_cons]
    by_cases h : b = c
    · rw [if_pos h, List.length_cons, ih, h]; simp
    · rw [if_neg h, if_neg (by simpa using h), Nat.add_zero, ← ih]
      split
      · rename_i e; rw [e]
      · rename_i e; rw [e]; simp

set_option maxRecDepth 100000 in
set_option maxHeartbeats 4000000 in
theorem genSplit_all (s : ByteArray) (c : UInt8) (N : Nat) (w : World) (hs : s.size ≤ 400000) (hN : s.data.toList.count c + 1 = N) :
    Calls Tryd.prog 31 #[.string s, .string ⟨#[c]⟩, .int .i64 0, .int .i64 (-1)] w fun e w' =>
      e = .returned (.slice (some ⟨w.heap.size, 0, none⟩) (Lib.splitB ⟨#[c]⟩ 0 (N - 1) s).length N) ∧ w' = w.alloc (.cells (Lib.cellsOf (Lib.splitB ⟨#[c]⟩ 0 (N - 1) s) N) 9) := by
  have hcl : s.data.toList.count c ≤ s.size := by rw [Lib.size_eq]; exact List.count_le_length
  have hct := Tryd.strings_Count_one s c
  have hN1 : 1 ≤ N := by omega
  have hNs : N ≤ s.size + 1 := by omega
  have hNk : N ≤ 400001 := by omega
  have hcc : Lib.countByte s.data.toList c = N - 1 := by show s.data.toList.count c = _; omega
  rw [hcc] at hct
  have hmin : min (((N - 1 : Nat) : Int) + 1) ((s.size : Int) + 1) = (N : Int) := by omega
  have hse : (ByteArray.mk #[c]).toList.isEmpty = false := by rw [Lib.toList_data]; rfl
  have hsz1 : (ByteArray.mk #[c]).size = 1 := rfl
  have hmk := run_make_row' (P := Tryd.prog) 52 9 (.string ByteArray.empty) 16 Tryd.underlying52 Tryd.info9 rfl .i64 .i64 N (by omega) (by omega)
  clear hN hcl hcc
  obtain ⟨sep, hsep⟩ : ∃ sep, sep = ByteArray.mk #[c] := ⟨_, rfl⟩
  have hI : ∀ (x : ByteArray) (w : World), Calls Tryd.prog 44 #[.string x, .string sep] w fun e w' => e = .returned (.int .i64 (Lib.indexB x sep)) ∧ w' = w := fun x w => by
    rw [hsep, indexB_byte]; exact Tryd.strings_Index_one x c w
  rw [← hsep] at hse hsz1 hct ⊢
  clear hsep
  go_enter Tryd.func31, Tryd.ntmps31
  go_wp2_with (go_at_call 43; refine (hct _).mono ?_; rintro e w' ⟨rfl, hw⟩; rw [hw])
  clear hmk hct
  go_loopw [0, 10] (fun s0 s10 wr => ∃ (done : List ByteArray) (rest : ByteArray), s0 = .string rest ∧ s10 = .int .i64 done.length ∧ done.length ≤ N - 1 ∧ rest.size ≤ s.size ∧
    wr = w.alloc (.cells (Lib.cellsOf done N) 9) ∧ done ++ Lib.splitB sep 0 (N - 1 - done.length) rest = Lib.splitB sep 0 (N - 1) s) (fun _ i _ => N - (intOf i).toNat)
  case atStart => exact ⟨[], s, rfl, rfl, Nat.zero_le _, Nat.le_refl _, by rw [Lib.cellsOf_nil], rfl⟩
  case round =>
    obtain ⟨done, rest, rfl, rfl, hd, hrs, rfl, hsp⟩ := hrel
    have hnext : (Lib.cellsOf done N)[done.length]? = some (.string ByteArray.empty) := Lib.cellsOf_next (by omega)
    have HS : Hid (done ++ Lib.splitB sep 0 (N - 1 - done.length) rest = Lib.splitB sep 0 (N - 1) s) := hsp
    clear hsp
    have fin : Hid (Lib.splitB sep 0 (N - 1 - done.length) rest = [rest] → (Lib.splitB sep 0 (N - 1) s).length = done.length + 1 ∧ (Lib.cellsOf done N).setIfInBounds done.length (.string rest) = Lib.cellsOf (Lib.splitB sep 0 (N - 1) s) N) := fun h => by
      have e := HS.out
      rw [h] at e
      rw [← e]
      exact ⟨by simp, Lib.cellsOf_set (by omega) rest⟩
    by_cases hlt : done.length < N - 1
    · have hltz : ((done.length : Nat) : Int) < (N : Int) - 1 := by omega
      rcases Lib.indexB_cases rest sep with hix | ⟨i, hix, hroom⟩
      · go_wp2_with (go_at_call 44; refine (hI rest _).mono ?_; rintro e w' ⟨rfl, hw⟩; rw [hw, hix])
        go_ret
        obtain ⟨f1, f2⟩ := fin.out (Lib.splitB_miss sep 0 _ rest hix)
        rw [f1, ← f2]
        exact ⟨by first | rfl | (congr 2 <;> omega), rfl⟩
      · have c0 : ¬ ((i : Int) < 0) := by omega
        have c2 : (↑i : Int) ≤ ↑rest.size := by omega
        have c3 : (0 : Int) ≤ ↑i + 1 := by omega
        have c4 : (↑i + 1 : Int) ≤ ↑rest.size := by omega
        go_wp2_with (go_at_call 44; refine (hI rest _).mono ?_; rintro e w' ⟨rfl, hw⟩; rw [hw, hix])
        go_roundw
        case rel =>
          refine ⟨done ++ [rest.extract 0 i], rest.extract (i + 1) rest.size, rfl, by simp, by simp; omega, by rw [ByteArray.size_extract]; omega, by rw [← Lib.cellsOf_set (by omega)], ?_⟩
          have hh := Lib.splitB_hit sep 0 (N - 1 - (done.length + 1)) rest i hix
          rw [hsz1, Nat.add_zero] at hh
          rw [← HS.out, show N - 1 - done.length = (N - 1 - (done.length + 1)) + 1 by omega, hh]
          simp
        case measure => simp [intOf]; omega
    · have hltz : ¬ (((done.length : Nat) : Int) < (N : Int) - 1) := by omega
      go_wp2
      go_ret
      obtain ⟨f1, f2⟩ := fin.out (by rw [show N - 1 - done.length = 0 by omega]; rfl)
      rw [f1, ← f2]
      exact ⟨by first | rfl | (congr 2 <;> omega), rfl⟩

set_option maxHeartbeats 1000000 in
theorem splitAll (s : ByteArray) (w : World) (hs : s.size ≤ 400000) :
    Calls Tryd.prog 16 #[.string s, .string ⟨#[10]⟩] w fun e w' => ∃ (ps : List ByteArray), e = .returned (.slice (some ⟨w.heap.size, 0, none⟩) ps.length ps.length) ∧
      bts ps = (parts 10 s.data.toList).1 ++ [(parts 10 s.data.toList).2] ∧ Below w.heap.size w w' ∧ Strs w' (some ⟨w.heap.size, 0, none⟩) ps := by
  have hg := genSplit_all s 10 (s.data.toList.count 10 + 1) w hs rfl
  have hd := Lib.splitB_data ⟨#[10]⟩ 0 (s.data.toList.count 10 + 1 - 1) s
  obtain ⟨r, hr, hr2⟩ := splitK_parts 10 (s.data.toList.count 10 + 1 - 1) s.data.toList
  have hpc := parts_count 10 s.data.toList
  have hr3 := hr2 (by omega)
  rw [show (ByteArray.mk #[10]).data.toList = [10] from rfl, hr, hr3, List.take_of_length_le (by omega)] at hd
  obtain ⟨ps, hp⟩ : ∃ ps, Lib.splitB ⟨#[10]⟩ 0 (s.data.toList.count 10 + 1 - 1) s = ps := ⟨_, rfl⟩
  rw [hp] at hg hd
  have hlen := congrArg List.length hd
  rw [List.length_map, List.length_append, List.length_singleton, hpc] at hlen
  rw [← hlen] at hg
  have HD : Hid (bts ps = (parts 10 s.data.toList).1 ++ [(parts 10 s.data.toList).2]) := hd
  clear hd hp hr hr2 hr3 hpc hlen hs
  go_enter Tryd.func16, Tryd.ntmps16
  go_wp2_with (go_at_call 31; refine hg.mono ?_; rintro e w' ⟨rfl, hw⟩; rw [hw])
  go_ret
  refine ⟨ps, rfl, HD.out, (Below.refl _ _).alloc (Nat.le_refl _) _, ?_⟩
  intro i hi
  refine ⟨_, 0, rfl, ?_⟩
  have hblk := heap_alloc_new w (.cells (Lib.cellsOf ps ps.length) 9)
  rw [Nat.zero_add, Lib.cell_of_heap hblk, cellsOf_at ps ps.length i hi]

end Go.Proofs.YtfmhapajdnmhoafDoor
