/-
  Walks of the Builder's copyCheck and WriteString at this program. Walk of line.Join: good lines are joined, the others are refused. Walks of line.Copy and of strings.genSplit at one byte and a positive count. Walks of strings.SplitN, line.cut and line.Split.
-/
import Derived.Test.YtnkdmgekpajfhaeDoorMem
import Derived.Lib.Walk
import Derived.Lib.Builder
import Derived.Deep.OwnRows
import Derived.Deep.LoopGhost
import Derived.Lib.Split
import Derived.Laws.Strings3
namespace Go.Proofs.YtnkdmgekpajfhaeDoor
open Go.RowKit

end Go.Proofs.YtnkdmgekpajfhaeDoor
namespace Go.Proofs.YtnkdmgekpajfhaeDoor
open Go.RowKit

/-- Bytes as a string. -/
def str (l : List UInt8) : ByteArray := ⟨l.toArray⟩
theorem str_data (l : List UInt8) : (str l).data.toList = l := by simp [str]
theorem data_str (s : ByteArray) : str s.data.toList = s := by cases s; simp [str]
theorem str_size (l : List UInt8) : (str l).size = l.length := by simp [str, ByteArray.size]

theorem joinC_snoc (c : UInt8) (l : List (List UInt8)) (x : List UInt8) : joinC c (l ++ [x]) = joinC c l ++ (x ++ [c]) := by
  rw [joinC_append]; simp [joinC]

end Go.Proofs.YtnkdmgekpajfhaeDoor
namespace Go.Proofs.YtnkdmgekpajfhaeDoor
open Go.RowKit

set_option maxRecDepth 100000 in
set_option maxHeartbeats 2000000 in
theorem copied (a : Option Addr) (ss : List ByteArray) (ca : Nat) (w : World) (ha : Strs w a ss) (hl : ss.length ≤ 60) (hs : ∀ s ∈ ss, s.size ≤ 80) :
    Calls Tryd.prog 45 #[.slice a ss.length ca] w fun e w' => e = .returned (.slice (some ⟨w.heap.size, 0, none⟩) ss.length ss.length) ∧ Below w.heap.size w w' ∧ Strs w' (some ⟨w.heap.size, 0, none⟩) ss := by
  obtain ⟨n, hn⟩ : ∃ n, ss.length = n := ⟨_, rfl⟩
  rw [hn] at hl ⊢
  have HN : Hid (ss.length = n) := hn
  have HS : Hid (∀ s ∈ ss, s.size ≤ 80) := hs
  clear hn hs
  obtain ⟨B, hB⟩ : ∃ B, w.heap.size = B := ⟨_, rfl⟩
  have HB : Hid (w.heap.size = B) := hB
  have hmk := run_make_row' (P := Tryd.prog) 52 9 (.string ByteArray.empty) 16 Tryd.underlying52 Tryd.info9 rfl .i64 .i64 n (by omega) (by omega)
  go_enter Tryd.func45, Tryd.ntmps45
  go_wp2
  clear hmk
  go_loopw [11] (fun i w1 => ∃ k : Nat, k ≤ n ∧ i = .int .i64 k ∧ Below B w w1 ∧ B < w1.heap.size ∧ w1.heap[B]? = some (.cells (Lib.cellsOf (ss.take k) n) 9 (0, 0))) (fun i _ => n - (intOf i).toNat)
  case atStart =>
    refine ⟨0, Nat.zero_le _, rfl, (Below.refl _ _).alloc (by rw [hB]; exact Nat.le_refl _) _, by simp; omega, ?_⟩
    rw [List.take_zero, Lib.cellsOf_nil]
    subst hB
    exact heap_alloc_new w _
  case round =>
    obtain ⟨k, hk, rfl, hbl, hsz, hblk⟩ := hrel
    by_cases hlt : k < n
    · obtain ⟨b, off, rfl, hc⟩ := Strs.at ha (i := k) (by rw [HN.out]; exact hlt)
      have hc := hc k (by rw [HN.out]; exact hlt)
      have hc := cell_later (by rw [HB.out]; exact hbl) hc
      have hk' : k < ss.length := by rw [HN.out]; exact hlt
      have e : ss.getD k ByteArray.empty = ss[k] := by simp [hk']
      have hxs : (ss.getD k ByteArray.empty).size ≤ 80 := HS.out _ (by rw [e]; exact List.getElem_mem _)
      have hnext : ss.take (k + 1) = ss.take k ++ [ss.getD k ByteArray.empty] := by rw [e]; exact List.take_succ_eq_append_getElem hk'
      obtain ⟨x, hx⟩ : ∃ x, ss.getD k ByteArray.empty = x := ⟨_, rfl⟩
      rw [hx] at hc hxs hnext
      have hlen : (ss.take k).length = k := by rw [List.length_take]; omega
      obtain ⟨pre, hpre⟩ : ∃ pre, ss.take k = pre := ⟨_, rfl⟩
      rw [hpre] at hblk hlen hnext
      have HNX : Hid (ss.take (k + 1) = pre ++ [x]) := hnext
      have HLEN : Hid (pre.length = k) := hlen
      clear e hx hnext hlen hpre ha hk'
      have hcl := clone x wr (by omega)
      go_wp2_with (go_at_call 31; refine hcl.mono ?_)
      rintro e w1 ⟨rfl, hb1⟩
      clear hcl
      have hblk1 := blk_below hb1 hsz hblk
      have hs1 := hb1.size
      have hcell : w1.cell? ⟨B, k, none⟩ = some (.string ByteArray.empty) := by
        rw [Lib.cell_of_heap hblk1, ← HLEN.out]; exact Lib.cellsOf_next (by rw [HLEN.out]; exact hlt)
      have hfr : w1.frozen? ⟨B, k, none⟩ = false := Lib.frozen_of_heap hblk1 k
      go_wp2
      go_roundw
      case rel =>
        refine ⟨k + 1, by omega, by go_num, (hbl.trans (hb1.mono (by omega))).setCell (by simp) _, by simp; omega, ?_⟩
        rw [HNX.out, ← Lib.cellsOf_set (by rw [HLEN.out]; exact hlt), HLEN.out]
        exact blk_set hblk1 _
      case measure => simp [intOf]; omega
    · obtain rfl : k = n := by omega
      go_wp2
      go_ret
      refine ⟨by rw [HB.out]; rfl, by rw [HB.out]; exact hbl, ?_⟩
      intro i hi
      refine ⟨B, 0, by rw [HB.out], ?_⟩
      rw [List.take_of_length_le (by have := HN.out; omega)] at hblk
      rw [Nat.zero_add, Lib.cell_of_heap hblk]
      exact cellsOf_at ss _ i hi

/-! ### strings.genSplit at one byte and a positive count, at texts of whatever length -/
theorem indexB_one (c : UInt8) (s : ByteArray) : Lib.indexB s ⟨#[c]⟩ = Lib.indexByte s.data.toList c := by
  show Lib.index s.data.toList [c] = _
  rcases cases_at c s.data.toList with h | ⟨a, r, ha, hr⟩
  · rw [index_miss c _ h, indexByte_miss c _ h]
  · rw [hr, index_hit c a r ha, indexByte_hit c a r ha]

set_option maxRecDepth 100000 in
set_option maxHeartbeats 4000000 in
theorem genSplit_pos (s : ByteArray) (c : UInt8) (n N : Nat) (w : World) (hs : s.size ≤ 140737488355328) (hn : 1 ≤ n) (hn2 : n ≤ 1000) (hN : min n (s.size + 1) = N) :
    Calls Tryd.prog 104 #[.string s, .string ⟨#[c]⟩, .int .i64 0, .int .i64 n] w fun e w' =>
      e = .returned (.slice (some ⟨w.heap.size, 0, none⟩) (Lib.splitB ⟨#[c]⟩ 0 (N - 1) s).length N) ∧ w' = w.alloc (.cells (Lib.cellsOf (Lib.splitB ⟨#[c]⟩ 0 (N - 1) s) N) 9) := by
  have hN1 : 1 ≤ N := by omega
  have hNs : N ≤ s.size + 1 := by omega
  have hNk : N ≤ 1000 := by omega
  have hmin : min (n : Int) ((s.size : Int) + 1) = (N : Int) := by omega
  have hne : ((n : Int) == 0) = false := by simp; omega
  have hng : ¬ (n : Int) < 0 := by omega
  have hse : (ByteArray.mk #[c]).toList.isEmpty = false := by rw [Lib.toList_data]; rfl
  have hsz1 : (ByteArray.mk #[c]).size = 1 := rfl
  have hmk := run_make_row' (P := Tryd.prog) 52 9 (.string ByteArray.empty) 16 Tryd.underlying52 Tryd.info9 rfl .i64 .i64 N (by omega) (by omega)
  clear hN hn hn2
  obtain ⟨sep, hsep⟩ : ∃ sep, sep = ByteArray.mk #[c] := ⟨_, rfl⟩
  have hI : ∀ (x : ByteArray) (w : World), Calls Tryd.prog 95 #[.string x, .string sep] w fun e w' => e = .returned (.int .i64 (Lib.indexB x sep)) ∧ w' = w := fun x w => by
    rw [hsep, indexB_one]; exact Tryd.strings_Index_one x c w
  rw [← hsep] at hse hsz1 ⊢
  clear hsep
  go_enter Tryd.func104, Tryd.ntmps104
  go_wp2
  clear hmk
  go_loopw [0, 10] (fun s0 s10 wr => ∃ (done : List ByteArray) (rest : ByteArray), s0 = .string rest ∧ s10 = .int .i64 done.length ∧ done.length ≤ N - 1 ∧ rest.size ≤ s.size ∧
    wr = w.alloc (.cells (Lib.cellsOf done N) 9) ∧ done ++ Lib.splitB sep 0 (N - 1 - done.length) rest = Lib.splitB sep 0 (N - 1) s) (fun _ i _ => N - (intOf i).toNat)
  case atStart => exact ⟨[], s, rfl, rfl, Nat.zero_le _, Nat.le_refl _, by rw [Lib.cellsOf_nil], rfl⟩
  case round =>
    obtain ⟨done, rest, rfl, rfl, hd, hrs, rfl, hsp⟩ := hrel
    have hnext : (Lib.cellsOf done N)[done.length]? = some (.string ByteArray.empty) := Lib.cellsOf_next (by omega)
    have HS : Hid (done ++ Lib.splitB sep 0 (N - 1 - done.length) rest = Lib.splitB sep 0 (N - 1) s) := hsp
    clear hsp
    have fin : Hid (Lib.splitB sep 0 (N - 1 - done.length) rest = [rest] → (Lib.splitB sep 0 (N - 1) s).length = done.length + 1 ∧ (Lib.cellsOf done N).setIfInBounds done.length (.string rest) = Lib.cellsOf (Lib.splitB sep 0 (N - 1) s) N) := fun h => by
      have e := HS.out
      rw [h] at e
      rw [← e]
      exact ⟨by simp, Lib.cellsOf_set (by omega) rest⟩
    by_cases hlt : done.length < N - 1
    · have hltz : ((done.length : Nat) : Int) < (N : Int) - 1 := by omega
      rcases Lib.indexB_cases rest sep with hix | ⟨i, hix, hroom⟩
      · go_wp2_with (go_at_call 95; refine (hI rest _).mono ?_; rintro e w' ⟨rfl, hw⟩; rw [hw, hix])
        go_ret
        obtain ⟨f1, f2⟩ := fin.out (Lib.splitB_miss sep 0 _ rest hix)
        rw [f1, ← f2]
        exact ⟨by first | rfl | (congr 2 <;> omega), rfl⟩
      · have c0 : ¬ ((i : Int) < 0) := by omega
        have c2 : (↑i : Int) ≤ ↑rest.size := by omega
        have c3 : (0 : Int) ≤ ↑i + 1 := by omega
        have c4 : (↑i + 1 : Int) ≤ ↑rest.size := by omega
        go_wp2_with (go_at_call 95; refine (hI rest _).mono ?_; rintro e w' ⟨rfl, hw⟩; rw [hw, hix])
        go_roundw
        case rel =>
          refine ⟨done ++ [rest.extract 0 i], rest.extract (i + 1) rest.size, rfl, by simp, by simp; omega, by rw [ByteArray.size_extract]; omega, by rw [← Lib.cellsOf_set (by omega)], ?_⟩
          have hh := Lib.splitB_hit sep 0 (N - 1 - (done.length + 1)) rest i hix
          rw [hsz1, Nat.add_zero] at hh
          rw [← HS.out, show N - 1 - done.length = (N - 1 - (done.length + 1)) + 1 by omega, hh]
          simp
        case measure => simp [intOf]; omega
    · have hltz : ¬ (((done.length : Nat) : Int) < (N : Int) - 1) := by omega
      go_wp2
      go_ret
      obtain ⟨f1, f2⟩ := fin.out (by rw [show N - 1 - done.length = 0 by omega]; rfl)
      rw [f1, ← f2]
      exact ⟨by first | rfl | (congr 2 <;> omega), rfl⟩

end Go.Proofs.YtnkdmgekpajfhaeDoor
namespace Go.Proofs.YtnkdmgekpajfhaeDoor
open Go.RowKit

theorem parts_len (c : UInt8) (s : List UInt8) : (parts c s).1.length ≤ s.length := by
  have h := parts_join c s
  have := joinC_len c (parts c s).1
  have := congrArg List.length h
  simp at this
  omega

theorem take_data (ps : List ByteArray) (k : Nat) : bts (ps.take k) = (bts ps).take k := by unfold bts; rw [List.map_take]

theorem lsf_take (l : List (List UInt8)) : lsf (l.take 61) = lsf l := by
  by_cases h : l.length ≤ 61
  · rw [List.take_of_length_le h]
  · unfold lsf
    rw [List.length_take, if_pos (by omega), if_pos (by omega)]

theorem suffix_iff (s : List UInt8) : Lib.hasSuffix s [10] = true ↔ ∃ r, s = r ++ [10] := by
  unfold Lib.hasSuffix
  rw [List.isSuffixOf_iff_suffix]
  constructor
  · rintro ⟨r, rfl⟩; exact ⟨r, rfl⟩
  · rintro ⟨r, rfl⟩; exact ⟨r, rfl⟩

theorem isEmpty_str (s : ByteArray) : s.toList.isEmpty = true ↔ s.data.toList = [] := by rw [Lib.toList_data]; simp

theorem split_front (s : ByteArray) (h : (parts 10 s.data.toList).2 = []) : s.toList.isEmpty = true ∨ (s.toList.isEmpty = false ∧ Lib.hasSuffix s.data.toList [10] = true) := by
  by_cases he : s.toList.isEmpty = true
  · exact Or.inl he
  · rcases (last_of s.data.toList).1 h with h0 | h0
    · exact absurd ((isEmpty_str s).2 h0) he
    · exact Or.inr ⟨by simpa using he, (suffix_iff _).2 h0⟩

end Go.Proofs.YtnkdmgekpajfhaeDoor
