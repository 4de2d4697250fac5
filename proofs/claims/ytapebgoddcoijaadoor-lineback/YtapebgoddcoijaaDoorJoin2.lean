/-
  Walk of line.Join: good lines are joined, the others are refused.
-/
import Derived.Test.YtapebgoddcoijaaDoorJoin
namespace Go.Proofs.YtapebgoddcoijaaDoor
open Go.RowKit

/-- Bytes as a string. -/
def str (l : List UInt8) : ByteArray := ⟨l.toArray⟩
theorem str_data (l : List UInt8) : (str l).data.toList = l := by simp [str]
theorem data_str (s : ByteArray) : str s.data.toList = s := by cases s; simp [str]
theorem str_size (l : List UInt8) : (str l).size = l.length := by simp [str, ByteArray.size]

theorem joinC_snoc (c : UInt8) (l : List (List UInt8)) (x : List UInt8) : joinC c (l ++ [x]) = joinC c l ++ (x ++ [c]) := by
  rw [joinC_append]; simp [joinC]

set_option maxHeartbeats 1000000 in
theorem join_bad (a : Option Addr) (ss : List ByteArray) (ca : Nat) (w : World) (ha : Strs w a ss) (hm : ss.length ≤ maxLen) (hf : lsf (bts ss) ≠ 0) :
    Calls Tryd.prog 10 #[.slice a ss.length ca] w fun e w' => e = .returned (.tuple #[.string (str []), .iface 23 (.int .i64 (lsf (bts ss)))]) ∧ w' = w := by
  have hck := check_any a ss ca w ha hm
  rw [errV_not hf] at hck
  obtain ⟨n, hn⟩ : ∃ n, ss.length = n := ⟨_, rfl⟩
  obtain ⟨f, hf'⟩ : ∃ f, lsf (bts ss) = f := ⟨_, rfl⟩
  rw [hn, hf'] at hck
  rw [hn, hf']
  clear hn hf' hf
  go_enter Tryd.func10, Tryd.ntmps10
  go_wp2_with (go_at_call 8; refine hck.mono ?_; rintro e w' ⟨rfl, rfl⟩)
  go_ret2
  exact ⟨rfl, rfl⟩

set_option maxRecDepth 100000 in
set_option maxHeartbeats 2000000 in
theorem join_ok (a : Option Addr) (ss : List ByteArray) (ca : Nat) (w : World) (ha : Strs w a ss) (hf : lsf (bts ss) = 0) :
    Calls Tryd.prog 10 #[.slice a ss.length ca] w fun e w' => e = .returned (.tuple #[.string (str (joinC 10 (bts ss))), .nilIface]) ∧ Below w.heap.size w w' := by
  have ⟨hl, hall⟩ := lsf_zero hf
  rw [bts_length] at hl
  have hck := check_any a ss ca w ha (by unfold maxLen; omega)
  rw [hf, errV_zero] at hck
  obtain ⟨n, hn⟩ : ∃ n, ss.length = n := ⟨_, rfl⟩
  rw [hn] at hck hl
  rw [hn]
  have HN : Hid (ss.length = n) := hn
  have HALL : Hid (∀ s ∈ bts ss, lf s = 0) := hall
  clear hn hall hf
  obtain ⟨B, hB⟩ : ∃ B, w.heap.size = B := ⟨_, rfl⟩
  have HB : Hid (w.heap.size = B) := hB
  go_enter Tryd.func10, Tryd.ntmps10
  go_wp2_with (go_at_call 8; refine hck.mono ?_; rintro e w' ⟨rfl, hw⟩; rw [hw])
  clear hck
  go_loopw [15] (fun i w1 => ∃ k : Nat, k ≤ n ∧ i = .int .i64 k ∧ Lib.IsBuilder 57 5 B B (Lib.byteCells (joinC 10 (bts (ss.take k)))) w1 ∧ Below B w w1 ∧ B ≤ w1.heap.size) (fun i _ => n - (intOf i).toNat)
  case atStart =>
    refine ⟨0, Nat.zero_le _, rfl, ?_, ?_, ?_⟩
    · have := Lib.fresh_isBuilder 57 5 w
      rw [hB] at this
      exact this
    · exact (Below.refl _ _).alloc (by rw [hB]; exact Nat.le_refl _) _
    · simp; omega
  case round =>
    obtain ⟨k, hk, rfl, hbd, hbl, hsz⟩ := hrel
    by_cases hlt : k < n
    · obtain ⟨b, off, rfl, hc⟩ := Strs.at ha (i := k) (by rw [HN.out]; exact hlt)
      have hc := hc k (by rw [HN.out]; exact hlt)
      have hc := cell_later (by rw [HB.out]; exact hbl) hc
      have hlf : lf (ss.getD k ByteArray.empty).data.toList = 0 := HALL.out _ (by
        unfold bts
        exact List.mem_map.2 ⟨_, by
          have h' : k < ss.length := by rw [HN.out]; exact hlt
          have e : ss.getD k ByteArray.empty = ss[k] := by simp [h']
          rw [e]; exact List.getElem_mem _, rfl⟩)
      have hpre := joinC_small (l := bts (ss.take k)) (fun s hs => HALL.out s (by
        unfold bts at hs ⊢
        rw [List.map_take] at hs
        exact List.mem_of_mem_take hs))
      have hnext := bts_take_succ ss k (by rw [HN.out]; exact hlt)
      have hlen : (bts (ss.take k)).length ≤ 60 := by rw [bts_length]; have := List.length_take_le k ss; omega
      obtain ⟨x, hx⟩ : ∃ x, ss.getD k ByteArray.empty = x := ⟨_, rfl⟩
      rw [hx] at hc hlf hnext
      have hxs : x.size ≤ 80 := by have := (lf_zero hlf).2; rw [Lib.size_eq]; exact this
      obtain ⟨pre, hpre'⟩ : ∃ pre, joinC 10 (bts (ss.take k)) = pre := ⟨_, rfl⟩
      rw [hpre'] at hpre hbd
      have HNX : Hid (joinC 10 (bts (ss.take (k + 1))) = pre ++ (x.data.toList ++ [10])) := by
        show joinC 10 (bts (ss.take (k + 1))) = _
        rw [hnext, joinC_snoc, hpre']
      have hl1 : pre.length ≤ 4860 := by omega
      clear hnext hpre' hx hlf ha hpre hlen
      have hw1 := writeString B B _ x wr hbd (by rw [Lib.byteCells_length]; omega) hsz
      go_wp2_with (go_at_call 30; refine hw1.mono ?_)
      rintro e w1 ⟨rfl, hb1, hbe1⟩
      clear hw1
      have hsz1 := hbe1.size
      have hw2 := writeString B B _ ⟨#[10]⟩ w1 (Or.inr hb1) (by rw [List.length_append, Lib.byteCells_length, Lib.strCells_eq, Lib.byteCells_length, ← Lib.size_eq]; show _ + 1 ≤ _; omega) (by omega)
      go_wp2_with (go_at_call 30; refine hw2.mono ?_)
      rintro e w2 ⟨rfl, hb2, hbe2⟩
      clear hw2
      have hsz2 := hbe2.size
      go_wp2
      go_roundw
      case rel =>
        refine ⟨k + 1, by omega, by go_num, ?_, (hbl.trans hbe1).trans hbe2, by omega⟩
        rw [HNX.out]
        refine Or.inr ?_
        rw [Lib.strCells_eq, Lib.strCells_eq, ← Lib.byteCells_append, ← Lib.byteCells_append] at hb2
        simpa using hb2
      case measure => simp [intOf]; omega
    · obtain rfl : k = n := by omega
      have hst := Tryd.Builder_String_any B B _ wr hbd hsz
      go_wp2_with (go_at_call 31; refine hst.mono ?_)
      rintro e w1 ⟨rfl, hbe⟩
      go_wp2
      go_ret2
      refine ⟨?_, ?_⟩
      · rw [List.take_of_length_le (by have := HN.out; omega)]; rfl
      · rw [HB.out]; exact hbl.trans hbe
end Go.Proofs.YtapebgoddcoijaaDoor
