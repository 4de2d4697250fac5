/-
  Walks of strings.SplitN, line.cut and line.Split.
-/
import Derived.Test.YtapebgoddcoijaaDoorSplit
namespace Go.Proofs.YtapebgoddcoijaaDoor
open Go.RowKit

set_option maxHeartbeats 400000 in
theorem splitN (s : ByteArray) (c : UInt8) (n N : Nat) (w : World) (hs : s.size ≤ 140737488355328) (hn : 1 ≤ n) (hn2 : n ≤ 1000) (hN : min n (s.size + 1) = N) :
    Calls Tryd.prog 49 #[.string s, .string ⟨#[c]⟩, .int .i64 n] w fun e w' =>
      e = .returned (.slice (some ⟨w.heap.size, 0, none⟩) (Lib.splitB ⟨#[c]⟩ 0 (N - 1) s).length N) ∧ w' = w.alloc (.cells (Lib.cellsOf (Lib.splitB ⟨#[c]⟩ 0 (N - 1) s) N) 9) := by
  have hg := genSplit_pos s c n N w hs hn hn2 hN
  clear hs hn hn2 hN
  go_enter Tryd.func49, Tryd.ntmps49
  go_wp2_with (go_at_call 51; refine hg.mono ?_; rintro e w' ⟨rfl, hw⟩; rw [hw])
  go_ret
  exact ⟨rfl, rfl⟩

theorem parts_len (c : UInt8) (s : List UInt8) : (parts c s).1.length ≤ s.length := by
  have h := parts_join c s
  have := joinC_len c (parts c s).1
  have := congrArg List.length h
  simp at this
  omega

theorem take_data (ps : List ByteArray) (k : Nat) : bts (ps.take k) = (bts ps).take k := by unfold bts; rw [List.map_take]

set_option maxHeartbeats 1000000 in
theorem cut (s : ByteArray) (w : World) (hs : s.size ≤ 140737488355328) :
    Calls Tryd.prog 34 #[.string s] w fun e w' => ∃ (ps : List ByteArray) (cap : Nat), e = .returned (.slice (some ⟨w.heap.size, 0, none⟩) ps.length cap) ∧
      bts ps = (parts 10 s.data.toList).1.take 61 ∧ Below w.heap.size w w' ∧ Strs w' (some ⟨w.heap.size, 0, none⟩) ps := by
  have hsz : s.size = s.data.toList.length := Lib.size_eq s
  obtain ⟨N, hN⟩ : ∃ N, min 62 (s.size + 1) = N := ⟨_, rfl⟩
  have hg := splitN s 10 62 N w hs (by omega) (by omega) hN
  have hd := Lib.splitB_data ⟨#[10]⟩ 0 (N - 1) s
  obtain ⟨r, hr, _⟩ := splitK_parts 10 (N - 1) s.data.toList
  have hpl := parts_len 10 s.data.toList
  rw [show (ByteArray.mk #[10]).data.toList = [10] from rfl, hr] at hd
  have htk : (parts 10 s.data.toList).1.take (N - 1) = (parts 10 s.data.toList).1.take 61 := by
    by_cases h : s.size ≤ 61
    · rw [List.take_of_length_le (by omega), List.take_of_length_le (by omega)]
    · rw [show N - 1 = 61 by omega]
  rw [htk] at hd
  obtain ⟨pieces, hp⟩ : ∃ pieces, Lib.splitB ⟨#[10]⟩ 0 (N - 1) s = pieces := ⟨_, rfl⟩
  rw [hp] at hg hd
  have hlen := congrArg List.length hd
  rw [List.length_map, List.length_append, List.length_singleton] at hlen
  obtain ⟨m, hm⟩ : ∃ m, ((parts 10 s.data.toList).1.take 61).length = m := ⟨_, rfl⟩
  have hm61 : m ≤ 61 := by rw [← hm, List.length_take]; omega
  have hmN : m + 1 ≤ N := by
    rw [hm] at hlen
    have := Lib.splitB_length_le ⟨#[10]⟩ 0 (N - 1) s
    rw [hp] at this
    omega
  have hps : bts (pieces.take m) = (parts 10 s.data.toList).1.take 61 := by
    rw [take_data]
    show (pieces.map (·.data.toList)).take m = _
    rw [hd, ← hm, List.take_left']
    rfl
  have hpl2 : (pieces.take m).length = m := by rw [List.length_take]; omega
  rw [hlen, hm] at hg
  have HP : Hid (bts (pieces.take m) = (parts 10 s.data.toList).1.take 61) := hps
  have HPL : Hid ((pieces.take m).length = m) := hpl2
  have HLL : Hid (pieces.length = m + 1) := by rw [hm] at hlen; exact hlen
  have hNb : N ≤ 62 := by omega
  clear hps hpl2 hlen hm hd hp htk hr hpl hsz hs hN
  go_enter Tryd.func34, Tryd.ntmps34
  go_wp2_with (go_at_call 49; refine hg.mono ?_; rintro e w' ⟨rfl, hw⟩; rw [hw])
  go_ret
  refine ⟨pieces.take m, N, ?_, HP.out, (Below.refl _ _).alloc (Nat.le_refl _) _, ?_⟩
  · rw [HPL.out]
    first | rfl | (congr 2 <;> omega)
  · intro i hi
    rw [HPL.out] at hi
    refine ⟨_, 0, rfl, ?_⟩
    have hblk := heap_alloc_new w (.cells (Lib.cellsOf pieces N) 9)
    rw [Nat.zero_add, Lib.cell_of_heap hblk, cellsOf_at pieces N i (by rw [HLL.out]; omega)]
    have h1 : i < pieces.length := by rw [HLL.out]; omega
    simp [h1, hi]

theorem lsf_take (l : List (List UInt8)) : lsf (l.take 61) = lsf l := by
  by_cases h : l.length ≤ 61
  · rw [List.take_of_length_le h]
  · unfold lsf
    rw [List.length_take, if_pos (by omega), if_pos (by omega)]

theorem suffix_iff (s : List UInt8) : Lib.hasSuffix s [10] = true ↔ ∃ r, s = r ++ [10] := by
  unfold Lib.hasSuffix
  rw [List.isSuffixOf_iff_suffix]
  constructor
  · rintro ⟨r, rfl⟩; exact ⟨r, rfl⟩
  · rintro ⟨r, rfl⟩; exact ⟨r, rfl⟩

theorem isEmpty_str (s : ByteArray) : s.toList.isEmpty = true ↔ s.data.toList = [] := by rw [Lib.toList_data]; simp

set_option maxHeartbeats 1000000 in
theorem split_syntax (s : ByteArray) (w : World) (hs : s.size ≤ 140737488355328) (h : (parts 10 s.data.toList).2 ≠ []) :
    Calls Tryd.prog 12 #[.string s] w fun e w' => e = .returned (.tuple #[.slice none 0 0, .iface 23 (.int .i64 5)]) ∧ w' = w := by
  have h1 := mt (last_of s.data.toList).2 h
  have he : s.toList.isEmpty = false := by
    rw [Bool.eq_false_iff]; intro e; exact h1 (Or.inl ((isEmpty_str s).1 e))
  have hsf : Lib.hasSuffix s.data.toList [10] = false := by
    rw [Bool.eq_false_iff]; intro e; exact h1 (Or.inr ((suffix_iff _).1 e))
  have hcall := Tryd.strings_HasSuffix s ⟨#[10]⟩ w (by omega)
  rw [show (ByteArray.mk #[10]).data.toList = [10] from rfl, hsf] at hcall
  clear h h1 hsf hs
  go_enter Tryd.func12, Tryd.ntmps12
  go_wp2_with (go_at_call 33; refine hcall.mono ?_; rintro e w' ⟨rfl, hw⟩; rw [hw])
  go_ret2
  exact ⟨rfl, rfl⟩

theorem split_front (s : ByteArray) (h : (parts 10 s.data.toList).2 = []) : s.toList.isEmpty = true ∨ (s.toList.isEmpty = false ∧ Lib.hasSuffix s.data.toList [10] = true) := by
  by_cases he : s.toList.isEmpty = true
  · exact Or.inl he
  · rcases (last_of s.data.toList).1 h with h0 | h0
    · exact absurd ((isEmpty_str s).2 h0) he
    · exact Or.inr ⟨by simpa using he, (suffix_iff _).2 h0⟩

set_option maxHeartbeats 2000000 in
theorem split_lines (s : ByteArray) (w : World) (hs : s.size ≤ 140737488355328) (h : (parts 10 s.data.toList).2 = []) (hf : lsf (parts 10 s.data.toList).1 ≠ 0) :
    Calls Tryd.prog 12 #[.string s] w fun e w' => e = .returned (.tuple #[.slice none 0 0, .iface 23 (.int .i64 (lsf (parts 10 s.data.toList).1))]) ∧ Below w.heap.size w w' := by
  have hc := cut s w hs
  have hcall := Tryd.strings_HasSuffix s ⟨#[10]⟩ w (by omega)
  rw [show (ByteArray.mk #[10]).data.toList = [10] from rfl] at hcall
  rw [← lsf_take] at hf ⊢
  obtain ⟨P, hP⟩ : ∃ P, (parts 10 s.data.toList).1.take 61 = P := ⟨_, rfl⟩
  rw [hP] at hc hf ⊢
  have hP61 : P.length ≤ 61 := by rw [← hP, List.length_take]; omega
  have hfr := split_front s h
  clear h hP hs
  rcases hfr with he | ⟨he, hsf⟩
  all_goals
    (try rw [hsf] at hcall)
    (try clear hsf)
    go_enter Tryd.func12, Tryd.ntmps12
    go_wp2_with (first | (go_at_call 33; refine hcall.mono ?_; rintro e w' ⟨rfl, hw⟩; rw [hw]) | (go_at_call 34; refine hc.mono ?_))
    rintro e w1 ⟨ps, cap, rfl, hps, hb, hst⟩
    clear hc hcall
    have hl : ps.length ≤ 61 := by rw [← bts_length ps, hps]; exact hP61
    have hck := check_any _ ps cap w1 hst (by unfold maxLen; omega)
    rw [hps, errV_not hf] at hck
    clear hst hps hl
    go_wp2_with (go_at_call 8; refine hck.mono ?_; rintro e w' ⟨rfl, hw⟩; rw [hw])
    go_ret2
    exact ⟨rfl, hb⟩

set_option maxHeartbeats 2000000 in
theorem split_ok (s : ByteArray) (w : World) (hs : s.size ≤ 140737488355328) (h : (parts 10 s.data.toList).2 = []) (hf : lsf (parts 10 s.data.toList).1 = 0) :
    Calls Tryd.prog 12 #[.string s] w fun e w' => ∃ (b : Nat) (ps : List ByteArray), e = .returned (.tuple #[.slice (some ⟨b, 0, none⟩) ps.length ps.length, .nilIface]) ∧
      bts ps = (parts 10 s.data.toList).1 ∧ Below w.heap.size w w' ∧ Strs w' (some ⟨b, 0, none⟩) ps := by
  have hc := cut s w hs
  have hcall := Tryd.strings_HasSuffix s ⟨#[10]⟩ w (by omega)
  rw [show (ByteArray.mk #[10]).data.toList = [10] from rfl] at hcall
  have ⟨hl60, hall⟩ := lsf_zero hf
  rw [List.take_of_length_le (by omega)] at hc
  obtain ⟨P, hP⟩ : ∃ P, (parts 10 s.data.toList).1 = P := ⟨_, rfl⟩
  rw [hP] at hc hf hl60 hall
  rw [hP]
  have HALL : Hid (∀ s ∈ P, lf s = 0) := hall
  have hfr := split_front s h
  clear h hP hs hall
  rcases hfr with he | ⟨he, hsf⟩
  all_goals
    (try rw [hsf] at hcall)
    (try clear hsf)
    go_enter Tryd.func12, Tryd.ntmps12
    go_wp2_with (first | (go_at_call 33; refine hcall.mono ?_; rintro e w' ⟨rfl, hw⟩; rw [hw]) | (go_at_call 34; refine hc.mono ?_))
    rintro e w1 ⟨ps, cap, rfl, hps, hb, hst⟩
    clear hc hcall
    have hl : ps.length ≤ 60 := by rw [← bts_length ps, hps]; exact hl60
    have hck := check_any _ ps cap w1 hst (by unfold maxLen; omega)
    rw [hps, hf, errV_zero] at hck
    have hcp := copied _ ps cap w1 hst hl (fun x hx => by
      have h1 : x.data.toList ∈ P := by rw [← hps]; exact List.mem_map.2 ⟨x, hx, rfl⟩
      have := (lf_zero (HALL.out _ h1)).2
      rw [Lib.size_eq]; exact this)
    have HPS : Hid (bts ps = P) := hps
    clear hst hps hl
    go_wp2_with (go_at_call 8; refine hck.mono ?_; rintro e w' ⟨rfl, hw⟩; rw [hw])
    go_wp2_with (go_at_call 35; refine hcp.mono ?_)
    rintro e w2 ⟨rfl, hb2, hst2⟩
    go_wp2
    go_ret2
    exact ⟨_, ps, rfl, HPS.out, hb.trans (hb2.mono hb.size), hst2⟩
end Go.Proofs.YtapebgoddcoijaaDoor
