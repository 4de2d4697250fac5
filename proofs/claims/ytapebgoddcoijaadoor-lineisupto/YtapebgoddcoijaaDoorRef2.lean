/-
  Walks of the document's own way to cut a text into lines: Parts and SplitOf.
-/
import Derived.Test.YtapebgoddcoijaaDoorRef
import Derived.Test.YtapebgoddcoijaaDoorSplit2
namespace Go.Proofs.YtapebgoddcoijaaDoor
open Go.RowKit

theorem extract_list (s : ByteArray) (a b : Nat) : (s.extract a b).data.toList = (s.data.toList.take b).drop a := by
  rw [Lib.extract_data, List.drop_take]

/-- What holds while the text is cut: 'done' is cut off, from f on to k there is no byte 10. -/
def Cutting (s : ByteArray) (done : List ByteArray) (f k : Nat) : Prop :=
  f ≤ k ∧ k ≤ s.size ∧ joinC 10 (bts done) = s.data.toList.take f ∧ (∀ x ∈ bts done, 10 ∉ x) ∧ 10 ∉ (s.data.toList.take k).drop f

theorem Cutting.start (s : ByteArray) : Cutting s [] 0 0 := ⟨Nat.le_refl _, Nat.zero_le _, by simp [bts, joinC], by simp [bts], by simp⟩

theorem Cutting.len {s : ByteArray} {done : List ByteArray} {f k : Nat} (h : Cutting s done f k) : done.length ≤ f := by
  have h1 := joinC_len 10 (bts done)
  rw [h.2.2.1, bts_length, List.length_take] at h1
  omega

theorem take_drop_snoc (l : List UInt8) (f k : Nat) (hf : f ≤ k) (hk : k < l.length) : (l.take (k + 1)).drop f = (l.take k).drop f ++ [l[k]] := by
  rw [List.take_succ_eq_append_getElem hk, List.drop_append_of_le_length (by rw [List.length_take]; omega)]

theorem Cutting.go {s : ByteArray} {done : List ByteArray} {f k : Nat} (h : Cutting s done f k) (hk : k < s.size) (hb : s[k] ≠ 10) : Cutting s done f (k + 1) := by
  have hl : k < s.data.toList.length := by rw [← Lib.size_eq]; exact hk
  refine ⟨by have := h.1; omega, hk, h.2.2.1, h.2.2.2.1, ?_⟩
  rw [take_drop_snoc _ _ _ h.1 hl]
  intro hm
  rcases List.mem_append.1 hm with hm | hm
  · exact h.2.2.2.2 hm
  · rw [List.mem_singleton] at hm
    exact hb hm.symm

theorem Cutting.hit {s : ByteArray} {done : List ByteArray} {f k : Nat} (h : Cutting s done f k) (hk : k < s.size) (hb : s[k] = 10) : Cutting s (done ++ [s.extract f k]) (k + 1) (k + 1) := by
  have hl : k < s.data.toList.length := by rw [← Lib.size_eq]; exact hk
  have hx : bts (done ++ [s.extract f k]) = bts done ++ [(s.data.toList.take k).drop f] := by
    unfold bts; rw [List.map_append]
    show _ ++ [(s.extract f k).data.toList] = _
    rw [extract_list]
  refine ⟨Nat.le_refl _, hk, ?_, ?_, by simp⟩
  · rw [hx, joinC_snoc, h.2.2.1]
    have e1 : s.data.toList.take f = (s.data.toList.take k).take f := by rw [List.take_take]; congr 1; have := h.1; omega
    have e2 : s.data.toList[k] = 10 := hb
    rw [e1, ← List.append_assoc, List.take_append_drop, List.take_succ_eq_append_getElem hl, e2]
  · rw [hx]
    intro x hm
    rcases List.mem_append.1 hm with hm | hm
    · exact h.2.2.2.1 x hm
    · rw [List.mem_singleton] at hm; subst hm; exact h.2.2.2.2

theorem Cutting.parts {s : ByteArray} {done : List ByteArray} {f : Nat} (h : Cutting s done f s.size) : parts 10 s.data.toList = (bts done, s.data.toList.drop f) := by
  have h5 := h.2.2.2.2
  rw [List.take_of_length_le (by rw [← Lib.size_eq]; exact Nat.le_refl _)] at h5
  have e := parts_of 10 (bts done) (s.data.toList.drop f) h.2.2.2.1 h5
  rw [h.2.2.1, List.take_append_drop] at e
  exact e

theorem strs_own {w : World} {B g cap n : Nat} {ps : List ByteArray} {cur : Array Value} (hh : w.heap[g]? = some (.cells cur 9 (0, 0))) (ht : cur.toList.take (n * 1) = ps.map Value.string) (hn : ps.length = n) (_ : B ≤ g) (_ : n ≤ cap) : Strs w (some ⟨g, 0, none⟩) ps := by
  intro i hi
  refine ⟨g, 0, rfl, ?_⟩
  rw [Nat.zero_add, Lib.cell_of_heap hh]
  rw [Nat.mul_one] at ht
  have h1 : (cur.toList.take n)[i]? = (ps.map Value.string)[i]? := by rw [ht]
  rw [List.getElem?_take, if_pos (by omega), List.getElem?_map] at h1
  rw [← Array.getElem?_toList, h1]
  have e : ps.getD i ByteArray.empty = ps[i] := by simp [hi]
  rw [e]
  simp [hi]

set_option maxRecDepth 100000 in
set_option maxHeartbeats 2000000 in
theorem partsOf (s : ByteArray) (w : World) (hs : s.size ≤ 2000000) :
    Calls Tryd.prog 32 #[.string s] w fun e w' => ∃ (g cap : Nat) (ps : List ByteArray), e = .returned (.slice (some ⟨g, 0, none⟩) ps.length cap) ∧
      ps.length ≤ cap ∧ bts ps = (parts 10 s.data.toList).1 ++ [(parts 10 s.data.toList).2] ∧ Below w.heap.size w w' ∧ Strs w' (some ⟨g, 0, none⟩) ps := by
  obtain ⟨i0, hi, hz0, hz1, hz2⟩ := info_parts Tryd.info9
  go_enter Tryd.func32, Tryd.ntmps32
  go_wp2
  go_loopw [3, 4, 5] (fun v f i wr => ∃ (k m : Nat) (done : List ByteArray), f = .int .i64 m ∧ i = .int .i64 k ∧ Cutting s done m k ∧ wr.ownsRow w.heap.size 9 1 v done.length (done.map Value.string) ∧ Below w.heap.size w wr) (fun _ _ i _ => s.size - (intOf i).toNat)
  case atStart => exact ⟨0, 0, [], rfl, rfl, Cutting.start s, ⟨rfl, Or.inl ⟨rfl, rfl⟩⟩, Below.refl _ _⟩
  case round =>
    obtain ⟨k, m, done, rfl, rfl, hcut, hown, hbl⟩ := hrel
    have hmk := hcut.1
    have hks := hcut.2.1
    have hdl := hcut.len
    have hsz := hbl.size
    have HC : Hid (Cutting s done m k) := hcut
    clear hcut
    by_cases hlt : k < s.size
    · by_cases hb : ((s[k].toNat : Int) == 10) = true
      · have HB : Hid (s[k] = 10) := (byte_eq s[k] 10).1 hb
        go_wp2_with (at_builtin; refine wpList_append_own _ rfl _ _ 22 rfl w.heap.size 9 i0 (.string ByteArray.empty) 1 16 Tryd.underlying22 hi hz0 hz1 hz2 rfl (by decide) _ _ _ rfl (hown.alloc _) ⟨wr.heap.size, 0, none⟩ 1 1 [.string (s.extract m k)] rfl rfl (cell_one_new _ _ _) (fun x hx => by simp at hx; subst hx; rfl) (by unfold maxLen; omega) (by omega) (by simp; omega) ?_; intro v' w3 hown' hgrow3 hnil3)
        go_roundw
        case rel =>
          refine ⟨k + 1, k + 1, done ++ [s.extract m k], by go_num, by go_num, HC.out.hit hlt HB.out, ?_, ?_⟩
          · rw [List.map_append, List.length_append]; exact hown'
          · exact (hbl.alloc (by omega) _).grown hgrow3 (by simp; omega) (fun j hj => (hown.lt j hj).1)
        case measure => simp [intOf]; omega
      · have hb : ((s[k].toNat : Int) == 10) = false := by simpa using hb
        have HB : Hid (s[k] ≠ 10) := fun e => by rw [e] at hb; simp at hb
        go_wp2
        go_roundw
        case rel => exact ⟨k + 1, m, done, rfl, by go_num, HC.out.go hlt HB.out, hown, hbl⟩
        case measure => simp [intOf]; omega
    · obtain rfl : k = s.size := by omega
      go_wp2_with (at_builtin; refine wpList_append_own _ rfl _ _ 22 rfl w.heap.size 9 i0 (.string ByteArray.empty) 1 16 Tryd.underlying22 hi hz0 hz1 hz2 rfl (by decide) _ _ _ rfl (hown.alloc _) ⟨wr.heap.size, 0, none⟩ 1 1 [.string (s.extract m s.size)] rfl rfl (cell_one_new _ _ _) (fun x hx => by simp at hx; subst hx; rfl) (by unfold maxLen; omega) (by omega) (by simp; omega) ?_; intro v' w3 hown' hgrow3 hnil3)
      go_ret
      have hpt := HC.out.parts
      rcases hown'.2 with ⟨_, h0⟩ | ⟨g, cap, cur, hv, hB, hh, hnc, hcm, hcs, htk⟩
      · omega
      · refine ⟨g, cap, done ++ [s.extract m s.size], ?_, ?_, ?_, ?_, ?_⟩
        · rw [List.length_append]; rw [hv]; rfl
        · rw [List.length_append]; exact hnc
        · rw [hpt]
          unfold bts
          rw [List.map_append]
          show _ ++ [(s.extract m s.size).data.toList] = _
          rw [extract_list, List.take_of_length_le (by rw [← Lib.size_eq]; exact Nat.le_refl _)]
        · exact (hbl.alloc (by omega) _).grown hgrow3 (by simp; omega) (fun j hj => (hown.lt j hj).1)
        · exact strs_own (B := w.heap.size) (cap := cap) hh (by rw [htk, List.map_append]; rfl) (by rw [List.length_append]; rfl) hB hnc

theorem Strs.take {w : World} {a : Option Addr} {ps : List ByteArray} (h : Strs w a ps) (k : Nat) : Strs w a (ps.take k) := by
  intro i hi
  rw [List.length_take] at hi
  obtain ⟨b, off, rfl, hc⟩ := h i (by omega)
  refine ⟨b, off, rfl, ?_⟩
  have h1 : i < k := by omega
  have e : (ps.take k).getD i ByteArray.empty = ps.getD i ByteArray.empty := by simp [h1]
  rw [e]; exact hc

theorem parts_bytes (c : UInt8) (s x : List UInt8) (h : x ∈ (parts c s).1) : x.length ≤ s.length := by
  have hj := congrArg List.length (parts_join c s)
  rw [List.length_append] at hj
  have : ∀ (i : List (List UInt8)), x ∈ i → x.length ≤ (joinC c i).length := by
    intro i
    induction i with
    | nil => intro h; simp at h
    | cons y t ih =>
      intro h
      rcases List.mem_cons.1 h with rfl | h
      · simp [joinC]
      · have := ih h; simp [joinC]; omega
  have := this _ h
  omega

/-- What Parts hands on, taken apart. -/
theorem parts_pieces {ps : List ByteArray} {s : ByteArray} (h : bts ps = (parts 10 s.data.toList).1 ++ [(parts 10 s.data.toList).2]) :
    ∃ n x, ps.length = n + 1 ∧ ps.getD n ByteArray.empty = x ∧ x.data.toList = (parts 10 s.data.toList).2 ∧ bts (ps.take n) = (parts 10 s.data.toList).1 ∧ (ps.take n).length = n ∧ n ≤ s.size := by
  have hl := congrArg List.length h
  rw [bts_length, List.length_append, List.length_singleton] at hl
  have hn : (parts 10 s.data.toList).1.length < ps.length := by omega
  refine ⟨(parts 10 s.data.toList).1.length, _, hl, rfl, ?_, ?_, ?_, ?_⟩
  · have e : ps.getD (parts 10 s.data.toList).1.length ByteArray.empty = ps[(parts 10 s.data.toList).1.length] := by simp [hn]
    rw [e]
    have h1 : (bts ps)[(parts 10 s.data.toList).1.length]? = some (parts 10 s.data.toList).2 := by rw [h]; simp
    unfold bts at h1
    rw [List.getElem?_map, List.getElem?_eq_getElem hn] at h1
    simpa using h1
  · rw [take_data, h, List.take_left']; rfl
  · rw [List.length_take]; omega
  · rw [Lib.size_eq]; exact parts_len 10 _

set_option maxHeartbeats 2000000 in
theorem splitOf_syntax (s : ByteArray) (w : World) (hs : s.size ≤ 2000000) (h : (parts 10 s.data.toList).2 ≠ []) :
    Calls Tryd.prog 11 #[.string s] w fun e w' => e = .returned (.tuple #[.slice none 0 0, .int .i64 5]) ∧ Below w.heap.size w w' := by
  have hp := partsOf s w hs
  go_enter Tryd.func11, Tryd.ntmps11
  go_wp2_with (go_at_call 32; refine hp.mono ?_)
  rintro e w1 ⟨g, cap, ps, rfl, hpc, hps, hb, hst⟩
  clear hp
  obtain ⟨n, x, hn, hx, hxl, _, _, hns⟩ := parts_pieces hps
  have hc : w1.cell? ⟨g, n, none⟩ = some (.string x) := by
    obtain ⟨b, off, e, hc⟩ := hst n (by omega)
    simp at e
    obtain ⟨rfl, rfl⟩ := e
    rw [Nat.zero_add, hx] at hc
    exact hc
  have hxs : 0 < (x.size : Int) := by
    rw [← hxl] at h
    have : x.data.toList.length ≠ 0 := fun e => h (List.length_eq_zero_iff.1 e)
    rw [Lib.size_eq]; omega
  rw [hn]
  rw [hn] at hpc
  have hsub : ((n + 1 : Nat) : Int) - 1 = (n : Int) := by omega
  clear hps hx hxl hn hst h
  go_wp2
  go_ret2
  exact ⟨rfl, hb⟩

set_option maxHeartbeats 2000000 in
theorem splitOf_lines (s : ByteArray) (w : World) (hs : s.size ≤ 2000000) (h : (parts 10 s.data.toList).2 = []) (hf : lsf (parts 10 s.data.toList).1 ≠ 0) :
    Calls Tryd.prog 11 #[.string s] w fun e w' => e = .returned (.tuple #[.slice none 0 0, .int .i64 (lsf (parts 10 s.data.toList).1)]) ∧ Below w.heap.size w w' := by
  have hp := partsOf s w hs
  obtain ⟨f, hff⟩ : ∃ f, lsf (parts 10 s.data.toList).1 = f := ⟨_, rfl⟩
  rw [hff] at hf ⊢
  have HFF : Hid (lsf (parts 10 s.data.toList).1 = f) := hff
  clear hff
  go_enter Tryd.func11, Tryd.ntmps11
  go_wp2_with (go_at_call 32; refine hp.mono ?_)
  rintro e w1 ⟨g, cap, ps, rfl, hpc, hps, hb, hst⟩
  clear hp
  obtain ⟨n, x, hn, hx, hxl, hpt, hpl, hns⟩ := parts_pieces hps
  have hc : w1.cell? ⟨g, n, none⟩ = some (.string x) := by
    obtain ⟨b, off, e, hc⟩ := hst n (by omega)
    simp at e
    obtain ⟨rfl, rfl⟩ := e
    rw [Nat.zero_add, hx] at hc
    exact hc
  have hxs : ¬ 0 < (x.size : Int) := by
    rw [h] at hxl
    rw [Lib.size_eq, hxl]; simp
  rw [hn]
  rw [hn] at hpc
  have hlf := linesFault _ (ps.take n) cap w1 (hst.take n) (by rw [hpl]; unfold maxLen; omega) (fun y hy => by
    have h1 : y.data.toList ∈ (parts 10 s.data.toList).1 := by rw [← hpt]; exact List.mem_map.2 ⟨y, hy, rfl⟩
    have h2 := parts_bytes 10 _ _ h1
    rw [← Lib.size_eq, ← Lib.size_eq] at h2
    unfold maxLen; omega)
  rw [hpl, hpt, HFF.out] at hlf
  have hfz : (f == 0) = false := by simpa using hf
  have hsub : ((n + 1 : Nat) : Int) - 1 = (n : Int) := by omega
  clear hps hx hxl hn hst h hpt hpl hf
  go_wp2_with (go_at_call 6; refine hlf.mono ?_; rintro e w' ⟨rfl, hw⟩; rw [hw])
  go_ret2
  exact ⟨rfl, hb⟩

set_option maxHeartbeats 2000000 in
theorem splitOf_ok (s : ByteArray) (w : World) (hs : s.size ≤ 2000000) (h : (parts 10 s.data.toList).2 = []) (hf : lsf (parts 10 s.data.toList).1 = 0) :
    Calls Tryd.prog 11 #[.string s] w fun e w' => ∃ (g cap : Nat) (ps : List ByteArray), e = .returned (.tuple #[.slice (some ⟨g, 0, none⟩) ps.length cap, .int .i64 0]) ∧
      bts ps = (parts 10 s.data.toList).1 ∧ Below w.heap.size w w' ∧ Strs w' (some ⟨g, 0, none⟩) ps := by
  have hp := partsOf s w hs
  go_enter Tryd.func11, Tryd.ntmps11
  go_wp2_with (go_at_call 32; refine hp.mono ?_)
  rintro e w1 ⟨g, cap, ps, rfl, hpc, hps, hb, hst⟩
  clear hp
  obtain ⟨n, x, hn, hx, hxl, hpt, hpl, hns⟩ := parts_pieces hps
  have hc : w1.cell? ⟨g, n, none⟩ = some (.string x) := by
    obtain ⟨b, off, e, hc⟩ := hst n (by omega)
    simp at e
    obtain ⟨rfl, rfl⟩ := e
    rw [Nat.zero_add, hx] at hc
    exact hc
  have hxs : ¬ 0 < (x.size : Int) := by
    rw [h] at hxl
    rw [Lib.size_eq, hxl]; simp
  rw [hn]
  rw [hn] at hpc
  have hlf := linesFault _ (ps.take n) cap w1 (hst.take n) (by rw [hpl]; unfold maxLen; omega) (fun y hy => by
    have h1 : y.data.toList ∈ (parts 10 s.data.toList).1 := by rw [← hpt]; exact List.mem_map.2 ⟨y, hy, rfl⟩
    have h2 := parts_bytes 10 _ _ h1
    rw [← Lib.size_eq, ← Lib.size_eq] at h2
    unfold maxLen; omega)
  rw [hpl, hpt, hf] at hlf
  have hsub : ((n + 1 : Nat) : Int) - 1 = (n : Int) := by omega
  have HST : Hid (Strs w1 (some ⟨g, 0, none⟩) (ps.take n)) := hst.take n
  have HPT : Hid (bts (ps.take n) = (parts 10 s.data.toList).1) := hpt
  have HPL : Hid ((ps.take n).length = n) := hpl
  clear hps hx hxl hn hst h hpt hpl hf
  go_wp2_with (go_at_call 6; refine hlf.mono ?_; rintro e w' ⟨rfl, hw⟩; rw [hw])
  go_ret2
  exact ⟨g, cap, ps.take n, by rw [HPL.out]; rfl, HPT.out, hb, HST.out⟩
end Go.Proofs.YtapebgoddcoijaaDoor
