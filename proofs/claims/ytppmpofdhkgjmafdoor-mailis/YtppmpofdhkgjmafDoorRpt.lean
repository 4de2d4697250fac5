/-
  Walk of the document's own way to cut a text into parts.
-/
import Derived.Test.YtppmpofdhkgjmafDoorRefL

namespace Go.Proofs.YtppmpofdhkgjmafDoor
open Go.RowKit

theorem joinC_more (c : UInt8) (l : List (List UInt8)) (x : List UInt8) : joinC c (l ++ [x]) = joinC c l ++ (x ++ [c]) := by
  rw [joinC_append]; simp [joinC]

theorem extract_list (s : ByteArray) (a b : Nat) : (s.extract a b).data.toList = (s.data.toList.take b).drop a := by
  rw [Lib.extract_data, List.drop_take]

/-- What holds while the text is cut: 'done' is cut off, from f on to k there is no byte 10. -/
def Cutting (s : ByteArray) (done : List ByteArray) (f k : Nat) : Prop :=
  f ≤ k ∧ k ≤ s.size ∧ joinC 10 (bts done) = s.data.toList.take f ∧ (∀ x ∈ bts done, 10 ∉ x) ∧ 10 ∉ (s.data.toList.take k).drop f

theorem Cutting.start (s : ByteArray) : Cutting s [] 0 0 := ⟨Nat.le_refl _, Nat.zero_le _, by simp [bts, joinC], by simp [bts], by simp⟩

theorem Cutting.len {s : ByteArray} {done : List ByteArray} {f k : Nat} (h : Cutting s done f k) : done.length ≤ f := by
  have h1 := joinC_len 10 (bts done)
  rw [h.2.2.1, bts_length, List.length_take] at h1
  omega

theorem take_drop_snoc (l : List UInt8) (f k : Nat) (hf : f ≤ k) (hk : k < l.length) : (l.take (k + 1)).drop f = (l.take k).drop f ++ [l[k]] := by
  rw [List.take_succ_eq_append_getElem hk, List.drop_append_of_le_length (by rw [List.length_take]; omega)]

theorem Cutting.go {s : ByteArray} {done : List ByteArray} {f k : Nat} (h : Cutting s done f k) (hk : k < s.size) (hb : s[k] ≠ 10) : Cutting s done f (k + 1) := by
  have hl : k < s.data.toList.length := by rw [← Lib.size_eq]; exact hk
  refine ⟨by have := h.1; omega, hk, h.2.2.1, h.2.2.2.1, ?_⟩
  rw [take_drop_snoc _ _ _ h.1 hl]
  intro hm
  rcases List.mem_append.1 hm with hm | hm
  · exact h.2.2.2.2 hm
  · rw [List.mem_singleton] at hm
    exact hb hm.symm

theorem Cutting.hit {s : ByteArray} {done : List ByteArray} {f k : Nat} (h : Cutting s done f k) (hk : k < s.size) (hb : s[k] = 10) : Cutting s (done ++ [s.extract f k]) (k + 1) (k + 1) := by
  have hl : k < s.data.toList.length := by rw [← Lib.size_eq]; exact hk
  have hx : bts (done ++ [s.extract f k]) = bts done ++ [(s.data.toList.take k).drop f] := by
    unfold bts; rw [List.map_append]
    show _ ++ [(s.extract f k).data.toList] = _
    rw [extract_list]
  refine ⟨Nat.le_refl _, hk, ?_, ?_, by simp⟩
  · rw [hx, joinC_more, h.2.2.1]
    have e1 : s.data.toList.take f = (s.data.toList.take k).take f := by rw [List.take_take]; congr 1; have := h.1; omega
    have e2 : s.data.toList[k] = 10 := hb
    rw [e1, ← List.append_assoc, List.take_append_drop, List.take_succ_eq_append_getElem hl, e2]
  · rw [hx]
    intro x hm
    rcases List.mem_append.1 hm with hm | hm
    · exact h.2.2.2.1 x hm
    · rw [List.mem_singleton] at hm; subst hm; exact h.2.2.2.2

theorem Cutting.parts {s : ByteArray} {done : List ByteArray} {f : Nat} (h : Cutting s done f s.size) : parts 10 s.data.toList = (bts done, s.data.toList.drop f) := by
  have h5 := h.2.2.2.2
  rw [List.take_of_length_le (by rw [← Lib.size_eq]; exact Nat.le_refl _)] at h5
  have e := parts_of 10 (bts done) (s.data.toList.drop f) h.2.2.2.1 h5
  rw [h.2.2.1, List.take_append_drop] at e
  exact e

theorem strs_own {w : World} {B g cap n : Nat} {ps : List ByteArray} {cur : Array Value} (hh : w.heap[g]? = some (.cells cur 9 (0, 0))) (ht : cur.toList.take (n * 1) = ps.map Value.string) (hn : ps.length = n) (_ : B ≤ g) (_ : n ≤ cap) : Strs w (some ⟨g, 0, none⟩) ps := by
  intro i hi
  refine ⟨g, 0, rfl, ?_⟩
  rw [Nat.zero_add, Lib.cell_of_heap hh]
  rw [Nat.mul_one] at ht
  have h1 : (cur.toList.take n)[i]? = (ps.map Value.string)[i]? := by rw [ht]
  rw [List.getElem?_take, if_pos (by omega), List.getElem?_map] at h1
  rw [← Array.getElem?_toList, h1]
  have e : ps.getD i ByteArray.empty = ps[i] := by simp [hi]
  rw [e]
  simp [hi]

set_option maxRecDepth 100000 in
set_option maxHeartbeats 2000000 in
theorem partsIn (s : ByteArray) (w : World) (hs : s.size ≤ 2000000) :
    Calls Tryd.prog 47 #[.string s] w fun e w' => ∃ (g cap : Nat) (ps : List ByteArray), e = .returned (.slice (some ⟨g, 0, none⟩) ps.length cap) ∧
      ps.length ≤ cap ∧ bts ps = (parts 10 s.data.toList).1 ++ [(parts 10 s.data.toList).2] ∧ Below w.heap.size w w' ∧ Strs w' (some ⟨g, 0, none⟩) ps ∧ w.heap.size ≤ g ∧ g < w'.heap.size := by
  obtain ⟨i0, hi, hz0, hz1, hz2⟩ := info_parts Tryd.info9
  go_enter Tryd.func47, Tryd.ntmps47
  go_wp2
  go_loopw [3, 4, 5] (fun v f i wr => ∃ (k m : Nat) (done : List ByteArray), f = .int .i64 m ∧ i = .int .i64 k ∧ Cutting s done m k ∧ wr.ownsRow w.heap.size 9 1 v done.length (done.map Value.string) ∧ Below w.heap.size w wr) (fun _ _ i _ => s.size - (intOf i).toNat)
  case atStart => exact ⟨0, 0, [], rfl, rfl, Cutting.start s, ⟨rfl, Or.inl ⟨rfl, rfl⟩⟩, Below.refl _ _⟩
  case round =>
    obtain ⟨k, m, done, rfl, rfl, hcut, hown, hbl⟩ := hrel
    have hmk := hcut.1
    have hks := hcut.2.1
    have hdl := hcut.len
    have hsz := hbl.size
    have HC : Hid (Cutting s done m k) := hcut
    clear hcut
    by_cases hlt : k < s.size
    · by_cases hb : ((s[k].toNat : Int) == 10) = true
      · have HB : Hid (s[k] = 10) := (byte_eq s[k] 10).1 hb
        go_wp2_with (at_builtin; refine wpList_append_own _ rfl _ _ 83 rfl w.heap.size 9 i0 (.string ByteArray.empty) 1 16 Tryd.underlying83 hi hz0 hz1 hz2 rfl (by decide) _ _ _ rfl (hown.alloc _) ⟨wr.heap.size, 0, none⟩ 1 1 [.string (s.extract m k)] rfl rfl (cell_one_new _ _ _) (fun x hx => by simp at hx; subst hx; rfl) (by unfold maxLen; omega) (by omega) (by simp; omega) ?_; intro v' w3 hown' hgrow3 hnil3)
        go_roundw
        case rel =>
          refine ⟨k + 1, k + 1, done ++ [s.extract m k], by go_num, by go_num, HC.out.hit hlt HB.out, ?_, ?_⟩
          · rw [List.map_append, List.length_append]; exact hown'
          · exact (hbl.alloc (by omega) _).grown hgrow3 (by simp; omega) (fun j hj => (hown.lt j hj).1)
        case measure => simp [intOf]; omega
      · have hb : ((s[k].toNat : Int) == 10) = false := by simpa using hb
        have HB : Hid (s[k] ≠ 10) := fun e => by rw [e] at hb; simp at hb
        go_wp2
        go_roundw
        case rel => exact ⟨k + 1, m, done, rfl, by go_num, HC.out.go hlt HB.out, hown, hbl⟩
        case measure => simp [intOf]; omega
    · obtain rfl : k = s.size := by omega
      go_wp2_with (at_builtin; refine wpList_append_own _ rfl _ _ 83 rfl w.heap.size 9 i0 (.string ByteArray.empty) 1 16 Tryd.underlying83 hi hz0 hz1 hz2 rfl (by decide) _ _ _ rfl (hown.alloc _) ⟨wr.heap.size, 0, none⟩ 1 1 [.string (s.extract m s.size)] rfl rfl (cell_one_new _ _ _) (fun x hx => by simp at hx; subst hx; rfl) (by unfold maxLen; omega) (by omega) (by simp; omega) ?_; intro v' w3 hown' hgrow3 hnil3)
      go_ret
      have hpt := HC.out.parts
      rcases hown'.2 with ⟨_, h0⟩ | ⟨g, cap, cur, hv, hB, hh, hnc, hcm, hcs, htk⟩
      · omega
      · refine ⟨g, cap, done ++ [s.extract m s.size], ?_, ?_, ?_, ?_, ?_, hB, (Array.getElem?_eq_some_iff.1 hh).1⟩
        · rw [List.length_append]; rw [hv]; rfl
        · rw [List.length_append]; exact hnc
        · rw [hpt]
          unfold bts
          rw [List.map_append]
          show _ ++ [(s.extract m s.size).data.toList] = _
          rw [extract_list, List.take_of_length_le (by rw [← Lib.size_eq]; exact Nat.le_refl _)]
        · exact (hbl.alloc (by omega) _).grown hgrow3 (by simp; omega) (fun j hj => (hown.lt j hj).1)
        · exact strs_own (B := w.heap.size) (cap := cap) hh (by rw [htk, List.map_append]; rfl) (by rw [List.length_append]; rfl) hB hnc

theorem partsOf (s : ByteArray) (w : World) (hs : s.size ≤ 2000000) :
    Calls Tryd.prog 47 #[.string s] w fun e w' => ∃ (g cap : Nat) (ps : List ByteArray), e = .returned (.slice (some ⟨g, 0, none⟩) ps.length cap) ∧
      ps.length ≤ cap ∧ bts ps = (parts 10 s.data.toList).1 ++ [(parts 10 s.data.toList).2] ∧ Below w.heap.size w w' ∧ Strs w' (some ⟨g, 0, none⟩) ps :=
  (partsIn s w hs).mono fun _ _ ⟨g, cap, ps, h1, h2, h3, h4, h5, _⟩ => ⟨g, cap, ps, h1, h2, h3, h4, h5⟩

end Go.Proofs.YtppmpofdhkgjmafDoor
