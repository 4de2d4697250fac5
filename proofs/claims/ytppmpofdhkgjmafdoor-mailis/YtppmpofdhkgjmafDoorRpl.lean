/-
  Walks of strings.Replace and strings.ReplaceAll where each byte 10 is left out.
-/
import Derived.Test.YtppmpofdhkgjmafDoorBpr
import Derived.Test.YtppmpofdhkgjmafDoorWri

namespace Go.Proofs.YtppmpofdhkgjmafDoor
open Go.RowKit Dist

theorem no10_hit (a r : List UInt8) (h : 10 ∉ a) : no10 (a ++ 10 :: r) = a ++ no10 r := by
  unfold no10
  rw [List.filter_append, List.filter_eq_self.2 (fun c hc => by
    have : c ≠ 10 := fun e => h (e ▸ hc)
    simp [this]), List.filter_cons_of_neg (by simp)]
theorem no10_none {a : List UInt8} (h : 10 ∉ a) : no10 a = a := List.filter_eq_self.2 (fun c hc => by
    have : c ≠ 10 := fun e => h (e ▸ hc)
    simp [this])
theorem no10_le (a : List UInt8) : (no10 a).length ≤ a.length := List.length_filter_le _ _

set_option maxRecDepth 100000 in
set_option maxHeartbeats 1000000 in
theorem replaceOf (s : ByteArray) (hs : s.size ≤ 140737488355328) (w : World) :
    Calls Tryd.prog 88 #[.string s, .string ⟨#[10]⟩, .string ⟨#[]⟩, .int .i64 (-1)] w fun e w' => e = .returned (.string ⟨(no10 s.data.toList).toArray⟩) ∧ Below w.heap.size w w' := by
  obtain ⟨K, hK⟩ : ∃ K, Lib.countByte s.data.toList 10 = K := ⟨_, rfl⟩
  have hC := Tryd.strings_Count_one s 10
  rw [hK] at hC
  have hKs : K ≤ s.size := by rw [← hK, Lib.size_eq]; exact List.count_le_length
  have hga : (s.size : Int) + -(K : Int) = ((s.size - K : Nat) : Int) := by omega
  have hsl : s.data.toList.length = s.size := (Lib.size_eq s).symm
  by_cases h0 : K = 0
  · have hno : no10 s.data.toList = s.data.toList := no10_none (fun h => by
      have := List.count_pos_iff.2 h
      have e : s.data.toList.count 10 = K := hK
      omega)
    rw [hno]
    subst h0
    clear hK hga hKs
    go_enter Tryd.func88, Tryd.ntmps88
    go_wp2_with (go_at_call 103; refine (hC _).mono ?_; rintro e w1 ⟨rfl, rfl⟩)
    go_ret
    exact ⟨rfl, Below.refl _ _⟩
  · have HK : Hid (s.data.toList.count 10 = K) := hK
    have hKp : 0 < K := by omega
    clear hK h0
    go_enter Tryd.func88, Tryd.ntmps88
    go_wp2_with (go_at_call 103; refine (hC _).mono ?_; rintro e w1 ⟨rfl, rfl⟩)
    refine (Tryd.Builder_Grow_fresh w1.heap.size w1.heap.size (s.size - K) _ (Nat.le_refl _) (heap_alloc_new w1 _) (by simp) (by omega)).mono ?_
    rintro e w2 ⟨rfl, hb2, hw2⟩
    have H2 : Hid (Lib.IsBuilder 88 5 w1.heap.size w1.heap.size (Lib.byteCells []) w2) := Or.inr hb2
    have W2 : Hid (Below w1.heap.size w1 w2) := (below_alloc w1 _).trans hw2
    clear hb2 hw2 hC hga
    go_wp2_with fail
    go_loopg [11, 12, 53] K (fun g s11 _ s53 wx => ∃ (i start : Nat) (acc : List UInt8), s53 = .int .i64 i ∧ s11 = .int .i64 start ∧ i + g = K ∧ start ≤ s.size ∧
      Hid (Lib.IsBuilder 88 5 w1.heap.size w1.heap.size (Lib.byteCells acc) wx) ∧ Hid (Below w1.heap.size w1 wx) ∧ Hid (acc ++ no10 (s.data.toList.drop start) = no10 s.data.toList) ∧
      Hid ((s.data.toList.drop start).count 10 = g) ∧ acc.length ≤ start)
    case atStart => exact ⟨0, 0, [], rfl, rfl, by omega, Nat.zero_le _, H2, W2, rfl, HK, by simp⟩
    case round =>
      obtain ⟨i, start, acc, rfl, rfl, hig, hst, HB, HW, HR, HC, hal⟩ := hrel
      have hBw : w1.heap.size ≤ wr.heap.size := HW.out.size
      have c1 : (0 : Int) ≤ (start : Int) := by omega
      have c2 : (start : Int) ≤ (s.size : Int) := by omega
      cases gk with
      | zero =>
        have hiK : ¬ ((i : Int) < (K : Int)) := by omega
        have hno : no10 (s.data.toList.drop start) = s.data.toList.drop start := no10_none (fun h => by
          have h1 := List.count_pos_iff.2 h
          have h2 := HC.out
          omega)
        go_wp2_with fail
        refine (writeStr w1.heap.size w1.heap.size _ _ wr HB.out (by rw [Lib.byteCells_length, ByteArray.size_extract]; omega) hBw).mono ?_
        rintro e w3 ⟨rfl, h3, hb3⟩
        rw [Lib.strCells_eq, Lib.extract_to_end, ← Lib.byteCells_append, ← hno, HR.out] at h3
        have H3 : Hid (Lib.IsBuilder 88 5 w1.heap.size w1.heap.size _ w3) := Or.inr h3
        have W3 : Hid (Below w1.heap.size w1 w3) := HW.out.trans hb3.1
        have hBw3 : w1.heap.size ≤ w3.heap.size := W3.out.size
        clear h3 hb3 hno
        go_wp2_with fail
        refine (Tryd.Builder_String_any w1.heap.size w1.heap.size _ w3 H3.out hBw3).mono ?_
        rintro e w5 ⟨rfl, hb5⟩
        have W5 : Hid (Below w1.heap.size w1 w5) := W3.out.trans hb5
        clear hb5
        go_wp2
        go_ret
        exact ⟨rfl, W5.out⟩
      | succ g =>
        have hiK : (i : Int) < (K : Int) := by omega
        obtain ⟨a, r, hs10, hna⟩ : ∃ a r, s.data.toList.drop start = a ++ 10 :: r ∧ 10 ∉ a := by
          have hm : (10 : UInt8) ∈ s.data.toList.drop start := List.count_pos_iff.1 (by have := HC.out; omega)
          exact List.eq_append_cons_of_mem hm
        obtain ⟨j, hj⟩ : ∃ j, a.length = j := ⟨_, rfl⟩
        have hix : Lib.indexByte (s.data.toList.drop start) 10 = j := by rw [hs10, indexByte_hit 10 a r hna, hj]
        have hdl : s.size - start = j + 1 + r.length := by
          have := congrArg List.length hs10
          rw [List.length_drop, hsl, List.length_append, List.length_cons, hj] at this
          omega
        have c3 : (start : Int) ≤ (start : Int) + (j : Int) := by omega
        have c4 : (start : Int) + (j : Int) ≤ (s.size : Int) := by omega
        have hdr : s.data.toList.drop (start + j + 1) = r := by
          rw [show start + j + 1 = start + (j + 1) by omega, ← List.drop_drop, hs10, ← hj]
          simp
        have HN : Hid (Lib.byteCells acc ++ Lib.strCells (s.extract start (start + j)) ++ Lib.strCells ⟨#[]⟩ = Lib.byteCells (acc ++ a)) := by
          show Lib.byteCells acc ++ Lib.strCells (s.extract start (start + j)) ++ Lib.strCells ⟨#[]⟩ = _
          rw [Lib.strCells_eq, Lib.strCells_eq, Lib.extract_data, Nat.add_sub_cancel_left, hs10, List.take_left' hj, ← Lib.byteCells_append]
          simp [Lib.byteCells]
        have HR2 : Hid ((acc ++ a) ++ no10 (s.data.toList.drop (start + j + 1)) = no10 s.data.toList) := by
          show (acc ++ a) ++ no10 (s.data.toList.drop (start + j + 1)) = no10 s.data.toList
          rw [hdr, ← HR.out, hs10, no10_hit a r hna, List.append_assoc]
        have HC2 : Hid ((s.data.toList.drop (start + j + 1)).count 10 = g) := by
          show (s.data.toList.drop (start + j + 1)).count 10 = g
          have h2 := HC.out
          rw [hs10, List.count_append, List.count_eq_zero.2 hna, List.count_cons_self] at h2
          rw [hdr]; omega
        have hal2 : (acc ++ a).length ≤ start + j := by rw [List.length_append, hj]; omega
        clear hs10 hna hdr
        go_wp2_with (first | (go_at_call 104; refine (Tryd.strings_Index_one _ 10 _).mono ?_; rintro e w' ⟨rfl, rfl⟩; rw [Lib.extract_to_end, hix]))
        refine (writeStr w1.heap.size w1.heap.size _ (s.extract start (start + j)) _ HB.out (by rw [Lib.byteCells_length, ByteArray.size_extract]; omega) hBw).mono ?_
        rintro e w3 ⟨rfl, h3, hb3⟩
        have hBw3 : w1.heap.size ≤ w3.heap.size := Nat.le_trans hBw hb3.1.size
        have H3 : Hid _ := h3
        have W3 : Hid (Below w1.heap.size w1 w3) := HW.out.trans hb3.1
        clear h3 hb3
        go_wp2_with fail
        refine (writeStr w1.heap.size w1.heap.size _ ⟨#[]⟩ w3 (Or.inr H3.out) (by rw [List.length_append, Lib.byteCells_length, Lib.strCells_length, ByteArray.size_extract]; show _ + _ + 0 ≤ _; omega) hBw3).mono ?_
        rintro e w4 ⟨rfl, h4, hb4⟩
        rw [HN.out] at h4
        have H4 : Hid (Lib.IsBuilder 88 5 w1.heap.size w1.heap.size _ w4) := Or.inr h4
        have W4 : Hid (Below w1.heap.size w1 w4) := W3.out.trans hb4.1
        clear h4 hb4
        go_wp2
        go_roundg g
        case measure => omega
        case rel => exact ⟨i + 1, start + j + 1, _, by simp, by simp, by omega, by omega, H4, W4, HR2, HC2, by omega⟩


set_option maxHeartbeats 400000 in
theorem replaceAll (s : ByteArray) (hs : s.size ≤ 140737488355328) (w : World) :
    Calls Tryd.prog 66 #[.string s, .string ⟨#[10]⟩, .string ⟨#[]⟩] w fun e w' => e = .returned (.string ⟨(no10 s.data.toList).toArray⟩) ∧ Below w.heap.size w w' := by
  have c := replaceOf s hs
  go_enter Tryd.func66, Tryd.ntmps66
  go_wp2_with (go_at_call 88; refine (c _).mono ?_; rintro e w1 ⟨rfl, hb⟩)
  go_ret
  exact ⟨rfl, hb⟩

end Go.Proofs.YtppmpofdhkgjmafDoor
