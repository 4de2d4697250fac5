/-
  Walk of the document's MailOf.
-/
import Derived.Test.YtppmpofdhkgjmafDoorRwd
import Derived.Test.YtppmpofdhkgjmafDoorRby
import Derived.Test.YtppmpofdhkgjmafDoorRpt
import Derived.BigRegion

namespace Go.Proofs.YtppmpofdhkgjmafDoor
open Go.RowKit Dist

/-- What MailOf leaves. -/
def MoPost (w : World) (o : Option Ml) (e : Ending) (w' : World) : Prop := match o with
  | some m => ∃ a cap, e = .returned (.tuple #[.agg #[.string ⟨m.1.toArray⟩, .string ⟨m.2.1.toArray⟩, .string ⟨m.2.2.1.toArray⟩, .slice a m.2.2.2.length cap], .int .i64 0]) ∧ Bya w' a m.2.2.2 cap ∧ Nw w a ∧ Below w.heap.size w w'
  | none => e = .returned (.tuple #[.agg #[.string ByteArray.empty, .string ByteArray.empty, .string ByteArray.empty, .slice none 0 0], .int .i64 5]) ∧ Below w.heap.size w w'

theorem pre_take (l p : List UInt8) : Lib.hasPrefix l p = decide (l.take p.length = p) := by
  rw [Bool.eq_iff_iff, decide_eq_true_eq]
  unfold Lib.hasPrefix
  rw [List.isPrefixOf_iff_prefix, List.prefix_iff_eq_take]
  exact ⟨fun h => h.symm, fun h => h.symm⟩
theorem suf_last (l : List UInt8) (c : UInt8) : Lib.hasSuffix l [c] = decide (l.getLast? = some c) := by
  rw [Bool.eq_iff_iff, decide_eq_true_eq]
  unfold Lib.hasSuffix
  rw [List.isSuffixOf_iff_suffix]
  constructor
  · rintro ⟨r, rfl⟩; simp
  · intro h
    obtain ⟨r, rfl⟩ := List.getLast?_eq_some_iff.1 h
    exact ⟨r, rfl⟩

/-- A text of fewer lines is no mail. -/
theorem mof_few {s : List UInt8} (h : (parts 10 s).1.length < 5) : mof s = none := by
  unfold mof
  split
  · rename_i e; rw [e] at h; simp at h; omega
  · rfl
theorem mof_lines {s : List UInt8} {ps : List (List UInt8)} {z : List UInt8} (h : ps = (parts 10 s).1 ++ [z]) (h6 : 6 ≤ ps.length) :
    mof s = if mhd (ps.getD 0 []) (ps.getD 1 []) (ps.getD 2 []) (ps.getD 3 []) (ps.getD 4 []) then match byo (s.drop ((ps.getD 0 []).length + (ps.getD 1 []).length + (ps.getD 2 []).length + (ps.getD 3 []).length + 5)) with
      | none => none
      | some b => if mlOk ((ps.getD 0 []).drop 6, (ps.getD 1 []).drop 9, ((ps.getD 2 []).drop 13).dropLast, b) then some ((ps.getD 0 []).drop 6, (ps.getD 1 []).drop 9, ((ps.getD 2 []).drop 13).dropLast, b) else none
    else none := by
  unfold mof
  subst h
  rw [List.length_append] at h6
  match e : (parts 10 s).1 with
  | [] => rw [e] at h6; simp at h6
  | [_] => rw [e] at h6; simp at h6
  | [_, _] => rw [e] at h6; simp at h6
  | [_, _, _] => rw [e] at h6; simp at h6
  | [_, _, _, _] => rw [e] at h6; simp at h6
  | l0 :: l1 :: l2 :: l3 :: l4 :: r => rfl

theorem bts_getD (ps : List ByteArray) (k : Nat) : (bts ps).getD k [] = (ps.getD k ByteArray.empty).data.toList := by
  unfold bts
  rw [List.getD_eq_getElem?_getD, List.getD_eq_getElem?_getD, List.getElem?_map]
  cases ps[k]? <;> rfl

theorem set_other (w : World) (C i k : Nat) (v : Value) (h : k ≠ C) : (w.setCell ⟨C, i, none⟩ v).heap[k]? = w.heap[k]? := by
  simp only [World.setCell, Array.getElem?_modify]
  rw [if_neg (fun e => h e.symm)]

/-- A struct of four cells stored. -/
theorem put_four {w w0 : World} {C : Nat} {a b c d x y z u : Value} {t : TypeId} (h : w.heap[C]? = some (.cells #[a, b, c, d] t (0, 0))) (hb : Below C w0 w) :
    ((((w.setCell ⟨C, 0, none⟩ x).setCell ⟨C, 1, none⟩ y).setCell ⟨C, 2, none⟩ z).setCell ⟨C, 3, none⟩ u).heap[C]? = some (.cells #[x, y, z, u] t (0, 0)) ∧ (∀ k, k ≠ C → ((((w.setCell ⟨C, 0, none⟩ x).setCell ⟨C, 1, none⟩ y).setCell ⟨C, 2, none⟩ z).setCell ⟨C, 3, none⟩ u).heap[k]? = w.heap[k]?) ∧ Below C w0 ((((w.setCell ⟨C, 0, none⟩ x).setCell ⟨C, 1, none⟩ y).setCell ⟨C, 2, none⟩ z).setCell ⟨C, 3, none⟩ u) := by
  refine ⟨?_, ?_, ?_⟩
  · have := blk_set (i := 3) (blk_set (i := 2) (blk_set (i := 1) (blk_set (i := 0) h x) y) z) u
    simpa using this
  · intro k hk
    rw [set_other _ _ _ _ _ hk, set_other _ _ _ _ _ hk, set_other _ _ _ _ _ hk, set_other _ _ _ _ _ hk]
  · exact (((hb.setCell (p := ⟨C, 0, none⟩) (Nat.le_refl _) _).setCell (p := ⟨C, 1, none⟩) (Nat.le_refl _) _).setCell (p := ⟨C, 2, none⟩) (Nat.le_refl _) _).setCell (p := ⟨C, 3, none⟩) (Nat.le_refl _) _

/-- Bytes lie in no block of a mail's four cells. -/
theorem Bya.other {w W : World} {a : Option Addr} {x : List UInt8} {cap C : Nat} {b c d : ByteArray} {o : Option Addr} {n m : Nat} {t : TypeId} {fr : Nat × Nat} (h : Bya w a x cap) (hC : w.heap[C]? = some (.cells #[.string b, .string c, .string d, .slice o n m] t fr)) (hW : ∀ k, k ≠ C → W.heap[k]? = w.heap[k]?) : Bya W a x cap := by
  rcases h with h | ⟨g, off, h1, h2, h3⟩
  · exact .inl h
  · refine .inr ⟨g, off, h1, h2, fun i hi => ?_⟩
    have hc := h3 i hi
    refine (World.cell?_of_block (w := w) (a := ⟨g, off + i, none⟩) (hW g (fun e => ?_))).trans hc
    subst e
    rw [Lib.cell_of_heap hC] at hc
    rcases (by omega : off + i = 0 ∨ off + i = 1 ∨ off + i = 2 ∨ off + i = 3 ∨ 4 ≤ off + i) with e | e | e | e | e
    · rw [e] at hc; cases hc
    · rw [e] at hc; cases hc
    · rw [e] at hc; cases hc
    · rw [e] at hc; cases hc
    · rw [Array.getElem?_eq_none (by simpa using e)] at hc; cases hc

set_option maxHeartbeats 1000000 in
theorem mailOf_few (s : ByteArray) (hs : s.size ≤ 400000) (w : World) (h : (parts 10 s.data.toList).1.length < 5) :
    Calls Tryd.prog 20 #[.string s] w fun e w' => MoPost w none e w' := by
  have hb := below_alloc w (.cells #[.string ⟨#[]⟩, .string ⟨#[]⟩, .string ⟨#[]⟩, .slice none 0 0] 51)
  have hblk := heap_alloc_new w (.cells #[.string ⟨#[]⟩, .string ⟨#[]⟩, .string ⟨#[]⟩, .slice none 0 0] 51)
  have hsz : w.heap.size < (w.alloc (.cells #[.string ⟨#[]⟩, .string ⟨#[]⟩, .string ⟨#[]⟩, .slice none 0 0] 51)).heap.size := by simp
  have hp := partsOf s (w.alloc (.cells #[.string ⟨#[]⟩, .string ⟨#[]⟩, .string ⟨#[]⟩, .slice none 0 0] 51)) (by omega)
  have HB : Hid (Below w.heap.size w (w.alloc (.cells #[.string ⟨#[]⟩, .string ⟨#[]⟩, .string ⟨#[]⟩, .slice none 0 0] 51))) := hb
  clear hb
  go_enter Tryd.func20, Tryd.ntmps20
  go_wp2_with fail
  refine hp.mono ?_
  clear hp
  rintro e w1 ⟨g, cap, ps, rfl, _, hps, hb1, _⟩
  have hl : (ps.length : Int) < 6 := by
    have := congrArg List.length hps
    rw [bts_length, List.length_append] at this
    simp only [List.length_cons, List.length_nil] at this
    omega
  have hblk1 := blk_below hb1 hsz hblk
  have HB1 : Hid (Below w.heap.size w w1) := HB.out.trans (hb1.mono HB.out.size)
  obtain ⟨u1, u2, u3⟩ := put_four (x := .string ⟨#[]⟩) (y := .string ⟨#[]⟩) (z := .string ⟨#[]⟩) (u := .slice none 0 0) hblk1 HB1.out
  have c0 := Lib.cell_of_heap hblk1 0
  have c1 := Lib.cell_of_heap hblk1 1
  have c2 := Lib.cell_of_heap hblk1 2
  have c3 := Lib.cell_of_heap hblk1 3
  have f0 := Lib.frozen_of_heap hblk1 0
  have f1 := Lib.frozen_of_heap hblk1 1
  have f2 := Lib.frozen_of_heap hblk1 2
  have f3 := Lib.frozen_of_heap hblk1 3
  have q0 := Lib.cell_of_heap u1 0
  have q1 := Lib.cell_of_heap u1 1
  have q2 := Lib.cell_of_heap u1 2
  have q3 := Lib.cell_of_heap u1 3
  simp at c0 c1 c2 c3 q0 q1 q2 q3
  replace u3 : Hid _ := u3
  clear hps h hb1 hblk hblk1 u1 u2 hsz
  go_wp2
  refine bodyPost_ret (v := .tuple #[.agg #[.string ⟨#[]⟩, .string ⟨#[]⟩, .string ⟨#[]⟩, .slice none 0 0], .int .i64 5]) (by simp [results, Tryd.results20, go_sem, q0, q1, q2, q3]) rfl ⟨rfl, u3.out⟩

theorem joinC_mem (c : UInt8) : ∀ (ls : List (List UInt8)) (k : Nat), (ls.getD k []).length ≤ (joinC c ls).length
  | [], k => by simp [joinC]
  | x :: t, 0 => by simp [joinC]
  | x :: t, k + 1 => by
    have := joinC_mem c t k
    simp only [joinC, List.getD_cons_succ, List.length_append, List.length_cons]
    omega
theorem joinC_five (c : UInt8) : ∀ (ls : List (List UInt8)), 5 ≤ ls.length → (ls.getD 0 []).length + (ls.getD 1 []).length + (ls.getD 2 []).length + (ls.getD 3 []).length + (ls.getD 4 []).length + 5 ≤ (joinC c ls).length
  | l0 :: l1 :: l2 :: l3 :: l4 :: t, _ => by simp [joinC]; omega
  | [], h => absurd h (by simp)
  | [_], h => absurd h (by simp)
  | [_, _], h => absurd h (by simp)
  | [_, _, _], h => absurd h (by simp)
  | [_, _, _, _], h => absurd h (by simp)
theorem parts_le (s : List UInt8) : (joinC 10 (parts 10 s).1).length ≤ s.length := by
  have := congrArg List.length (parts_join 10 s)
  rw [List.length_append] at this
  omega

theorem strs_at {w : World} {g : Nat} {ps : List ByteArray} (h : Strs w (some ⟨g, 0, none⟩) ps) (i : Nat) (hi : i < ps.length) : w.cell? ⟨g, i, none⟩ = some (.string (ps.getD i ByteArray.empty)) := by
  obtain ⟨b, off, e, hc⟩ := h i hi
  simp only [Option.some.injEq, Addr.mk.injEq, and_true] at e
  obtain ⟨rfl, rfl⟩ := e
  rw [Nat.zero_add] at hc
  exact hc

set_option maxRecDepth 100000 in
set_option maxHeartbeats 8000000 in
theorem mailOf_bad (s : ByteArray) (hs : s.size ≤ 400000) (w : World) (h : 5 ≤ (parts 10 s.data.toList).1.length)
    (hbad : ¬ mhd (((parts 10 s.data.toList).1).getD 0 []) (((parts 10 s.data.toList).1).getD 1 []) (((parts 10 s.data.toList).1).getD 2 []) (((parts 10 s.data.toList).1).getD 3 []) (((parts 10 s.data.toList).1).getD 4 [])) :
    Calls Tryd.prog 20 #[.string s] w fun e w' => MoPost w none e w' := by
  have hb := below_alloc w (.cells #[.string ⟨#[]⟩, .string ⟨#[]⟩, .string ⟨#[]⟩, .slice none 0 0] 51)
  have hblk := heap_alloc_new w (.cells #[.string ⟨#[]⟩, .string ⟨#[]⟩, .string ⟨#[]⟩, .slice none 0 0] 51)
  have hsz : w.heap.size < (w.alloc (.cells #[.string ⟨#[]⟩, .string ⟨#[]⟩, .string ⟨#[]⟩, .slice none 0 0] 51)).heap.size := by simp
  have hp := partsOf s (w.alloc (.cells #[.string ⟨#[]⟩, .string ⟨#[]⟩, .string ⟨#[]⟩, .slice none 0 0] 51)) (by omega)
  have HB : Hid (Below w.heap.size w (w.alloc (.cells #[.string ⟨#[]⟩, .string ⟨#[]⟩, .string ⟨#[]⟩, .slice none 0 0] 51))) := hb
  have HBAD : Hid _ := hbad
  clear hb hbad
  go_enter Tryd.func20, Tryd.ntmps20
  go_wp2_with fail
  refine hp.mono ?_
  clear hp
  rintro e w1 ⟨g, cap, ps, rfl, _, hps, hb1, hst⟩
  have hpl : ps.length = (parts 10 s.data.toList).1.length + 1 := by
    have := congrArg List.length hps
    rw [bts_length, List.length_append] at this
    simpa using this
  have hg : ∀ k, k < 5 → ((parts 10 s.data.toList).1).getD k [] = (ps.getD k ByteArray.empty).data.toList := fun k hk => by
    rw [← bts_getD, hps, List.getD_eq_getElem?_getD, List.getD_eq_getElem?_getD, List.getElem?_append_left (by omega)]
  have hbad := HBAD.out
  rw [hg 0 (by omega), hg 1 (by omega), hg 2 (by omega), hg 3 (by omega), hg 4 (by omega)] at hbad
  have k0 := strs_at hst 0 (by omega)
  have k1 := strs_at hst 1 (by omega)
  have k2 := strs_at hst 2 (by omega)
  have k3 := strs_at hst 3 (by omega)
  have k4 := strs_at hst 4 (by omega)
  have hz : (ps.getD 2 ByteArray.empty).size ≤ 400000 := by
    have h7 := joinC_mem 10 (parts 10 s.data.toList).1 2
    have h8 := parts_le s.data.toList
    rw [hg 2 (by omega), ← Lib.size_eq] at h7
    rw [← Lib.size_eq] at h8
    omega
  have hl : ¬ (ps.length : Int) < 6 := by omega
  have hl1 : (1 : Int) < (ps.length : Int) := by omega
  have hl4 : (4 : Int) < (ps.length : Int) := by omega
  have hl3 : (3 : Int) < (ps.length : Int) := by omega
  have hl2 : (2 : Int) < (ps.length : Int) := by omega
  have hl0 : (0 : Int) < (ps.length : Int) := by omega
  generalize ps.getD 0 ByteArray.empty = p0 at k0 hbad
  generalize ps.getD 1 ByteArray.empty = p1 at k1 hbad
  generalize ps.getD 2 ByteArray.empty = p2 at k2 hbad hz
  generalize ps.getD 3 ByteArray.empty = p3 at k3 hbad
  generalize ps.getD 4 ByteArray.empty = p4 at k4 hbad
  obtain ⟨n, hn⟩ : ∃ n, ps.length = n := ⟨_, rfl⟩
  rw [hn] at hl hl0 hl1 hl2 hl3 hl4 ⊢
  have hblk1 := blk_below hb1 hsz hblk
  have HB1 : Hid (Below w.heap.size w w1) := HB.out.trans (hb1.mono HB.out.size)
  obtain ⟨u1, u2, u3⟩ := put_four (x := .string ⟨#[]⟩) (y := .string ⟨#[]⟩) (z := .string ⟨#[]⟩) (u := .slice none 0 0) hblk1 HB1.out
  have c0 := Lib.cell_of_heap hblk1 0
  have c1 := Lib.cell_of_heap hblk1 1
  have c2 := Lib.cell_of_heap hblk1 2
  have c3 := Lib.cell_of_heap hblk1 3
  have f0 := Lib.frozen_of_heap hblk1 0
  have f1 := Lib.frozen_of_heap hblk1 1
  have f2 := Lib.frozen_of_heap hblk1 2
  have f3 := Lib.frozen_of_heap hblk1 3
  have q0 := Lib.cell_of_heap u1 0
  have q1 := Lib.cell_of_heap u1 1
  have q2 := Lib.cell_of_heap u1 2
  have q3 := Lib.cell_of_heap u1 3
  simp at c0 c1 c2 c3 q0 q1 q2 q3
  replace u3 : Hid _ := u3
  replace q0 : Hid _ := q0
  replace q1 : Hid _ := q1
  replace q2 : Hid _ := q2
  replace q3 : Hid _ := q3
  clear hps h hb1 hblk hblk1 u1 u2 hsz hst hg hpl hn HBAD HB HB1
  have s1 := fun W => starts p0 ⟨#[70, 114, 111, 109, 58, 32]⟩ W
  have s2 := fun W => starts p1 ⟨#[83, 117, 98, 106, 101, 99, 116, 58, 32]⟩ W
  have s3 := fun W => starts p2 ⟨#[77, 101, 115, 115, 97, 103, 101, 45, 73, 68, 58, 32, 60]⟩ W
  have s4 := fun W => ends p2 ⟨#[62]⟩ W (by unfold maxLen; omega)
  obtain ⟨A, hA⟩ : ∃ A, Lib.hasPrefix p0.data.toList kF = A := ⟨_, rfl⟩
  obtain ⟨B, hB⟩ : ∃ B, Lib.hasPrefix p1.data.toList kS = B := ⟨_, rfl⟩
  obtain ⟨C, hC⟩ : ∃ C, Lib.hasPrefix p2.data.toList kI = C := ⟨_, rfl⟩
  obtain ⟨D, hD⟩ : ∃ D, Lib.hasSuffix p2.data.toList [62] = D := ⟨_, rfl⟩
  replace s1 : ∀ W, Calls Tryd.prog 48 #[.string p0, .string ⟨#[70, 114, 111, 109, 58, 32]⟩] W fun e w' => e = .returned (.bool A) ∧ w' = W := fun W => by rw [← hA]; exact s1 W
  replace s2 : ∀ W, Calls Tryd.prog 48 #[.string p1, .string ⟨#[83, 117, 98, 106, 101, 99, 116, 58, 32]⟩] W fun e w' => e = .returned (.bool B) ∧ w' = W := fun W => by rw [← hB]; exact s2 W
  replace s3 : ∀ W, Calls Tryd.prog 48 #[.string p2, .string ⟨#[77, 101, 115, 115, 97, 103, 101, 45, 73, 68, 58, 32, 60]⟩] W fun e w' => e = .returned (.bool C) ∧ w' = W := fun W => by rw [← hC]; exact s3 W
  replace s4 : ∀ W, Calls Tryd.prog 49 #[.string p2, .string ⟨#[62]⟩] W fun e w' => e = .returned (.bool D) ∧ w' = W := fun W => by rw [← hD]; exact s4 W
  have HBAD : Hid _ := hbad
  have HA : Hid _ := hA
  have HB : Hid _ := hB
  have HC : Hid _ := hC
  have HD : Hid _ := hD
  clear hA hB hC hD hbad
  go_wp2_with (first
    | (go_at_call 48; refine (s1 _).mono ?_; clear s1; rintro e w2 ⟨rfl, rfl⟩)
    | (go_at_call 48; refine (s2 _).mono ?_; clear s2; rintro e w2 ⟨rfl, rfl⟩)
    | (go_at_call 48; refine (s3 _).mono ?_; clear s3; rintro e w2 ⟨rfl, rfl⟩)
    | fail)
  refine (s4 _).mono ?_
  clear s4
  rintro e w2 ⟨rfl, rfl⟩
  have hbad := HBAD.out
  have hA := HA.out
  have hB := HB.out
  have hC := HC.out
  have hD := HD.out
  clear HBAD HA HB HC HD
  rw [pre_take] at hA hB hC
  rw [suf_last] at hD
  cases A
  case' true =>
    cases B
    case' true =>
      cases C
      case' true =>
        cases D
        case' true =>
          by_cases t1 : p2.size < 14
          case' pos =>
            have t1' : (p2.size : Int) < 14 := by omega
          case' neg =>
            have t1' : ¬ (p2.size : Int) < 14 := by omega
            by_cases t2 : p3 = ⟨#[67, 111, 110, 116, 101, 110, 116, 45, 84, 114, 97, 110, 115, 102, 101, 114, 45, 69, 110, 99, 111, 100, 105, 110, 103, 58, 32, 98, 97, 115, 101, 54, 52]⟩
            case' neg =>
              have t2' : ¬ p3.toList = [67, 111, 110, 116, 101, 110, 116, 45, 84, 114, 97, 110, 115, 102, 101, 114, 45, 69, 110, 99, 111, 100, 105, 110, 103, 58, 32, 98, 97, 115, 101, 54, 52] := fun e => t2 (ByteArray.ext (Array.toList_inj.1 ((Lib.toList_data p3).symm.trans e)))
              dsimp only at t2'
            case' pos =>
              have t3 : (0 : Int) < (p4.size : Int) := by
                rcases Nat.eq_zero_or_pos p4.size with e | e
                · refine absurd ⟨of_decide_eq_true hA, of_decide_eq_true hB, of_decide_eq_true hC, of_decide_eq_true hD, ?_, ?_, ?_⟩ hbad
                  · rw [← Lib.size_eq]; omega
                  · rw [t2]; rfl
                  · exact List.length_eq_zero_iff.1 (by rw [← Lib.size_eq]; exact e)
                · omega
              subst t2
  all_goals
    clear hA hB hC hD hbad
    go_wp2
    refine bodyPost_ret (v := .tuple #[.agg #[.string ⟨#[]⟩, .string ⟨#[]⟩, .string ⟨#[]⟩, .slice none 0 0], .int .i64 5]) (by simp [results, Tryd.results20, go_sem, q0.out, q1.out, q2.out, q3.out]) rfl ⟨rfl, u3.out⟩

end Go.Proofs.YtppmpofdhkgjmafDoor
