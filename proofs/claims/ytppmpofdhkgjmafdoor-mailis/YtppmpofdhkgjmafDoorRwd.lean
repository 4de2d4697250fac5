/-
  Walks of the document's word, MailFault, MailText.
-/
import Derived.Test.YtppmpofdhkgjmafDoorMla
import Derived.Test.YtppmpofdhkgjmafDoorSef
import Derived.Test.YtppmpofdhkgjmafDoorRlt

namespace Go.Proofs.YtppmpofdhkgjmafDoor
open Go.RowKit Dist

theorem in_take {s : ByteArray} {k : Nat} (h : k < s.size) : s.data.toList.take (k + 1) = s.data.toList.take k ++ [s[k]] := by
  rw [List.take_succ_eq_append_getElem (by rw [← Lib.size_eq]; exact h)]; rfl

set_option maxHeartbeats 1000000 in
theorem wordOf (s : ByteArray) (n : Nat) (b : Bool) (w : World) (hn : n ≤ 1000) (hb : decide (wrd s.data.toList n) = b) : Calls Tryd.prog 42 #[.string s, .int .i64 n] w fun e w' => e = .returned (.bool b) ∧ w' = w := by
  have E : Hid (∀ v, decide (wrd s.data.toList n) = v → Ending.returned (.bool v) = .returned (.bool b)) := fun v hv => by rw [← hv, hb]
  clear hb
  by_cases h1 : s.size < 1
  · have h1' : (s.size : Int) < 1 := by omega
    have HF : Hid (decide (wrd s.data.toList n) = false) := decide_eq_false (fun h => by have := h.1; rw [← Lib.size_eq] at this; omega)
    go_enter Tryd.func42, Tryd.ntmps42
    go_wp2
    go_ret
    exact ⟨E.out _ HF.out, rfl⟩
  have h1' : ¬ (s.size : Int) < 1 := by omega
  by_cases h2 : n < s.size
  · have h2' : (n : Int) < (s.size : Int) := by omega
    have HF : Hid (decide (wrd s.data.toList n) = false) := decide_eq_false (fun h => by have := h.2.1; rw [← Lib.size_eq] at this; omega)
    go_enter Tryd.func42, Tryd.ntmps42
    go_wp2
    go_ret
    exact ⟨E.out _ HF.out, rfl⟩
  have h2' : ¬ (n : Int) < (s.size : Int) := by omega
  go_enter Tryd.func42, Tryd.ntmps42
  go_wp2
  go_loop [5] (fun i => ∃ k : Nat, k ≤ s.size ∧ i = .int .i64 k ∧ ∀ c ∈ s.data.toList.take k, 32 ≤ c ∧ c ≤ 126) (fun i => s.size - (intOf i).toNat)
  case atStart => exact ⟨0, Nat.zero_le _, rfl, fun c hc => absurd hc (by simp)⟩
  case round =>
    obtain ⟨k, hk, rfl, hall⟩ := hrel
    have HA : Hid (∀ c ∈ s.data.toList.take k, 32 ≤ c ∧ c ≤ 126) := hall
    clear hall
    by_cases hlt : k < s.size
    · have hlt' : (k : Int) < (s.size : Int) := by omega
      have HM : Hid (s[k] ∈ s.data.toList) := List.getElem_mem (by rw [← Lib.size_eq]; exact hlt)
      have HT : Hid (s.data.toList.take (k + 1) = s.data.toList.take k ++ [s[k]]) := in_take hlt
      obtain ⟨c, hc⟩ : ∃ c, s[k] = c := ⟨_, rfl⟩
      rw [hc] at HM HT
      by_cases c1 : c.toNat < 32
      · have c1' : (c.toNat : Int) < 32 := by omega
        have HF : Hid (decide (wrd s.data.toList n) = false) := decide_eq_false (fun h => by
          have h3 := UInt8.le_iff_toNat_le.1 (h.2.2 _ HM.out).1
          have h4 : (32 : UInt8).toNat = 32 := rfl
          omega)
        clear HT
        go_wp2
        go_ret
        exact ⟨E.out _ HF.out, rfl⟩
      · have c1' : ¬ (c.toNat : Int) < 32 := by omega
        by_cases c2 : 126 < c.toNat
        · have c2' : (126 : Int) < (c.toNat : Int) := by omega
          have HF : Hid (decide (wrd s.data.toList n) = false) := decide_eq_false (fun h => by
            have h3 := UInt8.le_iff_toNat_le.1 (h.2.2 _ HM.out).2
            have h4 : (126 : UInt8).toNat = 126 := rfl
            omega)
          clear HT
          go_wp2
          go_ret
          exact ⟨E.out _ HF.out, rfl⟩
        · have c2' : ¬ (126 : Int) < (c.toNat : Int) := by omega
          have HN : Hid (∀ c ∈ s.data.toList.take (k + 1), 32 ≤ c ∧ c ≤ 126) := by
            show ∀ c ∈ s.data.toList.take (k + 1), 32 ≤ c ∧ c ≤ 126
            rw [HT.out]
            intro x hx
            rcases List.mem_append.1 hx with hx | hx
            · exact HA.out x hx
            · rw [List.mem_singleton] at hx
              subst hx
              have h4 : (126 : UInt8).toNat = 126 := rfl
              have h5 : (32 : UInt8).toNat = 32 := rfl
              exact ⟨UInt8.le_iff_toNat_le.2 (by omega), UInt8.le_iff_toNat_le.2 (by omega)⟩
          clear HT HA HM
          go_wp2
          go_round
          case rel => exact ⟨k + 1, by omega, by go_num, HN.out⟩
          case measure => simp [intOf]; omega
    · have hlt' : ¬ (k : Int) < (s.size : Int) := by omega
      have HF : Hid (decide (wrd s.data.toList n) = true) := decide_eq_true (by
        have h3 := HA.out
        rw [List.take_of_length_le (by rw [← Lib.size_eq]; omega)] at h3
        exact ⟨by rw [← Lib.size_eq]; omega, by rw [← Lib.size_eq]; omega, h3⟩)
      go_wp2
      go_ret
      exact ⟨E.out _ HF.out, rfl⟩

theorem idx_mem (c : UInt8) (l : List UInt8) (h : c ∈ l) : 0 ≤ Lib.index l [c] := by
  rw [Lib.index_one]
  by_cases e : Lib.indexByte l c = -1
  · obtain ⟨k, hk⟩ := List.mem_iff_getElem?.1 h
    exact absurd hk (Lib.indexByte_none e k)
  · have := Lib.index_ge l [c]
    rw [Lib.index_one] at this
    omega
theorem idx_not (c : UInt8) (l : List UInt8) (h : c ∉ l) : ¬ 0 ≤ Lib.index l [c] := by
  rw [Lib.index_one]
  intro e
  obtain ⟨o, ho⟩ := Int.eq_ofNat_of_zero_le e
  exact h (List.mem_of_getElem? (Lib.indexByte_some ho).1)

set_option maxHeartbeats 1000000 in
theorem mailFault (f s d : ByteArray) (x : List UInt8) (am : Option Addr) (cm : Nat) (w : World) :
    Calls Tryd.prog 16 #[.agg #[.string f, .string s, .string d, .slice am x.length cm]] w fun e w' => e = .returned (.int .i64 (mlf (mlb (f, s, d, x)))) ∧ Below w.heap.size w w' := by
  have HB : Hid (Below w.heap.size w (w.alloc (.cells #[.string f, .string s, .string d, .slice am x.length cm] 51))) := below_alloc _ _
  have E : Hid (∀ n, mlf (mlb (f, s, d, x)) = n → Ending.returned (.int .i64 n) = .returned (.int .i64 (mlf (mlb (f, s, d, x))))) := fun n hn => by rw [hn]
  have HX : Hid (mlf (mlb (f, s, d, x)) = if wrd f.data.toList 40 ∧ wrd s.data.toList 40 ∧ wrd d.data.toList 40 ∧ 60 ∉ d.data.toList ∧ 62 ∉ d.data.toList then (if 40000 < x.length then 3 else 0) else 5) := rfl
  obtain ⟨n, hn⟩ : ∃ n, x.length = n := ⟨_, rfl⟩
  rw [hn] at HX HB ⊢
  clear hn
  obtain ⟨A, hA⟩ : ∃ A, decide (wrd f.data.toList 40) = A := ⟨_, rfl⟩
  obtain ⟨B, hB⟩ : ∃ B, decide (wrd s.data.toList 40) = B := ⟨_, rfl⟩
  obtain ⟨C, hC⟩ : ∃ C, decide (wrd d.data.toList 40) = C := ⟨_, rfl⟩
  have h1 := fun W => wordOf f 40 A W (by decide) hA
  have h2 := fun W => wordOf s 40 B W (by decide) hB
  have h3 := fun W => wordOf d 40 C W (by decide) hC
  cases A
  case' false =>
    have HR : Hid (mlf (mlb (f, s, d, x)) = 5) := by show _ = _; rw [HX.out]; exact if_neg (fun h => of_decide_eq_false hA h.1)
  case' true =>
    cases B
    case' false =>
      have HR : Hid (mlf (mlb (f, s, d, x)) = 5) := by show _ = _; rw [HX.out]; exact if_neg (fun h => of_decide_eq_false hB h.2.1)
    case' true =>
      cases C
      case' false =>
        have HR : Hid (mlf (mlb (f, s, d, x)) = 5) := by show _ = _; rw [HX.out]; exact if_neg (fun h => of_decide_eq_false hC h.2.2.1)
      case' true =>
        have c := of_decide_eq_true hC
        have hd : d.size ≤ 400000 := by have := c.2.1; rw [← Lib.size_eq] at this; omega
        have h4 := fun W => findIn d ⟨#[60]⟩ W hd (by decide) (by decide)
        have h5 := fun W => findIn d ⟨#[62]⟩ W hd (by decide) (by decide)
        have HI : Hid (wrd f.data.toList 40 ∧ wrd s.data.toList 40 ∧ wrd d.data.toList 40) := ⟨of_decide_eq_true hA, of_decide_eq_true hB, c⟩
        obtain ⟨i, hi⟩ : ∃ i, Lib.index d.data.toList [60] = i := ⟨_, rfl⟩
        obtain ⟨j, hj⟩ : ∃ j, Lib.index d.data.toList [62] = j := ⟨_, rfl⟩
        replace h4 : ∀ W, Calls Tryd.prog 43 #[.string d, .string ⟨#[60]⟩] W fun e w' => e = .returned (.int .i64 i) ∧ w' = W := fun W => by rw [← hi]; exact h4 W
        replace h5 : ∀ W, Calls Tryd.prog 43 #[.string d, .string ⟨#[62]⟩] W fun e w' => e = .returned (.int .i64 j) ∧ w' = W := fun W => by rw [← hj]; exact h5 W
        clear hd c
        by_cases p : (60 : UInt8) ∈ d.data.toList
        case' pos =>
          have hp : 0 ≤ i := hi ▸ idx_mem _ _ p
          have HR : Hid (mlf (mlb (f, s, d, x)) = 5) := by show _ = _; rw [HX.out]; exact if_neg (fun h => h.2.2.2.1 p)
          clear p
        case' neg =>
          have hp : ¬ 0 ≤ i := hi ▸ idx_not _ _ p
          by_cases q : (62 : UInt8) ∈ d.data.toList
          case' pos =>
            have hq : 0 ≤ j := hj ▸ idx_mem _ _ q
            have HR : Hid (mlf (mlb (f, s, d, x)) = 5) := by show _ = _; rw [HX.out]; exact if_neg (fun h => h.2.2.2.2 q)
            clear p q
          case' neg =>
            have hq : ¬ 0 ≤ j := hj ▸ idx_not _ _ q
            by_cases r : 40000 < n
            case' pos =>
              have hr : (40000 : Int) < (n : Int) := by omega
              have HR : Hid (mlf (mlb (f, s, d, x)) = 3) := by show _ = _; rw [HX.out, if_pos ⟨HI.out.1, HI.out.2.1, HI.out.2.2, p, q⟩]; exact if_pos r
              clear p q
            case' neg =>
              have hr : ¬ (40000 : Int) < (n : Int) := by omega
              have HR : Hid (mlf (mlb (f, s, d, x)) = 0) := by show _ = _; rw [HX.out, if_pos ⟨HI.out.1, HI.out.2.1, HI.out.2.2, p, q⟩]; exact if_neg r
              clear p q
        all_goals clear hi hj HI
  all_goals
    clear HX hA hB hC
    go_enter Tryd.func16, Tryd.ntmps16
    go_wp2_with (first
      | (go_at_call 42; refine (h1 _).mono ?_; clear h1; rintro e w1 ⟨rfl, rfl⟩)
      | (go_at_call 42; refine (h2 _).mono ?_; clear h2; rintro e w1 ⟨rfl, rfl⟩)
      | (go_at_call 42; refine (h3 _).mono ?_; clear h3; rintro e w1 ⟨rfl, rfl⟩)
      | (go_at_call 43; refine (h4 _).mono ?_; clear h4; rintro e w1 ⟨rfl, rfl⟩)
      | (go_at_call 43; refine (h5 _).mono ?_; clear h5; rintro e w1 ⟨rfl, rfl⟩))
    go_ret
    exact ⟨E.out _ HR.out, HB.out⟩

theorem mtx_list (f s d : ByteArray) (x : List UInt8) : mtx (mlb (f, s, d, x)) = kF ++ (f.data.toList ++ ([10] ++ (kS ++ (s.data.toList ++ ([10] ++ (kI ++ (d.data.toList ++ ([62, 10] ++ (kC ++ ([10, 10] ++ ltrs x)))))))))) := by
  unfold mtx mlb
  simp only [joinC, List.append_assoc, List.cons_append, List.nil_append]

set_option maxHeartbeats 1000000 in
theorem mtx_text (f s d : ByteArray) (x : List UInt8) : ((((((((⟨#[70, 114, 111, 109, 58, 32]⟩ : ByteArray) ++ f) ++ ⟨#[10, 83, 117, 98, 106, 101, 99, 116, 58, 32]⟩) ++ s) ++ ⟨#[10, 77, 101, 115, 115, 97, 103, 101, 45, 73, 68, 58, 32, 60]⟩) ++ d) ++ ⟨#[62, 10, 67, 111, 110, 116, 101, 110, 116, 45, 84, 114, 97, 110, 115, 102, 101, 114, 45, 69, 110, 99, 111, 100, 105, 110, 103, 58, 32, 98, 97, 115, 101, 54, 52, 10, 10]⟩) ++ ⟨(ltrs x).toArray⟩) = (⟨(mtx (mlb (f, s, d, x))).toArray⟩ : ByteArray) := by
  apply text_is
  rw [mtx_list]
  simp only [app_data, List.append_assoc]
  rfl

set_option maxRecDepth 100000 in
set_option maxHeartbeats 1000000 in
theorem mailText (f s d : ByteArray) (x : List UInt8) (am : Option Addr) (cm : Nat) (w : World) (hx : Bya w am x cm) (hm : mlOk (mlb (f, s, d, x))) :
    Calls Tryd.prog 18 #[.agg #[.string f, .string s, .string d, .slice am x.length cm]] w fun e w' => e = .returned (.string ⟨(mtx (mlb (f, s, d, x))).toArray⟩) ∧ Below w.heap.size w w' := by
  have hb := below_alloc w (.cells #[.string f, .string s, .string d, .slice am x.length cm] 51)
  have hle := fun W (h : Below w.heap.size w W) => lettersOf am x cm W (hx.all h) hm.2
  have E : Hid (∀ r, (⟨(mtx (mlb (f, s, d, x))).toArray⟩ : ByteArray) = r → Ending.returned (.string r) = .returned (.string (⟨(mtx (mlb (f, s, d, x))).toArray⟩ : ByteArray))) := fun r hr => by rw [hr]
  have HT := mtx_text f s d x
  have l1 : f.size ≤ 40 := by rw [Lib.size_eq]; exact hm.1.1.2.1
  have l2 : s.size ≤ 40 := by rw [Lib.size_eq]; exact hm.1.2.1.2.1
  have l3 : d.size ≤ 40 := by rw [Lib.size_eq]; exact hm.1.2.2.1.2.1
  have l4 : (⟨(ltrs x).toArray⟩ : ByteArray).size ≤ 60000 := by
    rw [Lib.size_eq]
    show (ltrs x).length ≤ 60000
    have h4 : x.length ≤ 40000 := hm.2
    rw [ltrs_len]; omega
  obtain ⟨T, hT⟩ : ∃ T, (⟨(ltrs x).toArray⟩ : ByteArray) = T := ⟨_, rfl⟩
  rw [hT] at l4 HT
  simp only [hT] at hle
  obtain ⟨n, hn⟩ : ∃ n, x.length = n := ⟨_, rfl⟩
  rw [hn] at hb hle ⊢
  replace HT : Hid _ := HT
  clear hn hT hm hx
  go_enter Tryd.func18, Tryd.ntmps18
  go_wp2
  go_quiet ((go_at_call 11; exact Calls.quiet_of_same (hle _ (by first | exact hb | exact below_drawn hb))))
  go_wp2
  go_ret
  exact ⟨E.out _ HT.out.symm, below_drawn hb⟩

end Go.Proofs.YtppmpofdhkgjmafDoor
