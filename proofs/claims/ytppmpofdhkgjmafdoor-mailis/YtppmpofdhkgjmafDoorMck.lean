/-
  Walks of mail.isWord, mail.Check.
-/
import Derived.Test.YtppmpofdhkgjmafDoorRwd
import Derived.Test.YtppmpofdhkgjmafDoorMid

namespace Go.Proofs.YtppmpofdhkgjmafDoor
open Go.RowKit Dist

set_option maxHeartbeats 1000000 in
theorem isWord (s : ByteArray) (b : Bool) (w : World) (hb : decide (wrd s.data.toList 40) = b) : Calls Tryd.prog 44 #[.string s] w fun e w' => e = .returned (.bool b) ∧ w' = w := by
  have E : Hid (∀ v, decide (wrd s.data.toList 40) = v → Ending.returned (.bool v) = .returned (.bool b)) := fun v hv => by rw [← hv, hb]
  clear hb
  by_cases h1 : s.size < 1
  · have h1' : s.toList = [] := by rw [Lib.toList_data]; exact List.length_eq_zero_iff.1 (by rw [← Lib.size_eq]; omega)
    have HF : Hid (decide (wrd s.data.toList 40) = false) := decide_eq_false (fun h => by have := h.1; rw [← Lib.size_eq] at this; omega)
    go_enter Tryd.func44, Tryd.ntmps44
    go_wp2
    go_ret
    exact ⟨E.out _ HF.out, rfl⟩
  have h0 : s.toList ≠ [] := by
    rw [Lib.toList_data]; intro h; have := congrArg List.length h; rw [← Lib.size_eq, List.length_nil] at this; omega
  have h0' : s.toList.isEmpty = false := by
    cases h : s.toList with
    | nil => exact absurd h h0
    | cons _ _ => rfl
  by_cases h2 : 40 < s.size
  · have h2' : (40 : Int) < (s.size : Int) := by omega
    have HF : Hid (decide (wrd s.data.toList 40) = false) := decide_eq_false (fun h => by have := h.2.1; rw [← Lib.size_eq] at this; omega)
    go_enter Tryd.func44, Tryd.ntmps44
    go_wp2
    go_ret
    exact ⟨E.out _ HF.out, rfl⟩
  have h2' : ¬ (40 : Int) < (s.size : Int) := by omega
  go_enter Tryd.func44, Tryd.ntmps44
  go_wp2
  clear h0 h0'
  go_loop [13] (fun i => ∃ k : Nat, k ≤ s.size ∧ i = .int .i64 k ∧ ∀ c ∈ s.data.toList.take k, 32 ≤ c ∧ c ≤ 126) (fun i => s.size - (intOf i).toNat)
  case atStart => exact ⟨0, Nat.zero_le _, rfl, fun c hc => absurd hc (by simp)⟩
  case round =>
    obtain ⟨k, hk, rfl, hall⟩ := hrel
    have HA : Hid (∀ c ∈ s.data.toList.take k, 32 ≤ c ∧ c ≤ 126) := hall
    clear hall
    by_cases hlt : k < s.size
    · have hlt' : (k : Int) < (s.size : Int) := by omega
      have HM : Hid (s[k] ∈ s.data.toList) := List.getElem_mem (by rw [← Lib.size_eq]; exact hlt)
      have HT : Hid (s.data.toList.take (k + 1) = s.data.toList.take k ++ [s[k]]) := in_take hlt
      obtain ⟨c, hc⟩ : ∃ c, s[k] = c := ⟨_, rfl⟩
      rw [hc] at HM HT
      by_cases c1 : c.toNat < 32
      · have c1' : (c.toNat : Int) < 32 := by omega
        have HF : Hid (decide (wrd s.data.toList 40) = false) := decide_eq_false (fun h => by
          have h3 := UInt8.le_iff_toNat_le.1 (h.2.2 _ HM.out).1
          have h4 : (32 : UInt8).toNat = 32 := rfl
          omega)
        clear HT
        go_wp2
        go_ret
        exact ⟨E.out _ HF.out, rfl⟩
      · have c1' : ¬ (c.toNat : Int) < 32 := by omega
        by_cases c2 : 126 < c.toNat
        · have c2' : (126 : Int) < (c.toNat : Int) := by omega
          have HF : Hid (decide (wrd s.data.toList 40) = false) := decide_eq_false (fun h => by
            have h3 := UInt8.le_iff_toNat_le.1 (h.2.2 _ HM.out).2
            have h4 : (126 : UInt8).toNat = 126 := rfl
            omega)
          clear HT
          go_wp2
          go_ret
          exact ⟨E.out _ HF.out, rfl⟩
        · have c2' : ¬ (126 : Int) < (c.toNat : Int) := by omega
          have HN : Hid (∀ c ∈ s.data.toList.take (k + 1), 32 ≤ c ∧ c ≤ 126) := by
            show ∀ c ∈ s.data.toList.take (k + 1), 32 ≤ c ∧ c ≤ 126
            rw [HT.out]
            intro x hx
            rcases List.mem_append.1 hx with hx | hx
            · exact HA.out x hx
            · rw [List.mem_singleton] at hx
              subst hx
              have h4 : (126 : UInt8).toNat = 126 := rfl
              have h5 : (32 : UInt8).toNat = 32 := rfl
              exact ⟨UInt8.le_iff_toNat_le.2 (by omega), UInt8.le_iff_toNat_le.2 (by omega)⟩
          clear HT HA HM
          go_wp2
          go_round
          case rel => exact ⟨k + 1, by omega, by go_num, HN.out⟩
          case measure => simp [intOf]; omega
    · have hlt' : ¬ (k : Int) < (s.size : Int) := by omega
      have HF : Hid (decide (wrd s.data.toList 40) = true) := decide_eq_true (by
        have h3 := HA.out
        rw [List.take_of_length_le (by rw [← Lib.size_eq]; omega)] at h3
        exact ⟨by rw [← Lib.size_eq]; omega, by rw [← Lib.size_eq]; omega, h3⟩)
      go_wp2
      go_ret
      exact ⟨E.out _ HF.out, rfl⟩

theorem any_ltgt (l : List UInt8) : Lib.containsAny l [60, 62] = decide (60 ∈ l ∨ 62 ∈ l) := by
  unfold Lib.containsAny
  rw [Bool.eq_iff_iff, decide_eq_true_eq, decide_eq_true_eq]
  induction l with
  | nil => simp [Lib.indexAny]
  | cons b l ih =>
    rw [Lib.indexAny]
    by_cases h : ([60, 62] : List UInt8).contains b = true
    · rw [if_pos h]
      have : b = 60 ∨ b = 62 := by simpa using h
      refine ⟨fun _ => ?_, fun _ => Int.le_refl _⟩
      rcases this with rfl | rfl
      · exact .inl (by simp)
      · exact .inr (by simp)
    · rw [if_neg h]
      have h1 : ¬ (b = 60 ∨ b = 62) := by simpa using h
      have h2 : (60 ∈ b :: l ∨ 62 ∈ b :: l) ↔ (60 ∈ l ∨ 62 ∈ l) := by
        simp only [List.mem_cons]
        constructor
        · rintro ((e | e) | (e | e))
          · exact absurd (.inl e.symm) h1
          · exact .inl e
          · exact absurd (.inr e.symm) h1
          · exact .inr e
        · rintro (e | e)
          · exact .inl (.inr e)
          · exact .inr (.inr e)
      rw [h2, ← ih]
      have := Lib.indexAny_ge [60, 62] l
      split
      · rename_i e; have := beq_iff_eq.1 e; omega
      · rename_i e; have : Lib.indexAny l [60, 62] ≠ -1 := fun x => e (beq_iff_eq.2 x)
        omega

set_option maxHeartbeats 1000000 in
theorem checkMail (f s d : ByteArray) (x : List UInt8) (am : Option Addr) (cm : Nat) (w : World) :
    Calls Tryd.prog 17 #[.agg #[.string f, .string s, .string d, .slice am x.length cm]] w fun e w' => e = .returned (errV (mlf (mlb (f, s, d, x)))) ∧ Below w.heap.size w w' := by
  have hb0 := below_alloc w (.cells #[.string f, .string s, .string d, .slice am x.length cm] 51)
  have hc0 := fun W (h : Below (w.alloc (.cells #[.string f, .string s, .string d, .slice am x.length cm] 51)).heap.size (w.alloc (.cells #[.string f, .string s, .string d, .slice am x.length cm] 51)) W) => cells4_later h
  have E : Hid (∀ n, mlf (mlb (f, s, d, x)) = n → Ending.returned (errV n) = .returned (errV (mlf (mlb (f, s, d, x))))) := fun n hn => by rw [hn]
  have HX : Hid (mlf (mlb (f, s, d, x)) = if wrd f.data.toList 40 ∧ wrd s.data.toList 40 ∧ wrd d.data.toList 40 ∧ 60 ∉ d.data.toList ∧ 62 ∉ d.data.toList then (if 40000 < x.length then 3 else 0) else 5) := rfl
  obtain ⟨n, hn⟩ : ∃ n, x.length = n := ⟨_, rfl⟩
  rw [hn] at HX hb0 ⊢
  rw [hn] at hc0
  clear hn
  obtain ⟨A, hA⟩ : ∃ A, decide (wrd f.data.toList 40) = A := ⟨_, rfl⟩
  obtain ⟨B, hB⟩ : ∃ B, decide (wrd s.data.toList 40) = B := ⟨_, rfl⟩
  obtain ⟨C, hC⟩ : ∃ C, decide (wrd d.data.toList 40) = C := ⟨_, rfl⟩
  obtain ⟨G, hG⟩ : ∃ G, decide (60 ∈ d.data.toList ∨ 62 ∈ d.data.toList) = G := ⟨_, rfl⟩
  have h1 := fun W => isWord f A W hA
  have h2 := fun W => isWord s B W hB
  have h3 := fun W => isWord d C W hC
  have h4 : C = true → ∀ W, Calls Tryd.prog 45 #[.string d, .string ⟨#[60, 62]⟩] W fun e w' => e = .returned (.bool G) ∧ Below W.heap.size W w' := fun hc W => by
    rw [← hG, ← any_ltgt]
    have hw := of_decide_eq_true (hC.trans hc)
    exact Tryd.strings_ContainsAny_laid d ⟨#[60, 62]⟩ W (by have := hw.2.1; rw [← Lib.size_eq] at this; omega) (by decide) (fun j b hb => by
      have := (hw.2.2 b (List.mem_of_getElem? hb)).2
      have h3 := UInt8.le_iff_toNat_le.1 this
      have h4 : (126 : UInt8).toNat = 126 := rfl
      omega) (fun j b hb => by
      have := List.mem_of_getElem? hb
      simp at this
      rcases this with rfl | rfl <;> decide)
  have HR : Hid (mlf (mlb (f, s, d, x)) = if A = true ∧ B = true ∧ C = true ∧ G = false then (if 40000 < n then 3 else 0) else 5) := by
    show _ = _
    rw [HX.out, ← hA, ← hB, ← hC, ← hG]
    simp only [decide_eq_true_eq, decide_eq_false_iff_not, not_or]
  clear HX hA hB hC hG
  have ways : A = false ∨ (A = true ∧ B = false) ∨ (A = true ∧ B = true ∧ C = false) ∨ (A = true ∧ B = true ∧ C = true ∧ G = true) ∨ (A = true ∧ B = true ∧ C = true ∧ G = false ∧ 40000 < n) ∨ (A = true ∧ B = true ∧ C = true ∧ G = false ∧ ¬ 40000 < n) := by
    by_cases hq : 40000 < n <;> cases A <;> cases B <;> cases C <;> cases G <;> simp [hq]
  rcases ways with rfl | ⟨rfl, rfl⟩ | ⟨rfl, rfl, rfl⟩ | ⟨rfl, rfl, rfl, rfl⟩ | ⟨rfl, rfl, rfl, rfl, hq⟩ | ⟨rfl, rfl, rfl, rfl, hq⟩
  case' inr.inr.inr.inr.inl =>
    have hqz : (40000 : Int) < (n : Int) := by omega
    rw [if_pos ⟨rfl, rfl, rfl, rfl⟩, if_pos hq] at HR
  case' inr.inr.inr.inr.inr =>
    have hqz : ¬ (40000 : Int) < (n : Int) := by omega
    rw [if_pos ⟨rfl, rfl, rfl, rfl⟩, if_neg hq] at HR
  case' inl => rw [if_neg (by simp)] at HR
  case' inr.inl => rw [if_neg (by simp)] at HR
  case' inr.inr.inl => rw [if_neg (by simp)] at HR
  case' inr.inr.inr.inl => rw [if_neg (by simp)] at HR
  all_goals
    try clear hq
    try replace h4 := h4 rfl
    obtain ⟨d0, d1, d2, d3⟩ := hc0 _ (Below.refl _ _)
    go_enter Tryd.func17, Tryd.ntmps17
    go_wp2_with (first
      | (go_at_call 44; refine (h1 _).mono ?_; clear h1; rintro e w1 ⟨rfl, rfl⟩)
      | (go_at_call 44; refine (h2 _).mono ?_; clear h2; rintro e w1 ⟨rfl, rfl⟩)
      | (go_at_call 44; refine (h3 _).mono ?_; clear h3; rintro e w1 ⟨rfl, rfl⟩)
      | (go_at_call 45; refine (h4 _).mono ?_; clear h4; rintro e w1 ⟨rfl, hb1⟩; obtain ⟨d0, d1, d2, d3⟩ := hc0 _ hb1; replace hb0 := hb0.trans (hb1.mono hb0.size)))
    go_ret
    exact ⟨E.out _ HR.out, hb0⟩

end Go.Proofs.YtppmpofdhkgjmafDoor
