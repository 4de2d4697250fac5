/-
  Walks of package line's small functions: a byte of a name, a name.
-/
import Derived.Test.YtnkdmgekpajfhaeDoorStrs

namespace Go.Proofs.YtnkdmgekpajfhaeDoor
open Go.RowKit

/-- May a byte be in a name? -/
def nb (c : Int) : Bool := decide ((97 ≤ c ∧ c ≤ 122) ∨ (48 ≤ c ∧ c ≤ 57) ∨ c = 46 ∨ c = 45)

set_option maxHeartbeats 400000 in
theorem nameByte (c : Int) (w : World) : Calls Tryd.prog 105 #[.int .u8 c] w fun e w' => e = .returned (.bool (nb c)) ∧ w' = w := by
  by_cases h1 : 97 ≤ c <;> by_cases h2 : c ≤ 122 <;> by_cases h3 : 48 ≤ c <;> by_cases h4 : c ≤ 57 <;> by_cases h5 : c = 46 <;> by_cases h6 : c = 45
  all_goals first | omega | skip
  all_goals
    go_enter Tryd.func105, Tryd.ntmps105
    go_wp2
    go_ret
    exact ⟨ret_b (by first | (unfold nb; rw [Bool.eq_iff_iff]; simp; omega) | simp [nb, *]), rfl⟩

/-- Is it a name? -/
def isNm (l : List UInt8) : Bool := !(l == []) && !(l == [46]) && !(l == [46, 46]) && l.all fun c => nb c.toNat

theorem isNm_no {l : List UInt8} {k : Nat} {c : UInt8} (h : l[k]? = some c) (hc : nb c.toNat = false) : isNm l = false := by
  have : (l.all fun c => nb c.toNat) = false := by
    rw [List.all_eq_false]; exact ⟨c, List.mem_of_getElem? h, by simp [hc]⟩
  simp [isNm, this]

set_option maxHeartbeats 400000 in
theorem isName (s : ByteArray) (w : World) (hs : s.size ≤ maxLen) : Calls Tryd.prog 90 #[.string s] w fun e w' => e = .returned (.bool (isNm s.data.toList)) ∧ w' = w := by
  unfold maxLen at hs
  have htl : s.toList = s.data.toList := Lib.toList_data s
  by_cases h0 : s.toList.isEmpty = true
  · have h0' : s.toList = [] := by simpa using h0
    have hf : isNm s.data.toList = false := by rw [← htl, h0']; rfl
    clear htl h0'
    go_enter Tryd.func90, Tryd.ntmps90
    go_wp2
    go_ret
    exact ⟨ret_b hf.symm, rfl⟩
  have h0 : s.toList.isEmpty = false := by simpa using h0
  by_cases h1 : (s.toList == [46]) = true
  · have hf : isNm s.data.toList = false := by rw [← htl, beq_iff_eq.1 h1]; rfl
    clear htl
    go_enter Tryd.func90, Tryd.ntmps90
    go_wp2
    go_ret
    exact ⟨ret_b hf.symm, rfl⟩
  have h1 : (s.toList == [46]) = false := by simpa using h1
  by_cases h2 : (s.toList == [46, 46]) = true
  · have hf : isNm s.data.toList = false := by rw [← htl, beq_iff_eq.1 h2]; rfl
    clear htl
    go_enter Tryd.func90, Tryd.ntmps90
    go_wp2
    go_ret
    exact ⟨ret_b hf.symm, rfl⟩
  have h2 : (s.toList == [46, 46]) = false := by simpa using h2
  have hyes : Hid ((∀ (k : Nat) (h : k < s.size), nb s[k].toNat = true) → isNm s.data.toList = true) := by
    refine fun hk => ?_
    have ha : (s.data.toList.all fun c => nb c.toNat) = true := by
      rw [List.all_eq_true]
      intro x hx
      obtain ⟨j, hj, rfl⟩ := List.getElem_of_mem hx
      exact hk j (by simpa using hj)
    unfold isNm
    rw [← htl, h1, h2, htl, ha, ← htl]
    simpa using h0
  have hno : Hid (∀ (k : Nat) (h : k < s.size), nb s[k].toNat = false → isNm s.data.toList = false) :=
    fun k h hb => isNm_no (k := k) (c := s[k]) (by simp [h]; rfl) hb
  clear htl
  go_enter Tryd.func90, Tryd.ntmps90
  go_wp2
  go_loop [16] (fun i => ∃ k : Nat, k ≤ s.size ∧ i = .int .i64 k ∧ ∀ (j : Nat) (h : j < s.size), j < k → nb s[j].toNat = true) (fun i => s.size - (intOf i).toNat)
  case atStart => exact ⟨0, Nat.zero_le _, rfl, by simp⟩
  case round =>
    obtain ⟨k, hk, rfl, hall⟩ := hrel
    have HA : Hid (∀ (j : Nat) (h : j < s.size), j < k → nb s[j].toNat = true) := hall
    clear hall
    by_cases hlt : k < s.size
    · by_cases hb : nb s[k].toNat = true
      · go_wp2_with (go_at_call 105; refine (nameByte _ _).mono ?_; rintro e w' ⟨rfl, rfl⟩)
        go_round
        case rel => exact ⟨k + 1, by omega, by go_num, fun j h hj => by
          by_cases e : j = k
          · subst e; exact hb
          · exact HA.out j h (by omega)⟩
        case measure => simp [intOf]; omega
      · have hb : nb s[k].toNat = false := by simpa using hb
        go_wp2_with (go_at_call 105; refine (nameByte _ _).mono ?_; rintro e w' ⟨rfl, rfl⟩)
        go_ret
        exact ⟨ret_b (hno.out k hlt hb).symm, rfl⟩
    · go_wp2
      go_ret
      exact ⟨ret_b (hyes.out fun j h => HA.out j h (by omega)).symm, rfl⟩

end Go.Proofs.YtnkdmgekpajfhaeDoor
