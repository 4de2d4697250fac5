/-
  Walks of unified.parseNumber, parseSpan, span: numbers and spans as texts, and back.
-/
import Derived.Test.YtfmhapajdnmhoafDoorXu
import Derived.Test.YtfmhapajdnmhoafDoorXm
import Derived.Lib.SmallJoins
namespace Go.Proofs.YtfmhapajdnmhoafDoor
open Go.RowKit

theorem below_grown' (w : World) (k : Nat) (os : Array Obj) : Below w.heap.size w (Sort.grow (w.drewN k) os) :=
  ⟨rfl, rfl, rfl, by simp [Sort.grow], fun i hi => by
    show (w.heap ++ os)[i]? = _
    rw [Array.getElem?_append_left hi]⟩

theorem decFrom_lt (l : List UInt8) (a n : Nat) (h : Lib.decFrom a l = some n) : n + 1 ≤ (a + 1) * 10 ^ l.length := by
  induction l generalizing a with
  | nil => simp only [Lib.decFrom, Option.some.injEq] at h; simp [h]
  | cons b r ih =>
    rw [Lib.decFrom] at h
    cases hb : Lib.digitVal b with
    | none => rw [hb] at h; cases h
    | some d =>
      rw [hb] at h
      have h1 := ih _ h
      have h2 := (digit_back hb).1
      rw [List.length_cons, Nat.pow_succ]
      have h3 : (a * 10 + d + 1) * 10 ^ r.length ≤ ((a + 1) * 10) * 10 ^ r.length := Nat.mul_le_mul_right _ (by omega)
      have h4 : (a + 1) * 10 * 10 ^ r.length = (a + 1) * (10 ^ r.length * 10) := by rw [Nat.mul_assoc, Nat.mul_comm 10]
      omega

theorem decNat_lt {l : List UInt8} {n : Nat} (h : Lib.decNat l = some n) (hl : l.length ≤ 3) : n ≤ 999 := by
  unfold Lib.decNat at h
  split at h
  · cases h
  · have h1 := decFrom_lt l 0 n h
    have h2 : (10 : Nat) ^ l.length ≤ 10 ^ 3 := Nat.pow_le_pow_right (by decide) hl
    omega

theorem atoi_bound {s : List UInt8} {n : Int} (h : Lib.atoi s = some n) (hl : s.length ≤ 3) : -1000 ≤ n ∧ n ≤ 1000 := by
  cases s with
  | nil => cases h
  | cons b r =>
    rw [List.length_cons] at hl
    rw [Lib.atoi] at h
    split at h
    · obtain ⟨m, hm, rfl⟩ := Option.map_eq_some_iff.1 h
      have := decNat_lt hm (by omega)
      omega
    · split at h
      · obtain ⟨m, hm, rfl⟩ := Option.map_eq_some_iff.1 h
        have := decNat_lt hm (by omega)
        omega
      · obtain ⟨m, hm, rfl⟩ := Option.map_eq_some_iff.1 h
        have := decNat_lt hm (by rw [List.length_cons]; omega)
        omega

theorem beq_data (x y : ByteArray) : (x.toList == y.toList) = decide (x.data.toList = y.data.toList) := by
  rw [Lib.toList_data, Lib.toList_data, Bool.eq_iff_iff]; simp

theorem ret_ib {a c : Int} {b d : Bool} (h : a = c) (h2 : b = d) : Ending.returned (.tuple #[.int .i64 a, .bool b]) = .returned (.tuple #[.int .i64 c, .bool d]) := by rw [h, h2]

theorem ret_iib {a b c d : Int} {x y : Bool} (h : a = c) (h1 : b = d) (h2 : x = y) : Ending.returned (.tuple #[.int .i64 a, .int .i64 b, .bool x]) = .returned (.tuple #[.int .i64 c, .int .i64 d, .bool y]) := by rw [h, h1, h2]

theorem spo_flag (s : List UInt8) {n m : Int} (hn : ∀ k, num (Lib.cut s [44]).1 = some k → n = k) (hm : ∀ k, num (Lib.cut s [44]).2.1 = some k → m = k) :
    (spo s).isSome = ((Lib.cut s [44]).2.2 && ((num (Lib.cut s [44]).1).isSome && ((num (Lib.cut s [44]).2.1).isSome && decide (0 ≤ if 0 < m then n - 1 else n)))) ∧ ∀ a b, spo s = some (a, b) → (if 0 < m then n - 1 else n) = a ∧ m = b := by
  unfold spo
  cases (Lib.cut s [44]).2.2 with
  | false => simp
  | true =>
    rw [if_pos rfl]
    cases h1 : num (Lib.cut s [44]).1 with
    | none => simp [spc]
    | some x =>
      cases h2 : num (Lib.cut s [44]).2.1 with
      | none => simp [spc]
      | some y =>
        have e1 := hn x h1
        have e2 := hm y h2
        subst e1 e2
        unfold spc
        by_cases hy : y = 0
        · subst hy; simp
        · by_cases hx : x = 0
          · subst hx
            have : 0 < y := by omega
            simp [hy, this]
          · have : 0 < y := by omega
            simp [hy, hx, this]
            omega

theorem ret_s {a b : List UInt8} (h : a = b) : Ending.returned (.string ⟨a.toArray⟩) = .returned (.string ⟨b.toArray⟩) := by rw [h]

set_option maxRecDepth 100000 in
set_option maxHeartbeats 1000000 in
theorem spanOf (a n : Nat) (w : World) (ha : a ≤ 90) (hn : n ≤ 90) : Calls Tryd.prog 50 #[.int .i64 a, .int .i64 n] w fun e w' => e = .returned (.string ⟨(spn a n).toArray⟩) ∧ w' = w := by
  have hi2 := Tryd.strconv_Itoa_small n (by omega)
  have l1 := dd_len (n := a) (by omega)
  have l2 := dd_len (n := a + 1) (by omega)
  have l3 := dd_len (n := n) (by omega)
  by_cases h0 : n = 0
  · have HS : Hid (spn a n = Lib.decDigits a ++ 44 :: Lib.decDigits n) := by show spn a n = _; unfold spn; rw [if_pos h0]
    have hi1 := Tryd.strconv_Itoa_small a (by omega)
    have h1 : ¬ (0 : Int) < n := by omega
    clear h0
    go_enter Tryd.func50, Tryd.ntmps50
    go_wp2_with fail
    refine (hi1 _).mono ?_
    rintro e w1 ⟨rfl, rfl⟩
    go_wp2_with fail
    refine (hi2 _).mono ?_
    rintro e w1 ⟨rfl, rfl⟩
    go_wp2
    go_ret
    refine ⟨?_, rfl⟩
    rw [HS.out]
    exact ret_s (by simp)
  · have HS : Hid (spn a n = Lib.decDigits (a + 1) ++ 44 :: Lib.decDigits n) := by show spn a n = _; unfold spn; rw [if_neg h0]
    have hi1 := Tryd.strconv_Itoa_small (a + 1) (by omega)
    rw [show ((a + 1 : Nat) : Int) = (a : Int) + 1 by omega] at hi1
    have h1 : (0 : Int) < n := by omega
    clear h0
    go_enter Tryd.func50, Tryd.ntmps50
    go_wp2_with fail
    refine (hi1 _).mono ?_
    rintro e w1 ⟨rfl, rfl⟩
    go_wp2_with fail
    refine (hi2 _).mono ?_
    rintro e w1 ⟨rfl, rfl⟩
    go_wp2
    go_ret
    refine ⟨?_, rfl⟩
    rw [HS.out]
    exact ret_s (by simp)

end Go.Proofs.YtfmhapajdnmhoafDoor
