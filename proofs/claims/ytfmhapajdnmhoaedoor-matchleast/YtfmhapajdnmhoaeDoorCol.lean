/-
  Walks of package match's sets of columns: the first ones, is one there, without one, how many.
-/
import Derived.Test.YtfmhapajdnmhoaeDoorStrs
import Derived.Test.YtfmhapajdnmhoaeDoorMdp

namespace Go.Proofs.YtfmhapajdnmhoaeDoor
open Go.RowKit Dist

theorem all_small2 {n m : Nat} {p : Nat → Nat → Bool} (h : ((List.range n).all fun s => (List.range m).all (p s)) = true) {s c : Nat} (hs : s < n) (hc : c < m) : p s c = true := List.all_eq_true.1 (List.all_eq_true.1 h s (List.mem_range.2 hs)) c (List.mem_range.2 hc)
theorem all_small {n : Nat} {p : Nat → Bool} (h : ((List.range n).all p) = true) {s : Nat} (hs : s < n) : p s = true := List.all_eq_true.1 h s (List.mem_range.2 hs)

theorem cols_first : ((List.range 9).all fun n => IntKind.u64.wrap (IntKind.u64.wrap (2 ^ n) - 1) == ((2 ^ n - 1 : Nat) : Int)) = true := by kernel_rfl
theorem cols_wo : ((List.range 256).all fun s => (List.range 8).all fun c => bits BinOp.andNot IntKind.u64 (s : Int) (IntKind.u64.wrap (2 ^ c)) == (wo s c : Int)) = true := by kernel_rfl
theorem cols_has : ((List.range 256).all fun s => (List.range 8).all fun c => (bits BinOp.and IntKind.u64 ((s : Int) / 2 ^ c) 1 == 1) == s.testBit c) = true := by kernel_rfl

/-- How many bits are there: the library's way. -/
def oc1 (x : Int) : Int := IntKind.u64.wrap (bits BinOp.and IntKind.u64 (x / 2) 6148914691236517205 + bits BinOp.and IntKind.u64 x 6148914691236517205)
def oc2 (x : Int) : Int := IntKind.u64.wrap (bits BinOp.and IntKind.u64 (x / 4) 3689348814741910323 + bits BinOp.and IntKind.u64 x 3689348814741910323)
def oc3 (x : Int) : Int := bits BinOp.and IntKind.u64 (IntKind.u64.wrap (x / 16 + x)) 1085102592571150095
def oc4 (x : Int) : Int := IntKind.u64.wrap (x + x / 256)
def oc5 (x : Int) : Int := IntKind.u64.wrap (x + x / 65536)
def oc6 (x : Int) : Int := IntKind.u64.wrap (x + x / 4294967296)
def oc7 (x : Int) : Int := bits BinOp.and IntKind.i64 (wrap64 x) 127
def oc (x : Int) : Int := oc7 (oc6 (oc5 (oc4 (oc3 (oc2 (oc1 x))))))
theorem cols_count : ((List.range 256).all fun s => oc (s : Int) == (szS 8 s : Int)) = true := by kernel_rfl

set_option maxHeartbeats 400000 in
theorem firstCols (n : Nat) (hn : n ≤ 8) (w : World) : Calls Tryd.prog 57 #[.int .i64 n] w fun e w' => e = .returned (.int .u64 ((2 ^ n - 1 : Nat) : Int)) ∧ w' = w := by
  have he : IntKind.u64.wrap (IntKind.u64.wrap (2 ^ n) - 1) = ((2 ^ n - 1 : Nat) : Int) := by simpa using all_small cols_first (s := n) (by omega)
  generalize ((2 ^ n - 1 : Nat) : Int) = x at he ⊢
  have he : Hid (IntKind.u64.wrap (IntKind.u64.wrap (2 ^ n) - 1) = x) := he
  go_enter Tryd.func57, Tryd.ntmps57
  go_wp2
  go_ret
  exact ⟨rfl, rfl⟩

set_option maxHeartbeats 400000 in
theorem without (s c : Nat) (hs : s < 256) (hc : c < 8) (w : World) : Calls Tryd.prog 59 #[.int .u64 s, .int .i64 c] w fun e w' => e = .returned (.int .u64 (wo s c)) ∧ w' = w := by
  have he : Hid (bits BinOp.andNot IntKind.u64 (s : Int) (IntKind.u64.wrap (2 ^ c)) = (wo s c : Int)) := (by simpa using all_small2 cols_wo hs hc : bits BinOp.andNot IntKind.u64 (s : Int) (IntKind.u64.wrap (2 ^ c)) = (wo s c : Int))
  go_enter Tryd.func59, Tryd.ntmps59
  go_wp2
  go_ret
  exact ⟨congrArg (fun z => Ending.returned (.int .u64 z)) he.out, rfl⟩

theorem has_is (s : Nat) (c : Int) (hs : s < 256) : (bits BinOp.and IntKind.u64 ((s : Int) / 2 ^ min c.toNat 64) 1 == 1) = s.testBit c.toNat := by
  by_cases hc : c.toNat < 8
  · have := all_small2 cols_has hs hc
    rw [Nat.min_eq_left (by omega)]
    simpa using this
  · have e : (s : Int) / 2 ^ min c.toNat 64 = 0 := by
      have : (2 : Nat) ^ 8 ≤ 2 ^ min c.toNat 64 := Nat.pow_le_pow_right (by decide) (by omega)
      have h2 : s / 2 ^ min c.toNat 64 = 0 := Nat.div_eq_of_lt (by omega)
      rw [show ((2 : Int) ^ min c.toNat 64) = ((2 ^ min c.toNat 64 : Nat) : Int) by simp, ← Int.natCast_ediv, h2]; rfl
    have e2 : s.testBit c.toNat = false := Nat.testBit_lt_two_pow (Nat.lt_of_lt_of_le hs (show 2 ^ 8 ≤ 2 ^ c.toNat from Nat.pow_le_pow_right (by decide) (by omega)))
    rw [e, e2]
    decide

set_option maxHeartbeats 400000 in
theorem hasCol (s : Nat) (c : Int) (hs : s < 256) (w : World) : Calls Tryd.prog 85 #[.int .u64 s, .int .i64 c] w fun e w' => e = .returned (.bool (decide (0 ≤ c) && s.testBit c.toNat)) ∧ w' = w := by
  obtain ⟨v, hv⟩ : ∃ v, (decide (0 ≤ c) && s.testBit c.toNat) = v := ⟨_, rfl⟩
  rw [hv]
  have HV : Hid ((decide (0 ≤ c) && s.testBit c.toNat) = v) := hv
  clear hv
  go_enter Tryd.func85, Tryd.ntmps85
  go_wp2
  · have h : 0 ≤ c := by assumption
    go_ret
    refine ⟨ret_b ?_, rfl⟩
    rw [← HV.out]
    simpa [h] using has_is s c hs
  · have h : c < 0 := by assumption
    go_ret
    refine ⟨ret_b ?_, rfl⟩
    rw [← HV.out, show decide (0 ≤ c) = false by simp; omega]
    rfl

set_option maxHeartbeats 400000 in
theorem onesCount64 (s : Nat) (hs : s < 256) (w : World) : Calls Tryd.prog 117 #[.int .u64 s] w fun e w' => e = .returned (.int .i64 (szS 8 s)) ∧ w' = w := by
  have he : oc (s : Int) = (szS 8 s : Int) := by simpa using all_small cols_count hs
  generalize (szS 8 s : Int) = x at he ⊢
  have he : Hid (oc (s : Int) = x) := he
  go_enter Tryd.func117, Tryd.ntmps117
  go_wp2
  go_ret
  exact ⟨congrArg (fun z => Ending.returned (.int .i64 z)) he.out, rfl⟩

set_option maxHeartbeats 400000 in
theorem onesCount (s : Nat) (hs : s < 256) (w : World) : Calls Tryd.prog 104 #[.int .u64 s] w fun e w' => e = .returned (.int .i64 (szS 8 s)) ∧ w' = w := by
  have c64 := onesCount64 s hs
  go_enter Tryd.func104, Tryd.ntmps104
  go_wp2_with (go_at_call 117; refine (c64 _).mono ?_; rintro e w1 ⟨rfl, rfl⟩)
  go_ret
  exact ⟨rfl, rfl⟩

set_option maxHeartbeats 400000 in
theorem countCol (s : Nat) (hs : s < 256) (w : World) : Calls Tryd.prog 84 #[.int .u64 s] w fun e w' => e = .returned (.int .i64 (szS 8 s)) ∧ w' = w := by
  have c64 := onesCount s hs
  go_enter Tryd.func84, Tryd.ntmps84
  go_wp2_with (go_at_call 104; refine (c64 _).mono ?_; rintro e w1 ⟨rfl, rfl⟩)
  go_ret
  exact ⟨rfl, rfl⟩

end Go.Proofs.YtfmhapajdnmhoaeDoor
