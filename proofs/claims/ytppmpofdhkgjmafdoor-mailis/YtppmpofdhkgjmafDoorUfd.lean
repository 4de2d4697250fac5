/-
  Walk of base64.unfold: four letters as bytes.
-/
import Derived.Test.YtppmpofdhkgjmafDoorFld

namespace Go.Proofs.YtppmpofdhkgjmafDoor
open Go.RowKit Dist

theorem lv_all : ((List.range 256).all fun k => max (Lib.indexByte abc (UInt8.ofNat k)) 0 == (lv (UInt8.ofNat k) : Int)) = true := by kernel_rfl
theorem lv_max (c : UInt8) : max (Lib.indexByte abc c) 0 = (lv c : Int) := by
  have h := List.all_eq_true.1 lv_all c.toNat (List.mem_range.2 c.toNat_lt)
  simpa using h
theorem ubs_lt (q : List UInt8) : ubs q < 64 ^ q.length := by
  suffices h : ∀ (q : List UInt8) (a : Nat), q.foldl (fun a c => a * 64 + lv c) a < (a + 1) * 64 ^ q.length by simpa [ubs] using h q 0
  intro q
  induction q with
  | nil => intro a; simp
  | cons c r ih =>
    intro a
    have h1 := ih (a * 64 + lv c)
    have h2 := lv_lt c
    have h3 : (a * 64 + lv c + 1) * 64 ^ r.length ≤ ((a + 1) * 64) * 64 ^ r.length := Nat.mul_le_mul_right _ (by omega)
    rw [List.foldl_cons, List.length_cons, Nat.pow_succ, Nat.mul_comm (64 ^ r.length) 64, ← Nat.mul_assoc]
    omega
theorem or_six (U v : Nat) (hU : U < 262144) (hv : v < 64) : bits .or .i64 ((U : Int) * 64) (v : Int) = ((U * 64 + v : Nat) : Int) := by
  have e1 : ((U : Int) * 64) = ((U * 64 : Nat) : Int) := by omega
  have o1 := or_add U v 6 (by omega)
  rw [e1, or_i64 _ _ (by omega) (by omega), show U * 64 ||| v = U * 64 + v by rw [show U * 64 = 2 ^ 6 * U by omega, o1]]

theorem run_four_0 (a b c d : Int) (w : World) : (Instr.index 92 (.agg #[.int .u8 a, .int .u8 b, .int .u8 c, .int .u8 d]) (.int .i64 0)).run Tryd.prog w = .ok (.int .u8 a) w := by kernel_rfl
theorem run_four_1 (a b c d : Int) (w : World) : (Instr.index 92 (.agg #[.int .u8 a, .int .u8 b, .int .u8 c, .int .u8 d]) (.int .i64 1)).run Tryd.prog w = .ok (.int .u8 b) w := by kernel_rfl
theorem run_four_2 (a b c d : Int) (w : World) : (Instr.index 92 (.agg #[.int .u8 a, .int .u8 b, .int .u8 c, .int .u8 d]) (.int .i64 2)).run Tryd.prog w = .ok (.int .u8 c) w := by kernel_rfl
theorem run_four_3 (a b c d : Int) (w : World) : (Instr.index 92 (.agg #[.int .u8 a, .int .u8 b, .int .u8 c, .int .u8 d]) (.int .i64 3)).run Tryd.prog w = .ok (.int .u8 d) w := by kernel_rfl

set_option maxRecDepth 100000 in
set_option maxHeartbeats 400000 in
theorem unfoldOf (c0 c1 c2 c3 : UInt8) (w : World) :
    Calls Tryd.prog 67 #[.agg #[.int .u8 c0.toNat, .int .u8 c1.toNat, .int .u8 c2.toNat, .int .u8 c3.toNat]] w fun e w' => ∃ g, e = .returned (.slice (some ⟨g, 0, none⟩) (unf [c0, c1, c2, c3]).length 3) ∧ Byt w' g 0 (unf [c0, c1, c2, c3]) ∧ Below w.heap.size w w' := by
  have hix : ∀ (c : UInt8) (w : World), Calls Tryd.prog 89 #[.string { data := #[65, 66, 67, 68, 69, 70, 71, 72, 73, 74, 75, 76, 77, 78, 79, 80, 81, 82, 83, 84, 85, 86, 87, 88, 89, 90, 97, 98, 99, 100, 101, 102, 103, 104, 105, 106, 107, 108, 109, 110, 111, 112, 113, 114, 115, 116, 117, 118, 119, 120, 121, 122, 48, 49, 50, 51, 52, 53, 54, 55, 56, 57, 43, 47] }, .int .u8 (c.toNat : Int)] w fun e w' => e = .returned (.int .i64 (Lib.indexByte abc c)) ∧ w' = w := fun c w => by
    refine (Tryd.strings_IndexByte _ _ w).mono ?_
    rintro e w' ⟨rfl, rfl⟩
    exact ⟨by rw [Int.toNat_natCast]; simp only [Nat.toUInt8, UInt8.ofNat_toNat]; rfl, rfl⟩
  go_enter Tryd.func67, Tryd.ntmps67
  go_wp2
  go_loopw [3, 4, 6, 9] (fun s3 s4 _ s9 wr => ∃ i : Nat, i ≤ 4 ∧ s9 = .int .i64 i ∧ s3 = .int .i64 (ubs ([c0, c1, c2, c3].take i)) ∧ s4 = .int .i64 (ucn ([c0, c1, c2, c3].take i)) ∧ Hid (wr = w.alloc (.cells #[.int .u8 c0.toNat, .int .u8 c1.toNat, .int .u8 c2.toNat, .int .u8 c3.toNat] 92)))
    (fun _ _ _ s9 _ => 4 - (intOf s9).toNat)
  case atStart => exact ⟨0, by omega, rfl, rfl, rfl, rfl⟩
  case round =>
    obtain ⟨i, hi, rfl, rfl, rfl, HW⟩ := hrel
    by_cases hlt : i < 4
    · rcases (by omega : i = 0 ∨ i = 1 ∨ i = 2 ∨ i = 3) with rfl | rfl | rfl | rfl
      · obtain ⟨U, hU⟩ : ∃ U, ubs ([c0, c1, c2, c3].take 0) = U := ⟨_, rfl⟩
        obtain ⟨n, hn⟩ : ∃ n, ucn ([c0, c1, c2, c3].take 0) = n := ⟨_, rfl⟩
        obtain ⟨v, hv⟩ : ∃ v, lv c0 = v := ⟨_, rfl⟩
        have hUl : U < 262144 := by
          have h := ubs_lt ([c0, c1, c2, c3].take 0)
          rw [hU] at h
          exact Nat.lt_of_lt_of_le h (by show 64 ^ 0 ≤ 262144; decide)
        have hnl : n ≤ 4 := by have h := ucn_le ([c0, c1, c2, c3].take 0); rw [hn] at h; exact Nat.le_trans h (by show 0 ≤ 4; omega)
        have hvl : v < 64 := hv ▸ lv_lt c0
        have hor := or_six U v hUl hvl
        have hmx : max (Lib.indexByte abc c0) 0 = (v : Int) := (lv_max c0).trans (congrArg _ hv)
        have HU : Hid (ubs ([c0, c1, c2, c3].take 1) = U * 64 + v) := by
          show ubs ([c0, c1, c2, c3].take 1) = U * 64 + v
          rw [← hU, ← hv]; exact ubs_snoc [] c0
        have HN : Hid (ucn ([c0, c1, c2, c3].take 1) = n + if c0 = 61 then 0 else 1) := by
          show ucn ([c0, c1, c2, c3].take 1) = n + if c0 = 61 then 0 else 1
          rw [← hn]; exact ucn_snoc [] c0
        rw [hU, hn]
        clear hU hn hv
        have hx1 := fun w => run_four_0 (c0.toNat : Int) c1.toNat c2.toNat c3.toNat w
        have hx2 : ∀ w, (Instr.index 92 (.agg #[.int .u8 (c0.toNat : Int), .int .u8 c1.toNat, .int .u8 c2.toNat, .int .u8 c3.toNat]) (.int .i64 ((0 : Nat) : Int))).run Tryd.prog w = .ok (.int .u8 c0.toNat) w := hx1
        by_cases h61 : c0 = 61
        · have hc1 : ((c0.toNat : Int) == 61) = true := by rw [h61]; rfl
          have hc2 : ((c0.toNat : Int) != 61) = false := by rw [h61]; rfl
          replace h61 : Hid (c0 = 61) := h61
          go_wp2_with (go_at_call 89; refine (hix c0 _).mono ?_; rintro e w1 ⟨rfl, rfl⟩)
          go_roundw
          case rel => exact ⟨1, by omega, by simp, by rw [HU.out]; simp, by rw [HN.out, if_pos h61.out]; simp, HW⟩
          case measure => simp [intOf] <;> omega
        · have hne : (c0.toNat : Int) ≠ 61 := fun h => h61 (UInt8.toNat_inj.1 (by have : (61 : UInt8).toNat = 61 := rfl; omega))
          have hc1 : ((c0.toNat : Int) == 61) = false := beq_eq_false_iff_ne.2 hne
          have hc2 : ((c0.toNat : Int) != 61) = true := bne_iff_ne.2 hne
          clear hne
          go_wp2_with (go_at_call 89; refine (hix c0 _).mono ?_; rintro e w1 ⟨rfl, rfl⟩)
          go_roundw
          case rel => exact ⟨1, by omega, by simp, by rw [HU.out]; simp, by rw [HN.out, if_neg h61]; simp, HW⟩
          case measure => simp [intOf] <;> omega
      · obtain ⟨U, hU⟩ : ∃ U, ubs ([c0, c1, c2, c3].take 1) = U := ⟨_, rfl⟩
        obtain ⟨n, hn⟩ : ∃ n, ucn ([c0, c1, c2, c3].take 1) = n := ⟨_, rfl⟩
        obtain ⟨v, hv⟩ : ∃ v, lv c1 = v := ⟨_, rfl⟩
        have hUl : U < 262144 := by
          have h := ubs_lt ([c0, c1, c2, c3].take 1)
          rw [hU] at h
          exact Nat.lt_of_lt_of_le h (by show 64 ^ 1 ≤ 262144; decide)
        have hnl : n ≤ 4 := by have h := ucn_le ([c0, c1, c2, c3].take 1); rw [hn] at h; exact Nat.le_trans h (by show 1 ≤ 4; omega)
        have hvl : v < 64 := hv ▸ lv_lt c1
        have hor := or_six U v hUl hvl
        have hmx : max (Lib.indexByte abc c1) 0 = (v : Int) := (lv_max c1).trans (congrArg _ hv)
        have HU : Hid (ubs ([c0, c1, c2, c3].take 2) = U * 64 + v) := by
          show ubs ([c0, c1, c2, c3].take 2) = U * 64 + v
          rw [← hU, ← hv]; exact ubs_snoc [c0] c1
        have HN : Hid (ucn ([c0, c1, c2, c3].take 2) = n + if c1 = 61 then 0 else 1) := by
          show ucn ([c0, c1, c2, c3].take 2) = n + if c1 = 61 then 0 else 1
          rw [← hn]; exact ucn_snoc [c0] c1
        rw [hU, hn]
        clear hU hn hv
        have hx1 := fun w => run_four_1 (c0.toNat : Int) c1.toNat c2.toNat c3.toNat w
        have hx2 : ∀ w, (Instr.index 92 (.agg #[.int .u8 (c0.toNat : Int), .int .u8 c1.toNat, .int .u8 c2.toNat, .int .u8 c3.toNat]) (.int .i64 ((1 : Nat) : Int))).run Tryd.prog w = .ok (.int .u8 c1.toNat) w := hx1
        by_cases h61 : c1 = 61
        · have hc1 : ((c1.toNat : Int) == 61) = true := by rw [h61]; rfl
          have hc2 : ((c1.toNat : Int) != 61) = false := by rw [h61]; rfl
          replace h61 : Hid (c1 = 61) := h61
          go_wp2_with (go_at_call 89; refine (hix c1 _).mono ?_; rintro e w1 ⟨rfl, rfl⟩)
          go_roundw
          case rel => exact ⟨2, by omega, by simp, by rw [HU.out]; simp, by rw [HN.out, if_pos h61.out]; simp, HW⟩
          case measure => simp [intOf] <;> omega
        · have hne : (c1.toNat : Int) ≠ 61 := fun h => h61 (UInt8.toNat_inj.1 (by have : (61 : UInt8).toNat = 61 := rfl; omega))
          have hc1 : ((c1.toNat : Int) == 61) = false := beq_eq_false_iff_ne.2 hne
          have hc2 : ((c1.toNat : Int) != 61) = true := bne_iff_ne.2 hne
          clear hne
          go_wp2_with (go_at_call 89; refine (hix c1 _).mono ?_; rintro e w1 ⟨rfl, rfl⟩)
          go_roundw
          case rel => exact ⟨2, by omega, by simp, by rw [HU.out]; simp, by rw [HN.out, if_neg h61]; simp, HW⟩
          case measure => simp [intOf] <;> omega
      · obtain ⟨U, hU⟩ : ∃ U, ubs ([c0, c1, c2, c3].take 2) = U := ⟨_, rfl⟩
        obtain ⟨n, hn⟩ : ∃ n, ucn ([c0, c1, c2, c3].take 2) = n := ⟨_, rfl⟩
        obtain ⟨v, hv⟩ : ∃ v, lv c2 = v := ⟨_, rfl⟩
        have hUl : U < 262144 := by
          have h := ubs_lt ([c0, c1, c2, c3].take 2)
          rw [hU] at h
          exact Nat.lt_of_lt_of_le h (by show 64 ^ 2 ≤ 262144; decide)
        have hnl : n ≤ 4 := by have h := ucn_le ([c0, c1, c2, c3].take 2); rw [hn] at h; exact Nat.le_trans h (by show 2 ≤ 4; omega)
        have hvl : v < 64 := hv ▸ lv_lt c2
        have hor := or_six U v hUl hvl
        have hmx : max (Lib.indexByte abc c2) 0 = (v : Int) := (lv_max c2).trans (congrArg _ hv)
        have HU : Hid (ubs ([c0, c1, c2, c3].take 3) = U * 64 + v) := by
          show ubs ([c0, c1, c2, c3].take 3) = U * 64 + v
          rw [← hU, ← hv]; exact ubs_snoc [c0, c1] c2
        have HN : Hid (ucn ([c0, c1, c2, c3].take 3) = n + if c2 = 61 then 0 else 1) := by
          show ucn ([c0, c1, c2, c3].take 3) = n + if c2 = 61 then 0 else 1
          rw [← hn]; exact ucn_snoc [c0, c1] c2
        rw [hU, hn]
        clear hU hn hv
        have hx1 := fun w => run_four_2 (c0.toNat : Int) c1.toNat c2.toNat c3.toNat w
        have hx2 : ∀ w, (Instr.index 92 (.agg #[.int .u8 (c0.toNat : Int), .int .u8 c1.toNat, .int .u8 c2.toNat, .int .u8 c3.toNat]) (.int .i64 ((2 : Nat) : Int))).run Tryd.prog w = .ok (.int .u8 c2.toNat) w := hx1
        by_cases h61 : c2 = 61
        · have hc1 : ((c2.toNat : Int) == 61) = true := by rw [h61]; rfl
          have hc2 : ((c2.toNat : Int) != 61) = false := by rw [h61]; rfl
          replace h61 : Hid (c2 = 61) := h61
          go_wp2_with (go_at_call 89; refine (hix c2 _).mono ?_; rintro e w1 ⟨rfl, rfl⟩)
          go_roundw
          case rel => exact ⟨3, by omega, by simp, by rw [HU.out]; simp, by rw [HN.out, if_pos h61.out]; simp, HW⟩
          case measure => simp [intOf] <;> omega
        · have hne : (c2.toNat : Int) ≠ 61 := fun h => h61 (UInt8.toNat_inj.1 (by have : (61 : UInt8).toNat = 61 := rfl; omega))
          have hc1 : ((c2.toNat : Int) == 61) = false := beq_eq_false_iff_ne.2 hne
          have hc2 : ((c2.toNat : Int) != 61) = true := bne_iff_ne.2 hne
          clear hne
          go_wp2_with (go_at_call 89; refine (hix c2 _).mono ?_; rintro e w1 ⟨rfl, rfl⟩)
          go_roundw
          case rel => exact ⟨3, by omega, by simp, by rw [HU.out]; simp, by rw [HN.out, if_neg h61]; simp, HW⟩
          case measure => simp [intOf] <;> omega
      · obtain ⟨U, hU⟩ : ∃ U, ubs ([c0, c1, c2, c3].take 3) = U := ⟨_, rfl⟩
        obtain ⟨n, hn⟩ : ∃ n, ucn ([c0, c1, c2, c3].take 3) = n := ⟨_, rfl⟩
        obtain ⟨v, hv⟩ : ∃ v, lv c3 = v := ⟨_, rfl⟩
        have hUl : U < 262144 := by
          have h := ubs_lt ([c0, c1, c2, c3].take 3)
          rw [hU] at h
          exact Nat.lt_of_lt_of_le h (by show 64 ^ 3 ≤ 262144; decide)
        have hnl : n ≤ 4 := by have h := ucn_le ([c0, c1, c2, c3].take 3); rw [hn] at h; exact Nat.le_trans h (by show 3 ≤ 4; omega)
        have hvl : v < 64 := hv ▸ lv_lt c3
        have hor := or_six U v hUl hvl
        have hmx : max (Lib.indexByte abc c3) 0 = (v : Int) := (lv_max c3).trans (congrArg _ hv)
        have HU : Hid (ubs ([c0, c1, c2, c3].take 4) = U * 64 + v) := by
          show ubs ([c0, c1, c2, c3].take 4) = U * 64 + v
          rw [← hU, ← hv]; exact ubs_snoc [c0, c1, c2] c3
        have HN : Hid (ucn ([c0, c1, c2, c3].take 4) = n + if c3 = 61 then 0 else 1) := by
          show ucn ([c0, c1, c2, c3].take 4) = n + if c3 = 61 then 0 else 1
          rw [← hn]; exact ucn_snoc [c0, c1, c2] c3
        rw [hU, hn]
        clear hU hn hv
        have hx1 := fun w => run_four_3 (c0.toNat : Int) c1.toNat c2.toNat c3.toNat w
        have hx2 : ∀ w, (Instr.index 92 (.agg #[.int .u8 (c0.toNat : Int), .int .u8 c1.toNat, .int .u8 c2.toNat, .int .u8 c3.toNat]) (.int .i64 ((3 : Nat) : Int))).run Tryd.prog w = .ok (.int .u8 c3.toNat) w := hx1
        by_cases h61 : c3 = 61
        · have hc1 : ((c3.toNat : Int) == 61) = true := by rw [h61]; rfl
          have hc2 : ((c3.toNat : Int) != 61) = false := by rw [h61]; rfl
          replace h61 : Hid (c3 = 61) := h61
          go_wp2_with (go_at_call 89; refine (hix c3 _).mono ?_; rintro e w1 ⟨rfl, rfl⟩)
          go_roundw
          case rel => exact ⟨4, by omega, by simp, by rw [HU.out]; simp, by rw [HN.out, if_pos h61.out]; simp, HW⟩
          case measure => simp [intOf] <;> omega
        · have hne : (c3.toNat : Int) ≠ 61 := fun h => h61 (UInt8.toNat_inj.1 (by have : (61 : UInt8).toNat = 61 := rfl; omega))
          have hc1 : ((c3.toNat : Int) == 61) = false := beq_eq_false_iff_ne.2 hne
          have hc2 : ((c3.toNat : Int) != 61) = true := bne_iff_ne.2 hne
          clear hne
          go_wp2_with (go_at_call 89; refine (hix c3 _).mono ?_; rintro e w1 ⟨rfl, rfl⟩)
          go_roundw
          case rel => exact ⟨4, by omega, by simp, by rw [HU.out]; simp, by rw [HN.out, if_neg h61]; simp, HW⟩
          case measure => simp [intOf] <;> omega
    · obtain rfl : i = 4 := by omega
      obtain ⟨U, hU⟩ : ∃ U, ubs [c0, c1, c2, c3] = U := ⟨_, rfl⟩
      obtain ⟨n, hn⟩ : ∃ n, ucn [c0, c1, c2, c3] = n := ⟨_, rfl⟩
      obtain ⟨m, hm⟩ : ∃ m, n * 6 / 8 = m := ⟨_, rfl⟩
      have hUl : U < 16777216 := by
        have h := ubs_lt [c0, c1, c2, c3]
        rw [hU] at h
        exact Nat.lt_of_lt_of_eq h (by show 64 ^ 4 = 16777216; decide)
      have hnl : n ≤ 4 := hn ▸ ucn_le [c0, c1, c2, c3]
      have hm3 : m ≤ 3 := by omega
      have hmm : ((n : Int) * 6) / 8 = (m : Int) := by omega
      have hB : Hid (unf [c0, c1, c2, c3] = [UInt8.ofNat (U / 65536), UInt8.ofNat (U / 256), UInt8.ofNat U].take m) := by
        show unf [c0, c1, c2, c3] = _
        unfold unf
        rw [hU, hn, hm]
      have hl : (unf [c0, c1, c2, c3]).length = m := by rw [hB.out, List.length_take]; exact Nat.min_eq_left hm3
      have hw : Below w.heap.size w wr := by rw [HW.out]; exact (Below.refl _ w).alloc (Nat.le_refl _) _
      rw [show [c0, c1, c2, c3].take 4 = [c0, c1, c2, c3] from rfl, hU, hn]
      clear hU hn hm HW
      have hw2 : Hid (Below w.heap.size w wr) := hw
      have hl2 : Hid ((unf [c0, c1, c2, c3]).length = m) := hl
      clear hw hl
      go_wp2
      go_ret
      refine ⟨wr.heap.size, by rw [hl2.out]; rfl, ?_, hw2.out.alloc hw2.out.size _⟩
      intro i hi
      rw [hl2.out] at hi
      rw [hB.out, Nat.zero_add]
      have hnew := heap_alloc_new wr (.cells #[.int .u8 ((U : Int) / 65536), .int .u8 ((U : Int) / 256 % 256), .int .u8 ((U : Int) % 256)] 5)
      rw [Lib.cell_of_heap hnew]
      have e : ([UInt8.ofNat (U / 65536), UInt8.ofNat (U / 256), UInt8.ofNat U].take m).getD i 0 = [UInt8.ofNat (U / 65536), UInt8.ofNat (U / 256), UInt8.ofNat U].getD i 0 := by
        simp [List.getD, hi]
      rw [e]
      have t : ∀ V : Nat, ((UInt8.ofNat V).toNat : Int) = (V : Int) % 256 := fun V => by rw [UInt8.toNat_ofNat']; omega
      rcases (by omega : i = 0 ∨ i = 1 ∨ i = 2) with rfl | rfl | rfl
      · show some (Value.int .u8 ((U : Int) / 65536)) = some (.int .u8 ((UInt8.ofNat (U / 65536)).toNat : Int))
        rw [t, show ((U / 65536 : Nat) : Int) % 256 = (U : Int) / 65536 by omega]
      · show some (Value.int .u8 ((U : Int) / 256 % 256)) = some (.int .u8 ((UInt8.ofNat (U / 256)).toNat : Int))
        rw [t]; simp
      · show some (Value.int .u8 ((U : Int) % 256)) = some (.int .u8 ((UInt8.ofNat U).toNat : Int))
        rw [t]

end Go.Proofs.YtppmpofdhkgjmafDoor
