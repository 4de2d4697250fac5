/-
  Walks of base64.fold and base64.unfold: up to three bytes as four letters, four letters as bytes.
-/
import Derived.Test.YtppmpofdhkgjmafDoorBpr
import Derived.Test.YtppmpofdhkgjmafDoorWri
import Derived.Lib.SlBuf

namespace Go.Proofs.YtppmpofdhkgjmafDoor
open Go.RowKit Dist

/-- What is copied into three. -/
theorem copy3 (t : List UInt8) (g o c d : Nat) (w : World) (h3 : t.length ≤ 3) (hb : Byt w g o t) (hd : w.heap[d]? = some (.cells #[.int .u8 0, .int .u8 0, .int .u8 0] 124 (0, 0))) (ty : TypeId) :
    (Builtin.copy_ #[39, 39] ty #[.slice (some ⟨d, 0, none⟩) 3 3, .slice (some ⟨g, o, none⟩) t.length c]).run Tryd.prog w = .ok (.int .i64 t.length) (w.setRow d #[.int .u8 (t.getD 0 0).toNat, .int .u8 (t.getD 1 0).toNat, .int .u8 (t.getD 2 0).toNat]) := by
  have h := run_copy_row (P := Tryd.prog) w 39 39 ty 5 d 0 3 3 ⟨g, o, none⟩ t.length c #[.int .u8 0, .int .u8 0, .int .u8 0] 124 (u8s t) Tryd.underlying39 (by kernel_rfl) hd (by rw [u8s_len]; exact (Nat.min_eq_left h3).symm) hb.get (by rw [u8s_len]; simpa using h3) (u8s_one t)
  have e : ((#[Value.int .u8 0, .int .u8 0, .int .u8 0] : Array Value).toList.take 0 ++ u8s t ++ (#[Value.int .u8 0, .int .u8 0, .int .u8 0] : Array Value).toList.drop (0 + (u8s t).length)).toArray = #[.int .u8 (t.getD 0 0).toNat, .int .u8 (t.getD 1 0).toNat, .int .u8 (t.getD 2 0).toNat] := by
    clear h hd hb
    match t, h3 with
    | [], _ => simp [u8s]
    | [x], _ => simp [u8s]
    | [x, y], _ => simp [u8s]
    | [x, y, z], _ => simp [u8s]
  rw [h, e, u8s_len]; rfl

/-- The letters as a text. -/
theorem abc_get : ∀ (q : Nat) (h : q < 64), ({ data := #[65, 66, 67, 68, 69, 70, 71, 72, 73, 74, 75, 76, 77, 78, 79, 80, 81, 82, 83, 84, 85, 86, 87, 88, 89, 90, 97, 98, 99, 100, 101, 102, 103, 104, 105, 106, 107, 108, 109, 110, 111, 112, 113, 114, 115, 116, 117, 118, 119, 120, 121, 122, 48, 49, 50, 51, 52, 53, 54, 55, 56, 57, 43, 47] } : ByteArray)[q]'h = ltr q := by decide

theorem nat_u64 (a : Nat) (ha : a < 4611686018427387904) : (BitVec.ofInt 64 (a : Int)).toNat = a := by
  rw [BitVec.ofInt_natCast, BitVec.toNat_ofNat]; exact Nat.mod_eq_of_lt (by omega)
theorem or_i64 (a b : Nat) (ha : a < 4611686018427387904) (hb : b < 4611686018427387904) : bits .or .i64 (a : Int) (b : Int) = ((a ||| b : Nat) : Int) := by
  have hx : a ||| b < 2 ^ 62 := Nat.or_lt_two_pow (by omega) (by omega)
  show IntKind.i64.wrap ((BitVec.ofInt 64 (a : Int) ||| BitVec.ofInt 64 (b : Int)).toNat : Int) = _
  rw [BitVec.toNat_or, nat_u64 a ha, nat_u64 b hb, IntKind.wrap_i64]
  omega
theorem and63_i64 (a : Nat) (ha : a < 4611686018427387904) : bits .and .i64 (a : Int) 63 = ((a % 64 : Nat) : Int) := by
  have h63 : (BitVec.ofInt 64 63).toNat = 2 ^ 6 - 1 := by decide
  show IntKind.i64.wrap ((BitVec.ofInt 64 (a : Int) &&& BitVec.ofInt 64 63).toNat : Int) = _
  rw [BitVec.toNat_and, nat_u64 a ha, h63, Nat.and_two_pow_sub_one_eq_mod, IntKind.wrap_i64]
  omega
theorem or_add (a b k : Nat) (hb : b < 2 ^ k) : 2 ^ k * a ||| b = 2 ^ k * a + b := (Nat.two_pow_add_eq_or_of_lt hb a).symm
theorem or_bytes (x y z : Nat) (hx : x < 256) (hy : y < 256) (hz : z < 256) : bits .or .i64 (bits .or .i64 ((x : Int) * 65536) ((y : Int) * 256)) (z : Int) = ((x * 65536 + y * 256 + z : Nat) : Int) := by
  have e1 : ((x : Int) * 65536) = ((x * 65536 : Nat) : Int) := by omega
  have e2 : ((y : Int) * 256) = ((y * 256 : Nat) : Int) := by omega
  have o1 := or_add x (y * 256) 16 (by omega)
  have o2 := or_add (x * 256 + y) z 8 (by omega)
  rw [e1, e2, or_i64 _ _ (by omega) (by omega), show x * 65536 ||| y * 256 = (x * 256 + y) * 256 by rw [show x * 65536 = 2 ^ 16 * x by omega, o1]; omega, or_i64 _ _ (by omega) (by omega), show (x * 256 + y) * 256 ||| z = x * 65536 + y * 256 + z by rw [show (x * 256 + y) * 256 = 2 ^ 8 * (x * 256 + y) by omega, o2]; omega]

set_option maxRecDepth 100000 in
set_option maxHeartbeats 400000 in
theorem foldOf (t : List UInt8) (g o c : Nat) (w : World) (h1 : 0 < t.length) (h3 : t.length ≤ 3) (hb : Byt w g o t) :
    Calls Tryd.prog 36 #[.slice (some ⟨g, o, none⟩) t.length c] w fun e w' => e = .returned (.agg #[.int .u8 (flt t 0).toNat, .int .u8 (flt t 1).toNat, .int .u8 (flt t 2).toNat, .int .u8 (flt t 3).toNat]) ∧ Below w.heap.size w w' := by
  rw [show (#[.int .u8 (flt t 0).toNat, .int .u8 (flt t 1).toNat, .int .u8 (flt t 2).toNat, .int .u8 (flt t 3).toNat] : Array Value) = (u8s (f4 t)).toArray by rw [← flt_f4 t h1 h3]; rfl]
  have hg : g < w.heap.size := World.block_lt_of_cell? _ _ (hb 0 h1)
  obtain ⟨w3, hcp, hw3, hsz, hR, hc0, hc1, hc2⟩ : ∃ w3, (Builtin.copy_ #[39, 39] 3 #[.slice (some ⟨w.heap.size + 1, 0, none⟩) 3 3, .slice (some ⟨g, o, none⟩) t.length c]).run Tryd.prog ((w.alloc (.cells #[.int .u8 0, .int .u8 0, .int .u8 0, .int .u8 0] 92)).alloc (.cells #[.int .u8 0, .int .u8 0, .int .u8 0] 124)) = .ok (.int .i64 t.length) w3 ∧
      Below w.heap.size w w3 ∧ w3.heap.size = w.heap.size + 2 ∧ w3.heap[w.heap.size]? = some (.cells #[.int .u8 0, .int .u8 0, .int .u8 0, .int .u8 0] 92 (0, 0)) ∧
      w3.cell? ⟨w.heap.size + 1, 0, none⟩ = some (.int .u8 (t.getD 0 0).toNat) ∧ w3.cell? ⟨w.heap.size + 1, 1, none⟩ = some (.int .u8 (t.getD 1 0).toNat) ∧ w3.cell? ⟨w.heap.size + 1, 2, none⟩ = some (.int .u8 (t.getD 2 0).toNat) := by
    have hB : Below w.heap.size w ((w.alloc (.cells #[.int .u8 0, .int .u8 0, .int .u8 0, .int .u8 0] 92)).alloc (.cells #[.int .u8 0, .int .u8 0, .int .u8 0] 124)) := ((Below.refl _ w).alloc (Nat.le_refl _) _).alloc (by simp) _
    have hd := heap_alloc_new (w.alloc (.cells #[.int .u8 0, .int .u8 0, .int .u8 0, .int .u8 0] 92)) (.cells #[.int .u8 0, .int .u8 0, .int .u8 0] 124)
    rw [World.size_alloc] at hd
    refine ⟨_, copy3 t g o c (w.heap.size + 1) _ h3 (hb.below hB hg) hd _, ?_, ?_, ?_, ?_, ?_, ?_⟩
    · exact hB.trans ⟨rfl, rfl, rfl, by simp, fun k hk => setRow_other _ _ _ _ (by omega)⟩
    · simp
    · rw [setRow_other _ _ _ _ (by omega)]
      exact (Below.heap_alloc _ _ _ (by simp)).trans (heap_alloc_new w _)
    all_goals rw [Lib.cell_of_heap (setRow_heap _ _ _ _ _ _ hd)]; rfl
  obtain ⟨x, hx⟩ : ∃ x, (t.getD 0 0).toNat = x := ⟨_, rfl⟩
  obtain ⟨y, hy⟩ : ∃ y, (t.getD 1 0).toNat = y := ⟨_, rfl⟩
  obtain ⟨z, hz⟩ : ∃ z, (t.getD 2 0).toNat = z := ⟨_, rfl⟩
  have hxl : x < 256 := hx ▸ UInt8.toNat_lt _
  have hyl : y < 256 := hy ▸ UInt8.toNat_lt _
  have hzl : z < 256 := hz ▸ UInt8.toNat_lt _
  rw [hx] at hc0
  rw [hy] at hc1
  rw [hz] at hc2
  obtain ⟨B, hB⟩ : ∃ B, b24 t = B := ⟨_, rfl⟩
  have hBl : B < 16777216 := hB ▸ b24_lt t
  have hor : bits BinOp.or IntKind.i64 (bits BinOp.or IntKind.i64 ((x : Int) * 65536) ((y : Int) * 256)) (z : Int) = (B : Int) := by
    rw [or_bytes x y z hxl hyl hzl, ← hx, ← hy, ← hz]
    exact congrArg _ hB
  clear hx hy hz
  go_enter Tryd.func36, Tryd.ntmps36
  go_wp2
  have hq : ∀ k, bits BinOp.and IntKind.i64 ((B : Int) / (k : Nat)) 63 = ((B / k % 64 : Nat) : Int) := fun k => by
    rw [← Int.natCast_ediv]
    exact and63_i64 _ (Nat.lt_of_le_of_lt (Nat.div_le_self _ _) (by omega))
  go_loopw [6, 27] (fun _ s27 wr => ∃ i : Nat, i ≤ t.length + 1 ∧ s27 = .int .i64 i ∧ Hid (Below w.heap.size w wr) ∧ Hid (wr.heap[w.heap.size]? = some (.cells #[.int .u8 0, .int .u8 0, .int .u8 0, .int .u8 0] 92 (0, 0))) ∧ Hid (∃ c0 c1 c2 c3 : UInt8, wr.heap[w.heap.size + 2]? = some (.cells #[.int .u8 c0.toNat, .int .u8 c1.toNat, .int .u8 c2.toNat, .int .u8 c3.toNat] 92 (0, 0)) ∧
      c0 = (if 0 < i then flt t 0 else 61) ∧ c1 = (if 1 < i then flt t 1 else 61) ∧ c2 = (if 2 < i then flt t 2 else 61) ∧ c3 = (if 3 < i then flt t 3 else 61)))
    (fun _ s27 _ => t.length + 1 - (intOf s27).toNat)
  case atStart =>
    refine ⟨0, Nat.zero_le _, rfl, hw3.alloc (by omega) _, ?_, 61, 61, 61, 61, ?_, rfl, rfl, rfl, rfl⟩
    · exact (Below.heap_alloc _ _ _ (by omega)).trans hR
    · have := heap_alloc_new w3 (.cells #[.int .u8 61, .int .u8 61, .int .u8 61, .int .u8 61] 92)
      rw [hsz] at this
      exact this
  case round =>
    obtain ⟨i, hi, rfl, HB, HR, HF⟩ := hrel
    obtain ⟨c0, c1, c2, c3, hF, e0, e1, e2, e3⟩ := HF.out
    replace e0 : Hid (c0 = _) := e0
    replace e1 : Hid (c1 = _) := e1
    replace e2 : Hid (c2 = _) := e2
    replace e3 : Hid (c3 = _) := e3
    have FQ : ∀ (j q : Nat), j ≤ t.length → B / 2 ^ (18 - 6 * j) % 64 = q → flt t j = ltr q := fun j q hj hq => by
      unfold flt
      rw [if_pos (by omega), hB, hq]
    have F0 := Lib.frozen_of_heap hF 0
    have F1 := Lib.frozen_of_heap hF 1
    have F2 := Lib.frozen_of_heap hF 2
    have F3 := Lib.frozen_of_heap hF 3
    have C0 := Lib.cell_of_heap hF 0
    have C1 := Lib.cell_of_heap hF 1
    have C2 := Lib.cell_of_heap hF 2
    have C3 := Lib.cell_of_heap hF 3
    simp at C0 C1 C2 C3
    have HF2 : Hid (wr.heap[w.heap.size + 2]? = some (.cells #[.int .u8 c0.toNat, .int .u8 c1.toNat, .int .u8 c2.toNat, .int .u8 c3.toNat] 92 (0, 0))) := hF
    clear hF
    by_cases hlt : i ≤ t.length
    · rcases (by omega : i = 0 ∨ i = 1 ∨ i = 2 ∨ i = 3) with rfl | rfl | rfl | rfl
      · obtain ⟨q, hq0⟩ : ∃ q, B / 2 ^ (18 - 6 * 0) % 64 = q := ⟨_, rfl⟩
        have hqq : bits BinOp.and IntKind.i64 ((B : Int) / 262144) 63 = (q : Int) := (hq 262144).trans (congrArg _ hq0)
        have hql : q < 64 := by omega
        go_wp2
        go_roundw
        case rel =>
          refine ⟨1, by omega, by simp, HB.out.setCell (by show w.heap.size ≤ w.heap.size + 2; omega) _, ?_, _, _, _, _, blk_set (i := 0) HF2.out _, by rw [if_pos (by omega)]; exact (abc_get q hql).trans (FQ 0 q hlt hq0).symm, by rw [e1.out]; simp, by rw [e2.out]; simp, by rw [e3.out]; simp⟩
          exact (Below.heap_setCell _ _ _ _ (by show w.heap.size ≠ w.heap.size + 2; omega)).trans HR.out
        case measure => simp [intOf] <;> omega
      · obtain ⟨q, hq0⟩ : ∃ q, B / 2 ^ (18 - 6 * 1) % 64 = q := ⟨_, rfl⟩
        have hqq : bits BinOp.and IntKind.i64 ((B : Int) / 4096) 63 = (q : Int) := (hq 4096).trans (congrArg _ hq0)
        have hql : q < 64 := by omega
        go_wp2
        go_roundw
        case rel =>
          refine ⟨2, by omega, by simp, HB.out.setCell (by show w.heap.size ≤ w.heap.size + 2; omega) _, ?_, _, _, _, _, blk_set (i := 1) HF2.out _, by rw [e0.out]; simp, by rw [if_pos (by omega)]; exact (abc_get q hql).trans (FQ 1 q hlt hq0).symm, by rw [e2.out]; simp, by rw [e3.out]; simp⟩
          exact (Below.heap_setCell _ _ _ _ (by show w.heap.size ≠ w.heap.size + 2; omega)).trans HR.out
        case measure => simp [intOf] <;> omega
      · obtain ⟨q, hq0⟩ : ∃ q, B / 2 ^ (18 - 6 * 2) % 64 = q := ⟨_, rfl⟩
        have hqq : bits BinOp.and IntKind.i64 ((B : Int) / 64) 63 = (q : Int) := (hq 64).trans (congrArg _ hq0)
        have hql : q < 64 := by omega
        go_wp2
        go_roundw
        case rel =>
          refine ⟨3, by omega, by simp, HB.out.setCell (by show w.heap.size ≤ w.heap.size + 2; omega) _, ?_, _, _, _, _, blk_set (i := 2) HF2.out _, by rw [e0.out]; simp, by rw [e1.out]; simp, by rw [if_pos (by omega)]; exact (abc_get q hql).trans (FQ 2 q hlt hq0).symm, by rw [e3.out]; simp⟩
          exact (Below.heap_setCell _ _ _ _ (by show w.heap.size ≠ w.heap.size + 2; omega)).trans HR.out
        case measure => simp [intOf] <;> omega
      · obtain ⟨q, hq0⟩ : ∃ q, B / 2 ^ (18 - 6 * 3) % 64 = q := ⟨_, rfl⟩
        have hqq : bits BinOp.and IntKind.i64 (B : Int) 63 = (q : Int) := (and63_i64 _ (by omega)).trans (congrArg _ ((by simp : B % 64 = B / 2 ^ (18 - 6 * 3) % 64).trans hq0))
        have hql : q < 64 := by omega
        go_wp2
        go_roundw
        case rel =>
          refine ⟨4, by omega, by simp, HB.out.setCell (by show w.heap.size ≤ w.heap.size + 2; omega) _, ?_, _, _, _, _, blk_set (i := 3) HF2.out _, by rw [e0.out]; simp, by rw [e1.out]; simp, by rw [e2.out]; simp, by rw [if_pos (by omega)]; exact (abc_get q hql).trans (FQ 3 q hlt hq0).symm⟩
          exact (Below.heap_setCell _ _ _ _ (by show w.heap.size ≠ w.heap.size + 2; omega)).trans HR.out
        case measure => simp [intOf] <;> omega
    · have hi2 : i = t.length + 1 := by omega
      have hall : ([c0, c1, c2, c3] : List UInt8) = f4 t := by
        have hj : ∀ j, (if j < i then flt t j else 61) = flt t j := fun j => by
          by_cases h : j < i
          · rw [if_pos h]
          · rw [if_neg h]
            unfold flt
            rw [if_neg (by omega)]
        rw [← flt_f4 t h1 h3, e0.out, e1.out, e2.out, e3.out, hj, hj, hj, hj]
      have hagg : (u8s (f4 t)).toArray = #[.int .u8 c0.toNat, .int .u8 c1.toNat, .int .u8 c2.toNat, .int .u8 c3.toNat] := by rw [← hall]; rfl
      replace hagg : Hid ((u8s (f4 t)).toArray = #[.int .u8 c0.toNat, .int .u8 c1.toNat, .int .u8 c2.toNat, .int .u8 c3.toNat]) := hagg
      have G0 := Lib.frozen_of_heap HR.out 0
      have G1 := Lib.frozen_of_heap HR.out 1
      have G2 := Lib.frozen_of_heap HR.out 2
      have G3 := Lib.frozen_of_heap HR.out 3
      have D0 := Lib.cell_of_heap HR.out 0
      have D1 := Lib.cell_of_heap HR.out 1
      have D2 := Lib.cell_of_heap HR.out 2
      have D3 := Lib.cell_of_heap HR.out 3
      simp at D0 D1 D2 D3
      have hb4 := blk_set (i := 3) (blk_set (i := 2) (blk_set (i := 1) (blk_set (i := 0) HR.out (.int .u8 c0.toNat)) (.int .u8 c1.toNat)) (.int .u8 c2.toNat)) (.int .u8 c3.toNat)
      have E0 := Lib.cell_of_heap hb4 0
      have E1 := Lib.cell_of_heap hb4 1
      have E2 := Lib.cell_of_heap hb4 2
      have E3 := Lib.cell_of_heap hb4 3
      simp at E0 E1 E2 E3
      clear hb4 hall FQ hq HF2
      go_wp2
      refine bodyPost_ret (v := .agg #[.int .u8 c0.toNat, .int .u8 c1.toNat, .int .u8 c2.toNat, .int .u8 c3.toNat]) (by simp [results, Tryd.results36, go_sem, E0, E1, E2, E3]) rfl ⟨congrArg (fun z => Ending.returned (.agg z)) hagg.out.symm, ?_⟩
      exact (((HB.out.setCell (Nat.le_refl _) _).setCell (Nat.le_refl _) _).setCell (Nat.le_refl _) _).setCell (Nat.le_refl _) _

end Go.Proofs.YtppmpofdhkgjmafDoor
