/-
  Two pairs of numbers compared. Walk of the law RangeIs: whatever two series.
-/
import Derived.Test.YtfmhapajdnmhoafGreatDoorXq
import Derived.Laws.StructEq
import Derived.Test.YtfmhapajdnmhoafGreatDoorRro
import Derived.Test.YtfmhapajdnmhoafGreatDoorXg
namespace Go.Proofs.YtfmhapajdnmhoafGreatDoor
open Go.RowKit Dist

theorem eq_pair_in (e : Nat) (a b c d : Int) (w : World) : (Op.equalIn (e + 1 + 1) 32 (.agg #[.int .i64 a, .int .i64 b]) (.agg #[.int .i64 c, .int .i64 d])).run Tryz.prog w = .ok (a == c && b == d) w := by
  have h := fun (x y : Int) (w : World) => run_equalIn_int (P := Tryz.prog) w e 3 .i64 .i64 x y Tryz.underlying3
  have p0 : ∀ (x y : Int) (w : World), (part 3 #[.int .i64 x, .int .i64 y] 0).run Tryz.prog w = .ok (.int .i64 x) w := fun x y w => by kernel_rfl
  have p1 : ∀ (x y : Int) (w : World), (part 3 #[.int .i64 x, .int .i64 y] 1).run Tryz.prog w = .ok (.int .i64 y) w := fun x y w => by kernel_rfl
  rw [Op.equalIn]
  simp only [Sem.run_bind, run_underlying Tryz.underlying32, Result.andThen_ok]
  have hr : List.range' 0 2 = [0, 1] := rfl
  simp [hr, p0, p1, h]
  by_cases h1 : a = c
  · by_cases h2 : b = d <;> simp [h1, h2]
  · simp [h1]
theorem eq_pair (a b c d : Int) (w : World) : (Op.equalIn 10000 32 (.agg #[.int .i64 a, .int .i64 b]) (.agg #[.int .i64 c, .int .i64 d])).run Tryz.prog w = .ok (a == c && b == d) w := eq_pair_in 9998 a b c d w
theorem eq_pair_same (a b : Int) (w : World) : (Op.equalIn 10000 32 (.agg #[.int .i64 a, .int .i64 b]) (.agg #[.int .i64 a, .int .i64 b])).run Tryz.prog w = .ok true w := by
  rw [eq_pair]; simp

end Go.Proofs.YtfmhapajdnmhoafGreatDoor
namespace Go.Proofs.YtfmhapajdnmhoafGreatDoor
open Go.RowKit Dist

theorem Pai.at {w : World} {a : Option Addr} {ps : List (Int × Int)} (h : Pai w a ps) {i : Nat} (hi : i < ps.length) :
    ∃ b off, a = some ⟨b, off, none⟩ ∧ ∀ j : Nat, j < ps.length → w.cell? ⟨b, off + j * 2, none⟩ = some (.int .i64 (ps.getD j (0, 0)).1) ∧ w.cell? ⟨b, off + j * 2 + 1, none⟩ = some (.int .i64 (ps.getD j (0, 0)).2) := by
  obtain ⟨b, off, rfl, _⟩ := h i hi
  refine ⟨b, off, rfl, fun j hj => ?_⟩
  obtain ⟨b', off', e, hc⟩ := h j hj
  simp at e
  obtain ⟨rfl, rfl⟩ := e
  exact hc

section
variable (a b : Option Addr) (p q : List (List Ch)) (ca cb : Nat) (w : World)

set_option maxHeartbeats 2000000 in
set_option maxRecDepth 100000 in
theorem rangeIs_any (ha : Srs w a p) (hb : Srs w b q) (hop : Okl p) (hoq : Okl q) (hg : TypeLaid w) :
    Calls Tryz.prog 3 #[.slice a p.length ca, .slice b q.length cb] w fun e w' => e = .returned (.bool true) ∧ Below w.heap.size w w' := by
  have hlp := hop.1
  have hlq := hoq.1
  unfold maxLen at hlp hlq
  have hro : Calls Tryz.prog 4 #[.slice a p.length ca, .slice b q.length cb] w fun e w' => ∃ g c, e = .returned (.tuple #[.slice g (rgP p q).length c, .int .i64 (rfF p q)]) ∧ Pai w' g (rgP p q) ∧ Below w.heap.size w w' := rangeOf_any a b p q ca cb w ha hb hop hoq
  have hrg : ∀ w1, Below w.heap.size w w1 → Calls Tryz.prog 5 #[.slice a p.length ca, .slice b q.length cb] w1 fun e w' => ∃ g c, e = .returned (.tuple #[.slice g (rgP p q).length c, errV (rfF p q)]) ∧ Pai w' g (rgP p q) ∧ Below w1.heap.size w1 w' := fun w1 h => range_any a b p q ca cb w1 (ha.below h) (hb.below h) hop hoq
  have her : ∀ w1, Below w.heap.size w w1 → Calls Tryz.prog 6 #[errV (rfF p q), .int .i64 (rfF p q)] w1 fun e w' => e = .returned (.bool true) ∧ Below w1.heap.size w1 w' := fun w1 h => error_same (rfF p q) w1 (hg.below h)
  have hR8 : (rgP p q).length ≤ 8 := by
    by_cases h : rfF p q = 0
    · rw [rgP_ok h, rgM_len h]
      obtain ⟨h1, h2, _⟩ := rfF_zero h
      have : ∀ k, (prs p.length q.length (rgM p q) k).length ≤ k := by
        intro k
        induction k with
        | zero => rw [prs_zero]; simp
        | succ k ih =>
          rw [prs_succ, List.length_append]
          unfold pr1
          split <;> simp <;> omega
      have := this (p.length + q.length)
      omega
    · rw [rgP_bad h]; simp
  obtain ⟨R, hR⟩ : ∃ R, rgP p q = R := ⟨_, rfl⟩
  obtain ⟨F, hF⟩ : ∃ F, rfF p q = F := ⟨_, rfl⟩
  rw [hR, hF] at hro hrg
  rw [hF] at her
  rw [hR] at hR8
  obtain ⟨L, hL⟩ : ∃ L, R.length = L := ⟨_, rfl⟩
  have HL : Hid (R.length = L) := hL
  rw [hL] at hro hrg hR8
  obtain ⟨np, hnp⟩ : ∃ np, p.length = np := ⟨_, rfl⟩
  obtain ⟨mq, hmq⟩ : ∃ mq, q.length = mq := ⟨_, rfl⟩
  rw [hnp] at hlp hro hrg ⊢
  rw [hmq] at hlq hro hrg ⊢
  clear hR hF hL hnp hmq ha hb hop hoq hg
  by_cases h6 : np ≤ 4 ∧ mq ≤ 4 ∧ 6 < np + mq
  · obtain ⟨h1, h2, h3⟩ := h6
    have h4 : (6 : Int) < (np : Int) + (mq : Int) := by omega
    clear hro hrg her
    go_enter Tryz.func3, Tryz.ntmps3
    go_wp2
    go_ret
    exact ⟨by first | rfl | trivial, Below.refl _ _⟩
  · have hc : (np ≤ 4 ∧ mq ≤ 4 ∧ np + mq ≤ 6) ∨ (np ≤ 4 ∧ 4 < mq) ∨ 4 < np := by omega
    clear h6
    rcases hc with ⟨h1, h2, h3⟩ | ⟨h1, h2⟩ | h1
    case' inl =>
      have e1 : decide ((np : Int) ≤ 4) = true := by rw [decide_eq_true_eq]; omega
      have e1' : decide (np ≤ 4) = true := by rw [decide_eq_true_eq]; omega
      have e2 : decide ((mq : Int) ≤ 4) = true := by rw [decide_eq_true_eq]; omega
      have e2' : decide (mq ≤ 4) = true := by rw [decide_eq_true_eq]; omega
      have e3 : decide ((6 : Int) < (np : Int) + (mq : Int)) = false := by rw [decide_eq_false_iff_not]; omega
      have e3' : decide (6 < np + mq) = false := by rw [decide_eq_false_iff_not]; omega
    case' inr.inl =>
      have e1 : decide ((np : Int) ≤ 4) = true := by rw [decide_eq_true_eq]; omega
      have e1' : decide (np ≤ 4) = true := by rw [decide_eq_true_eq]; omega
      have e2 : decide ((mq : Int) ≤ 4) = false := by rw [decide_eq_false_iff_not]; omega
      have e2' : decide (mq ≤ 4) = false := by rw [decide_eq_false_iff_not]; omega
    case' inr.inr =>
      have e1 : decide ((np : Int) ≤ 4) = false := by rw [decide_eq_false_iff_not]; omega
      have e1' : decide (np ≤ 4) = false := by rw [decide_eq_false_iff_not]; omega
    all_goals
      go_enter Tryz.func3, Tryz.ntmps3
      go_upto_region 3 with fail
    all_goals
      go_upto_region 4 with (first
        | (go_at_call 4; refine hro.mono ?_; rintro e w1 ⟨g1, c1, rfl, hp1, hb1⟩)
        | go_in)
      go_upto_region 5 with (first
        | (go_at_call 5; refine (hrg _ hb1).mono ?_; rintro e w2 ⟨g2, c2, rfl, hp2, hb2⟩)
        | go_in)
      have hp1 := hp1.below hb2
      have hb2 := hb1.trans (hb2.mono hb1.size)
      go_upto_region 6 with (first
        | (go_at_call 6; refine (her _ hb2).mono ?_; rintro e w3 ⟨rfl, hb3⟩)
        | go_in)
      have hp1 := hp1.below hb3
      have hp2 := hp2.below hb3
      have hb3 := hb2.trans (hb3.mono hb2.size)
      have HP1 : Hid (Pai w3 g1 R) := hp1
      have HP2 : Hid (Pai w3 g2 R) := hp2
      clear hp1 hp2 hro hrg her hb1 hb2
      go_wp2
      go_loopw [10] (fun i wx => ∃ k : Nat, k ≤ L ∧ i = .int .i64 k ∧ ∃ q, wx = w3.drewN q) (fun i _ => L - (intOf i).toNat)
      case atStart => exact ⟨0, Nat.zero_le _, rfl, 0, rfl⟩
      case round =>
        obtain ⟨k, hk, rfl, q, rfl⟩ := hrel
        by_cases hlt : k < L
        · obtain ⟨b1, o1, rfl, hat1⟩ := Pai.at HP1.out (i := k) (by rw [HL.out]; exact hlt)
          obtain ⟨b2, o2, rfl, hat2⟩ := Pai.at HP2.out (i := k) (by rw [HL.out]; exact hlt)
          obtain ⟨x1, x2⟩ := hat1 k (by rw [HL.out]; exact hlt)
          obtain ⟨y1, y2⟩ := hat2 k (by rw [HL.out]; exact hlt)
          obtain ⟨e, he⟩ : ∃ e, R.getD k (0, 0) = e := ⟨_, rfl⟩
          rw [he] at x1 x2 y1 y2
          obtain ⟨u, v⟩ := e
          simp only [] at x1 x2 y1 y2
          clear hat1 hat2 he
          have hpe := eq_pair_same u v
          go_wp2
          go_quiet (fail)
          go_wp2
          go_roundw
          case rel => exact ⟨k + 1, by omega, by go_num, _, rfl⟩
          case measure => simp [intOf]; omega
        · have hkL : L ≤ k := by omega
          go_wp2
          go_ret
          exact ⟨by first | rfl | trivial, below_drawn hb3⟩

end

end Go.Proofs.YtfmhapajdnmhoafGreatDoor
