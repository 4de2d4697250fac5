/-
  Walk of package match's choose: the first of the columns that are left with which a row and those below it cost the least.
-/
import Derived.Test.YtfmhapajdnmhoaeDoorSqr
import Derived.Maps.Own
import Derived.Maps.OwnOps
import Derived.Maps.Views

namespace Go.Proofs.YtfmhapajdnmhoaeDoor
open Go.RowKit Dist Go.Maps

theorem law_cols : Keyed Tryd.prog 111 := int_keyed Tryd.underlying111
theorem zero_int (w : World) : (zeroValue 3).run Tryd.prog w = .ok (.int .i64 0) w := by kernel_rfl

/-- The map of the least costs. -/
def Lst (w : World) (b k : Nat) (D : DataW Unit) : Prop := w.ownsMap Tryd.prog 111 (plainElem Tryd.prog 3) b k D
/-- What it has at a set. -/
def lat (D : DataW Unit) (s : Nat) (x : Int) : Prop := D.atKey (.int .u64 s) (.lit (.int .i64 0)) = .lit (.int .i64 x)

theorem wf_u64 {s : Nat} (h : s < 256) : (Lit.int .u64 (s : Int)).wf = true := by
  have h1 : IntKind.u64.min = 0 := rfl
  have h2 : IntKind.u64.max = 18446744073709551615 := by decide
  simp only [Lit.wf, h1, h2, Bool.and_eq_true, decide_eq_true_eq]
  omega

theorem Lst.look {w : World} {b k : Nat} {D : DataW Unit} (h : Lst w b k D) {s : Nat} (hs : s < 256) {x : Int} (hx : lat D s x) : (Instr.lookup 108 (.map (some b)) (.int .u64 s) false).run Tryd.prog w = .ok (.int .i64 x) w := by
  obtain ⟨c, hrun, hat, _⟩ := World.ownsMap.lookup_int (t := 108) (e := 3) (q := .i64) h law_cols Tryd.underlying108 Tryd.underlying3 (zero_int w) (keyOf_int_mk Tryd.underlying111 (wf_u64 hs))
  unfold lat at hx
  rw [hx] at hat
  simp at hat
  rw [hrun, hat]

theorem hasColN (s k : Nat) (hs : s < 256) (v : Bool) (hv : s.testBit k = v) (w : World) : Calls Tryd.prog 85 #[.int .u64 s, .int .i64 k] w fun e w' => e = .returned (.bool v) ∧ w' = w := by
  refine (hasCol s k hs w).mono ?_
  rintro e w' ⟨rfl, rfl⟩
  exact ⟨ret_b (by rw [← hv]; simp), rfl⟩

theorem ret_two {a b c d : Int} (h1 : a = c) (h2 : b = d) : Ending.returned (.tuple #[.int .i64 a, .int .i64 b]) = .returned (.tuple #[.int .i64 c, .int .i64 d]) := by rw [h1, h2]

set_option maxHeartbeats 1000000 in
set_option maxRecDepth 100000 in
theorem choose_any (ar : Option Addr) (row : List Int) (cap s b z n : Nat) (D : DataW Unit) (g : Nat → Int) (w : World) (ha : Ins w ar row) (hn : row.length = n) (h8 : n ≤ 8) (hs : s < 256) (hm : Lst w b z D)
    (hrow : ∀ k, 0 ≤ row.getD k 0 ∧ row.getD k 0 ≤ 100000) (hg : ∀ k, k < n → s.testBit k = true → lat D (wo s k) (g k) ∧ 0 ≤ g k ∧ g k ≤ 800000) :
    Calls Tryd.prog 58 #[.slice ar n cap, .int .u64 s, .map (some b)] w fun e w' => e = .returned (.tuple #[.int .i64 (chs row s g n).1, .int .i64 (chs row s g n).2]) ∧ w' = w := by
  have HN : Hid (row.length = n) := hn
  have HA : Hid (Ins w ar row) := ha
  have HG : Hid (∀ k, k < n → s.testBit k = true → lat D (wo s k) (g k) ∧ 0 ≤ g k ∧ g k ≤ 800000) := hg
  have HM : Hid (Lst w b z D) := hm
  have HR : Hid (∀ k, 0 ≤ row.getD k 0 ∧ row.getD k 0 ≤ 100000) := hrow
  clear hn ha hg hm hrow
  obtain ⟨P, hP⟩ : ∃ P, (chs row s g n).1 = P := ⟨_, rfl⟩
  obtain ⟨Q, hQ⟩ : ∃ Q, (chs row s g n).2 = Q := ⟨_, rfl⟩
  rw [hP, hQ]
  have HP1 : Hid ((chs row s g n).1 = P) := hP
  have HQ1 : Hid ((chs row s g n).2 = Q) := hQ
  clear hP hQ
  go_enter Tryd.func58, Tryd.ntmps58
  go_wp2
  go_loopw [6, 7, 13] (fun c6 c7 i w1 => ∃ k : Nat, k ≤ n ∧ i = .int .i64 k ∧ w1 = w ∧ c6 = .int .i64 (chs row s g k).1 ∧ c7 = .int .i64 (chs row s g k).2 ∧ ((chs row s g k).1 = -1 ∨ 0 ≤ (chs row s g k).1)) (fun _ _ i _ => n - (intOf i).toNat)
  case atStart => exact ⟨0, Nat.zero_le _, rfl, rfl, rfl, rfl, .inl rfl⟩
  case round =>
    obtain ⟨k, hk, rfl, rfl, rfl, rfl, hpos⟩ := hrel
    obtain ⟨p, hp⟩ : ∃ p, (chs row s g k).1 = p := ⟨_, rfl⟩
    obtain ⟨q, hq⟩ : ∃ q, (chs row s g k).2 = q := ⟨_, rfl⟩
    simp only [hp, hq] at hpos ⊢
    have HP : Hid ((chs row s g k).1 = p) := hp
    have HQ : Hid ((chs row s g k).2 = q) := hq
    clear hp hq
    by_cases hlt : k < n
    · obtain ⟨b2, off, rfl, hat⟩ := Ins.at HA.out (i := k) (by rw [HN.out]; exact hlt)
      have hc := hat k (by rw [HN.out]; exact hlt)
      clear hat
      have hrk := HR.out k
      obtain ⟨x, hx⟩ : ∃ x, row.getD k 0 = x := ⟨_, rfl⟩
      rw [hx] at hc hrk
      have HX : Hid (row.getD k 0 = x) := hx
      clear hx
      cases ht : s.testBit k
      · have hcall := hasColN s k hs false ht
        have HT : Hid (s.testBit k = false) := ht
        clear ht
        have e1 : Hid (chs row s g (k + 1) = chs row s g k) := by
          show chs row s g (k + 1) = _
          rw [chs_succ, ch1, if_neg (by rw [HT.out]; decide)]
        go_wp2_with (go_at_call 85; refine (hcall _).mono ?_; rintro e w1 ⟨rfl, rfl⟩)
        go_roundw
        case rel => exact ⟨k + 1, by omega, by go_num, trivial, by rw [e1.out, HP.out], by rw [e1.out, HQ.out], by rw [e1.out, HP.out]; exact hpos⟩
        case measure => simp [intOf]; omega
      · have hcall := hasColN s k hs true ht
        have hwo := without s k hs (by omega)
        obtain ⟨hl, hg0, hg1⟩ := HG.out k hlt ht
        have HT : Hid (s.testBit k = true) := ht
        clear ht
        have hlook := Lst.look HM.out (Nat.lt_of_le_of_lt (wo_le s k) hs) hl
        clear hl
        obtain ⟨y, hy⟩ : ∃ y, g k = y := ⟨_, rfl⟩
        rw [hy] at hlook hg0 hg1
        have e1 : Hid (chs row s g (k + 1) = if p = -1 ∨ x + y < q then ((k : Int), x + y) else (p, q)) := by
          show chs row s g (k + 1) = _
          rw [chs_succ, ch1, if_pos HT.out, HX.out, hy, HP.out, HQ.out]
          split
          · rfl
          · rw [← HP.out, ← HQ.out]
        have HY : Hid (g k = y) := hy
        clear hy
        by_cases hb : p = -1 ∨ x + y < q
        · have e2 : Hid (chs row s g (k + 1) = ((k : Int), x + y)) := by
            show chs row s g (k + 1) = _
            rw [e1.out, if_pos hb]
          by_cases hb1 : p = -1
          case' pos => subst hb1
          case' neg =>
            have hb1 : (p == -1) = false := by simpa using hb1
            have hb2 : x + y < q := by simp at hb1; omega
          all_goals
            go_wp2_with (first
              | (go_at_call 85; refine (hcall _).mono ?_; rintro e w1 ⟨rfl, rfl⟩)
              | (go_at_call 59; refine (hwo _).mono ?_; rintro e w1 ⟨rfl, rfl⟩))
            go_roundw
            case rel => exact ⟨k + 1, by omega, by go_num, trivial, by rw [e2.out], by rw [e2.out], by rw [e2.out]; right; simp⟩
            case measure => simp [intOf]; omega
        · have e2 : Hid (chs row s g (k + 1) = (p, q)) := by
            show chs row s g (k + 1) = _
            rw [e1.out, if_neg hb]
          have hb1 : (p == -1) = false := by simp; omega
          have hb2 : q ≤ x + y := by omega
          have hp0 : 0 ≤ p := by omega
          clear hb hpos
          go_wp2_with (first
            | (go_at_call 85; refine (hcall _).mono ?_; rintro e w1 ⟨rfl, rfl⟩)
            | (go_at_call 59; refine (hwo _).mono ?_; rintro e w1 ⟨rfl, rfl⟩))
          go_roundw
          case rel => exact ⟨k + 1, by omega, by go_num, trivial, by rw [e2.out], by rw [e2.out], by rw [e2.out]; exact .inr hp0⟩
          case measure => simp [intOf]; omega
    · have : k = n := by omega
      subst this
      rw [HP.out] at HP1
      rw [HQ.out] at HQ1
      have hp1 : P = p := HP1.out.symm
      have hq1 : Q = q := HQ1.out.symm
      subst hp1 hq1
      go_wp2
      go_ret2
      exact ⟨rfl, rfl⟩

end Go.Proofs.YtfmhapajdnmhoaeDoor
