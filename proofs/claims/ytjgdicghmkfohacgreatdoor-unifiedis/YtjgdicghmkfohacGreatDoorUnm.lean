/-
  Walks of unified.parseNumber, parseSpan, span: numbers and spans as texts, and back.
-/
import Derived.Test.YtjgdicghmkfohacGreatDoorUtx
import Derived.Test.YtjgdicghmkfohacGreatDoorMem
import Derived.Lib.SmallJoins

namespace Go.Proofs.YtjgdicghmkfohacGreatDoor
open Go.RowKit

/-- What the library's variables hold, as far as it is asked. -/
def Gs (w : World) : Prop := (∃ m, w.cell? ⟨1, 0, none⟩ = some (.int .i64 m)) ∧ (∃ ev, w.cell? ⟨7, 0, none⟩ = some ev ∧ (ev = .nilIface ∨ ∃ te pe, ev = .iface te pe)) ∧ ∃ t fr, w.heap[(4 : Nat)]? = some (.cells (Lib.pow10Tab.map fun z => Value.int .u64 z).toArray t fr)

theorem Gs.below {w w' : World} (h : Gs w) (hb : Below w.heap.size w w') : Gs w' := by
  obtain ⟨⟨m, h1⟩, ⟨ev, h2, h3⟩, t, fr, h4⟩ := h
  refine ⟨⟨m, cell_later hb h1⟩, ⟨ev, cell_later hb h2, h3⟩, t, fr, blk_below hb ?_ h4⟩
  by_cases e : 4 < w.heap.size
  · exact e
  · rw [Array.getElem?_eq_none (by omega)] at h4; cases h4

/-- The library's variables lie ahead of a place. -/
def GB (B : Nat) : Prop := 1 < B ∧ 7 < B ∧ 4 < B

theorem Gs.lt {w : World} (h : Gs w) : GB w.heap.size := by
  obtain ⟨⟨m, h1⟩, ⟨ev, h2, h3⟩, t, fr, h4⟩ := h
  refine ⟨World.block_lt_of_cell? w _ h1, World.block_lt_of_cell? w _ h2, ?_⟩
  by_cases e : 4 < w.heap.size
  · exact e
  · rw [Array.getElem?_eq_none (by omega)] at h4; cases h4

theorem Gs.keep {w w' : World} {B : Nat} (h : Gs w) (hB : GB B) (hb : Below B w w') : Gs w' := by
  obtain ⟨⟨m, h1⟩, ⟨ev, h2, h3⟩, t, fr, h4⟩ := h
  exact ⟨⟨m, (hb.cell hB.1).trans h1⟩, ⟨ev, (hb.cell hB.2.1).trans h2, h3⟩, t, fr, blk_below hb hB.2.2 h4⟩

theorem Gs.tab {w : World} (h : Gs w) : Lib.TabIs Tryz.prog w (Rows.unifiedBackRow.named.getD 1 "") .u64 Lib.pow10Tab := by
  obtain ⟨_, _, t, fr, h4⟩ := h
  unfold Lib.TabIs World.var?
  rw [show Tryz.prog.globalNamed (Rows.unifiedBackRow.named.getD 1 "") = some 4 by kernel_rfl]
  rw [Option.bind_some, h4]

theorem below_grown' (w : World) (k : Nat) (os : Array Obj) : Below w.heap.size w (Sort.grow (w.drewN k) os) :=
  ⟨rfl, rfl, rfl, by simp [Sort.grow], fun i hi => by
    show (w.heap ++ os)[i]? = _
    rw [Array.getElem?_append_left hi]⟩

theorem decFrom_lt (l : List UInt8) (a n : Nat) (h : Lib.decFrom a l = some n) : n + 1 ≤ (a + 1) * 10 ^ l.length := by
  induction l generalizing a with
  | nil => simp only [Lib.decFrom, Option.some.injEq] at h; simp [h]
  | cons b r ih =>
    rw [Lib.decFrom] at h
    cases hb : Lib.digitVal b with
    | none => rw [hb] at h; cases h
    | some d =>
      rw [hb] at h
      have h1 := ih _ h
      have h2 := (digit_back hb).1
      rw [List.length_cons, Nat.pow_succ]
      have h3 : (a * 10 + d + 1) * 10 ^ r.length ≤ ((a + 1) * 10) * 10 ^ r.length := Nat.mul_le_mul_right _ (by omega)
      have h4 : (a + 1) * 10 * 10 ^ r.length = (a + 1) * (10 ^ r.length * 10) := by rw [Nat.mul_assoc, Nat.mul_comm 10]
      omega

theorem decNat_lt {l : List UInt8} {n : Nat} (h : Lib.decNat l = some n) (hl : l.length ≤ 3) : n ≤ 999 := by
  unfold Lib.decNat at h
  split at h
  · cases h
  · have h1 := decFrom_lt l 0 n h
    have h2 : (10 : Nat) ^ l.length ≤ 10 ^ 3 := Nat.pow_le_pow_right (by decide) hl
    omega

theorem atoi_bound {s : List UInt8} {n : Int} (h : Lib.atoi s = some n) (hl : s.length ≤ 3) : -1000 ≤ n ∧ n ≤ 1000 := by
  cases s with
  | nil => cases h
  | cons b r =>
    rw [List.length_cons] at hl
    rw [Lib.atoi] at h
    split at h
    · obtain ⟨m, hm, rfl⟩ := Option.map_eq_some_iff.1 h
      have := decNat_lt hm (by omega)
      omega
    · split at h
      · obtain ⟨m, hm, rfl⟩ := Option.map_eq_some_iff.1 h
        have := decNat_lt hm (by omega)
        omega
      · obtain ⟨m, hm, rfl⟩ := Option.map_eq_some_iff.1 h
        have := decNat_lt hm (by rw [List.length_cons]; omega)
        omega

theorem beq_data (x y : ByteArray) : (x.toList == y.toList) = decide (x.data.toList = y.data.toList) := by
  rw [Lib.toList_data, Lib.toList_data, Bool.eq_iff_iff]; simp

theorem ret_ib {a c : Int} {b d : Bool} (h : a = c) (h2 : b = d) : Ending.returned (.tuple #[.int .i64 a, .bool b]) = .returned (.tuple #[.int .i64 c, .bool d]) := by rw [h, h2]

set_option maxRecDepth 100000 in
set_option maxHeartbeats 1000000 in
theorem parseNumber (s : ByteArray) (w : World) (hg : Gs w) :
    Calls Tryz.prog 139 #[.string s] w fun e w' => ∃ n : Int, -1000 ≤ n ∧ n ≤ 1000 ∧ e = .returned (.tuple #[.int .i64 n, .bool (num s.data.toList).isSome]) ∧ (∀ m, num s.data.toList = some m → n = m) ∧ Below w.heap.size w w' := by
  by_cases hl : 3 < s.size
  · have hn := num_long (s := s.data.toList) (by rw [← Lib.size_eq]; exact hl)
    rw [hn]
    clear hg hn
    go_enter Tryz.func139, Tryz.ntmps139
    go_wp2
    go_ret2
    exact ⟨0, by decide, by decide, rfl, (fun m h => by cases h), Below.refl _ _⟩
  have hl3 : s.data.toList.length ≤ 3 := by rw [← Lib.size_eq]; omega
  cases ha : Lib.atoi s.data.toList with
  | none =>
    rw [num_atoi_none ha]
    obtain ⟨_, ⟨ev, hv, hev⟩, _⟩ := hg
    have hc := Tryz.strconv_Atoi_err s (by omega) ha ev w hv hev
    clear hv hev ha hl3
    go_enter Tryz.func139, Tryz.ntmps139
    go_wp2_with (go_at_call 150; refine hc.mono ?_)
    rintro e w1 ⟨N, rfl, _, _, hb⟩
    clear hc
    go_wp2
    go_ret2
    exact ⟨0, by decide, by decide, rfl, (fun m h => by cases h), hb⟩
  | some n =>
    obtain ⟨b1, b2⟩ := atoi_bound ha hl3
    have hc := Tryz.strconv_Atoi s n (by omega) ha w
    have HN : Hid (num s.data.toList = if 0 ≤ n ∧ Lib.decDigits n.toNat = s.data.toList then some n.toNat else none) := num_atoi hl3 ha
    have HG : Hid (Gs w) := hg
    clear hg ha hl3
    by_cases h0 : 0 ≤ n
    · go_enter Tryz.func139, Tryz.ntmps139
      go_wp2_with (go_at_call 150; refine hc.mono ?_)
      rintro e w1 ⟨rfl, t, hw⟩
      have hb1 : Below w.heap.size w w1 := by rw [hw]; exact Joins.below_bytesWorld _ _ _ _ (Nat.le_refl _)
      clear hc hw
      have hi := Tryz.strconv_Itoa n (by omega) (by omega) w1 (HG.out.below hb1).tab
      have e1 : Lib.itoa n = Lib.decDigits n.toNat := by unfold Lib.itoa; rw [if_neg (by omega)]
      rw [e1] at hi
      clear e1
      go_wp2_with (go_at_call 85; refine hi.mono ?_)
      rintro e w2 ⟨rfl, k, os, hw2⟩
      have hb2 : Below w.heap.size w w2 := hb1.trans (by rw [hw2]; exact (below_grown' w1 k os).mono hb1.size)
      clear hi hw2 hb1
      go_wp2
      go_ret2
      refine ⟨n, by omega, by omega, ?_, ?_, hb2⟩
      · rw [HN.out]
        refine ret_ib rfl ?_
        rw [Lib.toList_data, Bool.eq_iff_iff]
        by_cases h : Lib.decDigits n.toNat = s.data.toList
        · simp [h, h0]
        · simp [h]
      · intro m hm
        rw [HN.out] at hm
        split at hm
        · simp only [Option.some.injEq] at hm; omega
        · cases hm
    · have HN2 : Hid (num s.data.toList = none) := by show num s.data.toList = none; rw [HN.out, if_neg (fun h => h0 h.1)]
      rw [HN2.out]
      clear HN HG
      go_enter Tryz.func139, Tryz.ntmps139
      have hc' := hc.mono (R' := fun e w' => e = .returned (.tuple #[.int .i64 n, .nilIface]) ∧ Below w.heap.size w w') fun e w' ⟨he, t, hw⟩ => ⟨he, by rw [hw]; exact Joins.below_bytesWorld _ _ _ _ (Nat.le_refl _)⟩
      clear hc
      go_wp2_with (go_at_call 150; refine hc'.mono ?_; rintro e w1 ⟨rfl, hb1⟩)
      go_ret2
      exact ⟨n, by omega, by omega, rfl, hb1⟩

theorem ret_iib {a b c d : Int} {x y : Bool} (h : a = c) (h1 : b = d) (h2 : x = y) : Ending.returned (.tuple #[.int .i64 a, .int .i64 b, .bool x]) = .returned (.tuple #[.int .i64 c, .int .i64 d, .bool y]) := by rw [h, h1, h2]

theorem spo_flag (s : List UInt8) {n m : Int} (hn : ∀ k, num (Lib.cut s [44]).1 = some k → n = k) (hm : ∀ k, num (Lib.cut s [44]).2.1 = some k → m = k) :
    (spo s).isSome = ((Lib.cut s [44]).2.2 && ((num (Lib.cut s [44]).1).isSome && ((num (Lib.cut s [44]).2.1).isSome && decide (0 ≤ if 0 < m then n - 1 else n)))) ∧ ∀ a b, spo s = some (a, b) → (if 0 < m then n - 1 else n) = a ∧ m = b := by
  unfold spo
  cases (Lib.cut s [44]).2.2 with
  | false => simp
  | true =>
    rw [if_pos rfl]
    cases h1 : num (Lib.cut s [44]).1 with
    | none => simp [spc]
    | some x =>
      cases h2 : num (Lib.cut s [44]).2.1 with
      | none => simp [spc]
      | some y =>
        have e1 := hn x h1
        have e2 := hm y h2
        subst e1 e2
        unfold spc
        by_cases hy : y = 0
        · subst hy; simp
        · by_cases hx : x = 0
          · subst hx
            have : 0 < y := by omega
            simp [hy, this]
          · have : 0 < y := by omega
            simp [hy, hx, this]
            omega

set_option maxRecDepth 100000 in
set_option maxHeartbeats 1000000 in
theorem parseSpan (s : ByteArray) (w : World) (hg : Gs w) (hs : s.size ≤ 400000) :
    Calls Tryz.prog 120 #[.string s] w fun e w' => ∃ n m : Int, -2000 ≤ n ∧ n ≤ 2000 ∧ -2000 ≤ m ∧ m ≤ 2000 ∧ e = .returned (.tuple #[.int .i64 n, .int .i64 m, .bool (spo s.data.toList).isSome]) ∧ (∀ a b, spo s.data.toList = some (a, b) → n = a ∧ m = b) ∧ Below w.heap.size w w' := by
  obtain ⟨mm, hmm⟩ := hg.1
  have hc := Tryz.strings_Cut s ⟨#[44]⟩ mm w (by omega) hmm
  rw [show (ByteArray.mk #[44]).data.toList = [44] from rfl] at hc
  have HF : Hid (∀ n m : Int, (∀ k, num (Lib.cut s.data.toList [44]).1 = some k → n = k) → (∀ k, num (Lib.cut s.data.toList [44]).2.1 = some k → m = k) → (spo s.data.toList).isSome = ((Lib.cut s.data.toList [44]).2.2 && ((num (Lib.cut s.data.toList [44]).1).isSome && ((num (Lib.cut s.data.toList [44]).2.1).isSome && decide (0 ≤ if 0 < m then n - 1 else n)))) ∧ ∀ a b, spo s.data.toList = some (a, b) → (if 0 < m then n - 1 else n) = a ∧ m = b) := fun n m h1 h2 => spo_flag _ h1 h2
  obtain ⟨x, hx⟩ : ∃ x, (Lib.cut s.data.toList [44]).1 = x := ⟨_, rfl⟩
  obtain ⟨y, hy⟩ : ∃ y, (Lib.cut s.data.toList [44]).2.1 = y := ⟨_, rfl⟩
  obtain ⟨z, hz⟩ : ∃ z, (Lib.cut s.data.toList [44]).2.2 = z := ⟨_, rfl⟩
  obtain ⟨S, hS⟩ : ∃ S, spo s.data.toList = S := ⟨_, rfl⟩
  rw [hx, hy, hz, hS] at HF
  rw [hx, hy, hz] at hc
  rw [hS]
  have HG : Hid (Gs w) := hg
  clear hg hx hy hz hS hmm
  go_enter Tryz.func120, Tryz.ntmps120
  go_wp2_with (go_at_call 119; refine hc.mono ?_)
  rintro e w1 ⟨rfl, q, hw⟩
  have hb1 : Below w.heap.size w w1 := by rw [hw]; exact below_drawn (Below.refl _ _)
  clear hc hw
  have hp1 := parseNumber ⟨x.toArray⟩ w1 (HG.out.below hb1)
  rw [show (ByteArray.mk x.toArray).data.toList = x by simp] at hp1
  go_wp2_with (go_at_call 139; refine hp1.mono ?_)
  rintro e w2 ⟨n, n1, n2, rfl, hn, hb2⟩
  have hb2 := hb1.trans (hb2.mono hb1.size)
  have HNn : Hid (∀ m, num x = some m → n = m) := hn
  clear hp1 hb1 hn
  have hp2 := parseNumber ⟨y.toArray⟩ w2 (HG.out.below hb2)
  rw [show (ByteArray.mk y.toArray).data.toList = y by simp] at hp2
  go_wp2_with (go_at_call 139; refine hp2.mono ?_)
  rintro e w3 ⟨m, m1, m2, rfl, hm, hb3⟩
  have hb3 := hb2.trans (hb3.mono hb2.size)
  have HFF : Hid _ := HF.out n m HNn.out hm
  clear hp2 hb2 hm HF HNn
  obtain ⟨X, hX⟩ : ∃ X, (num x).isSome = X := ⟨_, rfl⟩
  obtain ⟨Y, hY⟩ : ∃ Y, (num y).isSome = Y := ⟨_, rfl⟩
  rw [hX, hY] at HFF
  rw [hX, hY]
  clear hX hY
  by_cases h0 : 0 < m
  all_goals
    cases z
    case' true => cases X
    case' true.true => cases Y
  all_goals
    go_wp2
    go_ret3
    have h1 := HFF.out.1
    have h2 := HFF.out.2
    first | rw [if_pos h0] at h1 h2 | rw [if_neg (by omega)] at h1 h2
    refine ⟨_, _, ?_, ?_, ?_, ?_, ret_iib rfl rfl ?_, h2, hb3⟩
    · omega
    · omega
    · omega
    · omega
    · rw [h1]; simp

theorem ret_s {a b : List UInt8} (h : a = b) : Ending.returned (.string ⟨a.toArray⟩) = .returned (.string ⟨b.toArray⟩) := by rw [h]

set_option maxRecDepth 100000 in
set_option maxHeartbeats 1000000 in
theorem spanOf (a n : Nat) (w : World) (ha : a ≤ 90) (hn : n ≤ 90) : Calls Tryz.prog 58 #[.int .i64 a, .int .i64 n] w fun e w' => e = .returned (.string ⟨(spn a n).toArray⟩) ∧ w' = w := by
  have hi2 := Tryz.strconv_Itoa_small n (by omega)
  have l1 := dd_len (n := a) (by omega)
  have l2 := dd_len (n := a + 1) (by omega)
  have l3 := dd_len (n := n) (by omega)
  by_cases h0 : n = 0
  · have HS : Hid (spn a n = Lib.decDigits a ++ 44 :: Lib.decDigits n) := by show spn a n = _; unfold spn; rw [if_pos h0]
    have hi1 := Tryz.strconv_Itoa_small a (by omega)
    have h1 : ¬ (0 : Int) < n := by omega
    clear h0
    go_enter Tryz.func58, Tryz.ntmps58
    go_wp2_with fail
    refine (hi1 _).mono ?_
    rintro e w1 ⟨rfl, rfl⟩
    go_wp2_with fail
    refine (hi2 _).mono ?_
    rintro e w1 ⟨rfl, rfl⟩
    go_wp2
    go_ret
    refine ⟨?_, rfl⟩
    rw [HS.out]
    exact ret_s (by simp)
  · have HS : Hid (spn a n = Lib.decDigits (a + 1) ++ 44 :: Lib.decDigits n) := by show spn a n = _; unfold spn; rw [if_neg h0]
    have hi1 := Tryz.strconv_Itoa_small (a + 1) (by omega)
    rw [show ((a + 1 : Nat) : Int) = (a : Int) + 1 by omega] at hi1
    have h1 : (0 : Int) < n := by omega
    clear h0
    go_enter Tryz.func58, Tryz.ntmps58
    go_wp2_with fail
    refine (hi1 _).mono ?_
    rintro e w1 ⟨rfl, rfl⟩
    go_wp2_with fail
    refine (hi2 _).mono ?_
    rintro e w1 ⟨rfl, rfl⟩
    go_wp2
    go_ret
    refine ⟨?_, rfl⟩
    rw [HS.out]
    exact ret_s (by simp)

end Go.Proofs.YtjgdicghmkfohacGreatDoor
