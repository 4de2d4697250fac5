/-
  Walks of the document's choice of all rows, of two lists of numbers compared, of a number in a list.
-/
import Derived.Test.YtfmhapajdnmhoaeDoorRbs
import Derived.Test.YtfmhapajdnmhoaeDoorRsq

namespace Go.Proofs.YtfmhapajdnmhoaeDoor
open Go.RowKit Dist

set_option maxHeartbeats 1000000 in
set_option maxRecDepth 100000 in
theorem matchOf (a : Option Addr) (cs : List (List Int)) (ca : Nat) (w : World) (ha : Sqr w a cs) (h0 : sqf cs = 0) :
    Calls Tryd.prog 22 #[.slice a cs.length ca] w fun e w' => ∃ v, e = .returned v ∧ Inl w' w.heap.size v ((mcM cs).map Int.ofNat) ∧ Below w.heap.size w w' := by
  have h8 := (sqf_zero h0).1
  have hal := below_alloc w (.cells (madeCells #[.bool false] cs.length) 4)
  have hB : Brow (w.alloc (.cells (madeCells #[.bool false] cs.length) 4)) w.heap.size (List.replicate cs.length false) := by
    refine ⟨_, heap_alloc_new w _, by rw [size_madeCells]; simp, fun k hk => ?_⟩
    rw [made_num _ _ _ (by simpa using hk), List.getD_eq_getElem?_getD, List.getElem?_eq_getElem hk]
    simp
  have hc := best_any a cs ca h0 cs.length 0 (List.replicate cs.length false) w.heap.size _ (ha.below hal) hB (by simp) (by unfold lefts; simp) (by omega)
  have hmc : Hid ((bst cs cs.length cs.length 0 (List.replicate cs.length false)).2 = mcM cs) := rfl
  simp only [BesV] at hc
  obtain ⟨bb, hbb⟩ : ∃ bb, bst cs cs.length cs.length 0 (List.replicate cs.length false) = bb := ⟨_, rfl⟩
  rw [hbb] at hc hmc
  obtain ⟨n, hn⟩ : ∃ n, cs.length = n := ⟨_, rfl⟩
  rw [hn] at h8 hc hal ⊢
  have hmk := run_make_row' (P := Tryd.prog) 106 4 (.bool false) 1 Tryd.underlying106 Tryd.infoBool1 rfl .i64 .i64 n (by omega) (by omega)
  have hsz : Hid ((w.alloc (.cells (madeCells #[.bool false] n) 4)).heap.size = w.heap.size + 1) := by
    show _ = _
    simp
  clear hbb hB hn ha h0
  go_enter Tryd.func22, Tryd.ntmps22
  go_wp2_with (go_at_call 54; refine hc.mono ?_; rintro e w1 ⟨v, rfl, hI, hb⟩)
  go_ret
  rw [hsz.out] at hI hb
  rw [hmc.out] at hI
  exact ⟨_, rfl, hI.base (by omega), hal.trans (hb.mono (by omega))⟩

set_option maxHeartbeats 400000 in
theorem ints_len (a b : Option Addr) (m n ca cb : Nat) (w : World) (h : m ≠ n) : Calls Tryd.prog 24 #[.slice a m ca, .slice b n cb] w fun e w' => e = .returned (.bool false) ∧ w' = w := by
  have h' : ((m : Int) == (n : Int)) = false := by simp; omega
  go_enter Tryd.func24, Tryd.ntmps24
  go_wp2
  go_ret
  exact ⟨rfl, rfl⟩

set_option maxHeartbeats 1000000 in
theorem ints_same (a b : Option Addr) (xs ys : List Int) (ca cb : Nat) (w : World) (ha : Ins w a xs) (hb : Ins w b ys) (hl : xs.length = ys.length) (hm : xs.length ≤ maxLen) :
    Calls Tryd.prog 24 #[.slice a xs.length ca, .slice b ys.length cb] w fun e w' => e = .returned (.bool (decide (xs = ys))) ∧ ∃ n, w' = w.drewN n := by
  unfold maxLen at hm
  obtain ⟨n, hn⟩ : ∃ n, ys.length = n := ⟨_, rfl⟩
  rw [hn] at hl ⊢
  rw [hl]
  have HN : Hid (ys.length = n) := hn
  have HL : Hid (xs.length = n) := hl
  rw [hl] at hm
  clear hn hl
  go_enter Tryd.func24, Tryd.ntmps24
  go_wp2
  go_loopw [5] (fun i w1 => ∃ k : Nat, k ≤ n ∧ i = .int .i64 k ∧ (∃ q, w1 = w.drewN q) ∧ ∀ j : Nat, j < k → xs.getD j 0 = ys.getD j 0) (fun i _ => n - (intOf i).toNat)
  case atStart => exact ⟨0, Nat.zero_le _, rfl, ⟨0, rfl⟩, by simp⟩
  case round =>
    obtain ⟨k, hk, rfl, ⟨q, rfl⟩, hall⟩ := hrel
    have HA : Hid (∀ j : Nat, j < k → xs.getD j 0 = ys.getD j 0) := hall
    clear hall
    by_cases hlt : k < n
    · obtain ⟨ba, oa, rfl, hca⟩ := Ins.at ha (i := k) (by rw [HL.out]; exact hlt)
      obtain ⟨bb, ob, rfl, hcb⟩ := Ins.at hb (i := k) (by rw [HN.out]; exact hlt)
      have hca := hca k (by rw [HL.out]; exact hlt)
      have hcb := hcb k (by rw [HN.out]; exact hlt)
      obtain ⟨x, hx⟩ : ∃ x, xs.getD k 0 = x := ⟨_, rfl⟩
      obtain ⟨y, hy⟩ : ∃ y, ys.getD k 0 = y := ⟨_, rfl⟩
      rw [hx] at hca
      rw [hy] at hcb
      have HX : Hid (xs.getD k 0 = x) := hx
      have HY : Hid (ys.getD k 0 = y) := hy
      clear hx hy ha hb
      by_cases he : x = y
      · subst he
        go_wp2
        go_quiet (fail)
        go_wp2
        go_round
        case rel => exact ⟨k + 1, by omega, by go_num, ⟨_, rfl⟩, fun j hj => by
          by_cases e : j = k
          · subst e; rw [HX.out, HY.out]
          · exact HA.out j (by omega)⟩
        case measure => simp [intOf]; omega
      · have he2 : (x == y) = false := by simpa using he
        have HE : Hid (¬ x = y) := he
        clear he
        go_wp2
        go_quiet (fail)
        go_wp2
        go_ret
        refine ⟨ret_b ?_, q + nq, by simp⟩
        symm
        rw [decide_eq_false_iff_not]
        intro e
        have e2 := HX.out
        rw [e, HY.out] at e2
        exact HE.out e2.symm
    · go_wp2
      go_ret
      refine ⟨ret_b ?_, _, rfl⟩
      symm
      rw [decide_eq_true_eq]
      apply List.ext_getElem
      · rw [HL.out, HN.out]
      · intro j h1 h2
        have := HA.out j (by have := HL.out; omega)
        simpa [h1, h2] using this

theorem ints_any (a b : Option Addr) (xs ys : List Int) (ca cb : Nat) (w : World) (ha : Ins w a xs) (hb : Ins w b ys) (hm : xs.length ≤ maxLen) :
    Calls Tryd.prog 24 #[.slice a xs.length ca, .slice b ys.length cb] w fun e w' => e = .returned (.bool (decide (xs = ys))) ∧ Below w.heap.size w w' := by
  by_cases hl : xs.length = ys.length
  · exact (ints_same a b xs ys ca cb w ha hb hl hm).mono fun e w' ⟨he, n, hw⟩ => ⟨he, by rw [hw]; exact below_drawn (Below.refl _ _)⟩
  · refine (ints_len a b xs.length ys.length ca cb w hl).mono fun e w' ⟨he, hw⟩ => ⟨?_, by rw [hw]; exact Below.refl _ _⟩
    rw [he]
    exact ret_b (by symm; rw [decide_eq_false_iff_not]; intro e; exact hl (by rw [e]))

set_option maxHeartbeats 1000000 in
theorem has_num (a : Option Addr) (zs : List Int) (c : Int) (ca m : Nat) (w : World) (hl : zs.length = m) (ha : Ins w a zs) (hm : m ≤ maxLen) :
    Calls Tryd.prog 25 #[.slice a m ca, .int .i64 c] w fun e w' => e = .returned (.bool (decide (c ∈ zs))) ∧ w' = w := by
  unfold maxLen at hm
  have HL : Hid (zs.length = m) := hl
  have HA : Hid (Ins w a zs) := ha
  obtain ⟨v, hv⟩ : ∃ v, decide (c ∈ zs) = v := ⟨_, rfl⟩
  rw [hv]
  have HV : Hid (decide (c ∈ zs) = v) := hv
  clear hv hl ha
  go_enter Tryd.func25, Tryd.ntmps25
  go_wp2
  go_loopw [5] (fun i w1 => ∃ k : Nat, k ≤ m ∧ i = .int .i64 k ∧ w1 = w ∧ ∀ j : Nat, j < k → zs.getD j 0 ≠ c) (fun i _ => m - (intOf i).toNat)
  case atStart => exact ⟨0, Nat.zero_le _, rfl, rfl, fun j hj => absurd hj (Nat.not_lt_zero _)⟩
  case round =>
    obtain ⟨k, hk, rfl, rfl, hall⟩ := hrel
    have HB : Hid (∀ j : Nat, j < k → zs.getD j 0 ≠ c) := hall
    clear hall
    by_cases hlt : k < m
    · have hkl : k < zs.length := by rw [HL.out]; exact hlt
      obtain ⟨b, off, rfl, hat⟩ := Ins.at HA.out hkl
      have hc := hat k hkl
      clear hat
      obtain ⟨x, hx⟩ : ∃ x, zs.getD k 0 = x := ⟨_, rfl⟩
      rw [hx] at hc
      have HX : Hid (zs.getD k 0 = x) := hx
      clear hx
      by_cases he : x = c
      · subst he
        have e1 : v = true := by
          rw [← HV.out, decide_eq_true_eq, ← HX.out]
          rw [List.getD_eq_getElem?_getD, List.getElem?_eq_getElem hkl]
          exact List.getElem_mem hkl
        subst e1
        go_wp2
        go_ret
        exact ⟨by first | rfl | trivial, by first | rfl | trivial⟩
      · have he2 : (x == c) = false := by simpa using he
        have HE : Hid (¬ x = c) := he
        clear he
        go_wp2
        go_roundw
        case rel => exact ⟨k + 1, by omega, by go_num, trivial, fun j hj => by
          by_cases e : j = k
          · subst e; rw [HX.out]; exact HE.out
          · exact HB.out j (by omega)⟩
        case measure => simp [intOf]; omega
    · have e1 : v = false := by
        rw [← HV.out, decide_eq_false_iff_not]
        intro h
        obtain ⟨j, hj, e⟩ := List.mem_iff_getElem.1 h
        refine HB.out j (by have := HL.out; omega) ?_
        rw [← e]; simp [hj]
      subst e1
      go_wp2
      go_ret
      exact ⟨by first | rfl | trivial, by first | rfl | trivial⟩

end Go.Proofs.YtfmhapajdnmhoaeDoor
