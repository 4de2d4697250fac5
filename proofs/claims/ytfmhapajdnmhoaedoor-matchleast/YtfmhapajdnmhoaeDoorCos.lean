/-
  Walks of package match's isChoice and Cost.
-/
import Derived.Test.YtfmhapajdnmhoaeDoorMat

namespace Go.Proofs.YtfmhapajdnmhoaeDoor
open Go.RowKit Dist

/-- What is left of the columns behind some that are taken; none where one was not there. -/
def lft : Nat → List Int → Option Nat
  | s, [] => some s
  | s, c :: m => if 0 ≤ c ∧ s.testBit c.toNat = true then lft (wo s c.toNat) m else none
theorem isC_lft : ∀ (m : List Int) (s : Nat), isC s m = (match lft s m with | some t => t == 0 | none => false)
  | [], s => rfl
  | c :: m, s => by
    rw [isC, lft]
    split
    · exact isC_lft m _
    · rfl
theorem lft_snoc : ∀ (m : List Int) (s : Nat) (c : Int), lft s (m ++ [c]) = (lft s m).bind fun t => if 0 ≤ c ∧ t.testBit c.toNat = true then some (wo t c.toNat) else none
  | [], s, c => by
    show lft s [c] = if 0 ≤ c ∧ s.testBit c.toNat = true then some (wo s c.toNat) else none
    rw [lft]
    split
    · rfl
    · rfl
  | x :: m, s, c => by
    rw [List.cons_append, lft, lft]
    split
    · exact lft_snoc m _ c
    · rfl
theorem lft_none : ∀ (m l : List Int) (s : Nat), lft s m = none → lft s (m ++ l) = none
  | [], _, _, h => by cases h
  | x :: m, l, s, h => by
    rw [lft] at h
    rw [List.cons_append, lft]
    split
    · rename_i hx
      rw [if_pos hx] at h
      exact lft_none m l _ h
    · rfl

set_option maxHeartbeats 1000000 in
set_option maxRecDepth 100000 in
theorem isChoice_any (a : Option Addr) (m : List Int) (ca n : Nat) (w : World) (ha : Ins w a m) (hm : m.length ≤ maxLen) (h8 : n ≤ 8) :
    Calls Tryd.prog 60 #[.slice a m.length ca, .int .i64 n] w fun e w' => e = .returned (.bool (isC (2 ^ n - 1) m)) ∧ w' = w := by
  unfold maxLen at hm
  have hp8 : 2 ^ n ≤ 256 := Nat.pow_le_pow_right (n := 2) (by decide) h8
  have hp1 : 0 < 2 ^ n := Nat.pow_pos (by decide)
  have hfc := firstCols n h8
  obtain ⟨N, hN⟩ : ∃ N, 2 ^ n - 1 = N := ⟨_, rfl⟩
  rw [hN] at hfc ⊢
  have hN2 : N < 256 := by omega
  clear hp8 hp1 hN
  obtain ⟨v, hv⟩ : ∃ v, isC N m = v := ⟨_, rfl⟩
  rw [hv]
  have HV : Hid (isC N m = v) := hv
  obtain ⟨l, hl⟩ : ∃ l, m.length = l := ⟨_, rfl⟩
  rw [hl] at hm ⊢
  have HL : Hid (m.length = l) := hl
  have HA : Hid (Ins w a m) := ha
  clear hv hl ha
  go_enter Tryd.func60, Tryd.ntmps60
  go_wp2_with (go_at_call 57; refine (hfc _).mono ?_; rintro e w1 ⟨rfl, h⟩; cases h)
  clear hfc
  go_loopw [5, 12] (fun s5 i w1 => ∃ k s : Nat, k ≤ l ∧ s5 = .int .u64 s ∧ i = .int .i64 k ∧ w1 = w ∧ lft N (m.take k) = some s ∧ s < 256) (fun _ i _ => l - (intOf i).toNat)
  case atStart => exact ⟨0, N, Nat.zero_le _, rfl, rfl, rfl, rfl, hN2⟩
  case round =>
    obtain ⟨k, s, hk, rfl, rfl, rfl, hlf, hs⟩ := hrel
    have HF : Hid (lft N (m.take k) = some s) := hlf
    clear hlf
    by_cases hlt : k < l
    · have hkm : k < m.length := by rw [HL.out]; exact hlt
      obtain ⟨b, off, rfl, hat⟩ := Ins.at HA.out hkm
      have hc := hat k hkm
      clear hat
      obtain ⟨c, hcc⟩ : ∃ c, m.getD k 0 = c := ⟨_, rfl⟩
      rw [hcc] at hc
      have htk : m.take (k + 1) = m.take k ++ [c] := by
        rw [List.take_succ_eq_append_getElem hkm, ← hcc]
        simp [hkm]
      have HS : Hid (lft N (m.take (k + 1)) = if 0 ≤ c ∧ s.testBit c.toNat = true then some (wo s c.toNat) else none) := by
        show lft N (m.take (k + 1)) = _
        rw [htk, lft_snoc, HF.out]; rfl
      clear hcc htk
      have hcall := hasCol s c hs
      by_cases hg : 0 ≤ c ∧ s.testBit c.toNat = true
      · obtain ⟨q, rfl⟩ : ∃ q : Nat, c = q := ⟨c.toNat, by omega⟩
        have ht : s.testBit q = true := by simpa using hg.2
        have hcall := hasColN s q hs true ht
        have hwo := without s q hs (by
          have := bit_lt (n := 8) (by omega) ht
          omega)
        have H2 : Hid (lft N (m.take (k + 1)) = some (wo s q)) := by
          show lft N (m.take (k + 1)) = _
          rw [HS.out, if_pos hg]; simp
        have hw2 := wo_le s q
        clear hg ht HS
        go_wp2_with (first
          | (go_at_call 85; refine (hcall _).mono ?_; rintro e w1 ⟨rfl, rfl⟩)
          | (go_at_call 59; refine (hwo _).mono ?_; rintro e w1 ⟨rfl, rfl⟩))
        go_roundw
        case rel => exact ⟨k + 1, wo s q, by omega, rfl, by go_num, trivial, H2.out, by omega⟩
        case measure => simp [intOf]; omega
      · have e1 : v = false := by
          have h2 : lft N (m.take (k + 1)) = none := by rw [HS.out, if_neg hg]
          rw [← HV.out, isC_lft, ← List.take_append_drop (k + 1) m, lft_none _ _ _ h2]
        subst e1
        have hfa : (decide (0 ≤ c) && s.testBit c.toNat) = false := by
          rw [Bool.and_eq_false_iff]
          by_cases h1 : 0 ≤ c
          · right
            cases h2 : s.testBit c.toNat
            · rfl
            · exact absurd ⟨h1, h2⟩ hg
          · left; simpa using h1
        rw [hfa] at hcall
        clear hfa hg HS
        go_wp2_with (go_at_call 85; refine (hcall _).mono ?_; rintro e w1 ⟨rfl, rfl⟩)
        go_ret
        exact ⟨by first | rfl | trivial, by first | rfl | trivial⟩
    · have : k = l := by omega
      subst this
      have e1 : v = (s == 0) := by
        have h2 := HF.out
        rw [← HL.out, List.take_length] at h2
        rw [← HV.out, isC_lft, h2]
      have hv2 : ((s : Int) == 0) = v := by rw [e1, Bool.eq_iff_iff]; simp
      clear e1
      go_wp2
      go_ret
      exact ⟨by first | rfl | trivial, by first | rfl | trivial⟩

/-- What a choice costs; the fault of asking. -/
def coF (cs : List (List Int)) (m : List Int) : Int := if sqf cs ≠ 0 then sqf cs else if isC (2 ^ cs.length - 1) m = true then 0 else 2
def sumC (cs : List (List Int)) (m : List Int) : Nat → Int
  | 0 => 0
  | k + 1 => sumC cs m k + cAtM cs k (m.getD k 0).toNat
def coO (cs : List (List Int)) (m : List Int) : Int := if coF cs m = 0 then sumC cs m m.length else 0
theorem sumC_bound {cs : List (List Int)} (h0 : sqf cs = 0) (m : List Int) : ∀ k, 0 ≤ sumC cs m k ∧ sumC cs m k ≤ 100000 * k
  | 0 => by rw [sumC]; omega
  | k + 1 => by
    have := sumC_bound h0 m k
    have := sqf_cost h0 k (m.getD k 0).toNat
    rw [sumC]; omega

set_option maxHeartbeats 1000000 in
set_option maxRecDepth 100000 in
theorem cost_any (a b : Option Addr) (cs : List (List Int)) (m : List Int) (ca cb : Nat) (w : World) (ha : Sqr w a cs) (hm : cs.length ≤ maxLen) (hr : ∀ r ∈ cs, r.length ≤ maxLen) (hb : Ins w b m) (hbm : m.length ≤ maxLen) :
    Calls Tryd.prog 26 #[.slice a cs.length ca, .slice b m.length cb] w fun e w' => e = .returned (.tuple #[.int .i64 (coO cs m), errV (coF cs m)]) ∧ w' = w := by
  have hck := checkSq a cs ca w ha hm hr
  by_cases h0 : sqf cs = 0
  case neg =>
    have e1 : coF cs m = sqf cs := by unfold coF; rw [if_pos h0]
    have e2 : coO cs m = 0 := by unfold coO; rw [e1, if_neg h0]
    rw [e1, e2, errV_not h0]
    rw [errV_not h0] at hck
    clear h0 ha hr e1 e2 hb
    obtain ⟨f, hf⟩ : ∃ f, sqf cs = f := ⟨_, rfl⟩
    rw [hf] at hck ⊢
    clear hf
    obtain ⟨n, hn⟩ : ∃ n, cs.length = n := ⟨_, rfl⟩
    obtain ⟨l, hl⟩ : ∃ l, m.length = l := ⟨_, rfl⟩
    rw [hn] at hck hm ⊢
    rw [hl] at hbm ⊢
    clear hn hl
    go_enter Tryd.func26, Tryd.ntmps26
    go_wp2_with (go_at_call 55; refine hck.mono ?_; rintro e w1 ⟨rfl, rfl⟩)
    go_ret2
    exact ⟨rfl, rfl⟩
  have h8 := (sqf_zero h0).1
  have hch := isChoice_any b m cb cs.length w hb hbm h8
  rw [h0, errV_zero] at hck
  by_cases hok : okC cs.length m
  case neg =>
    have e1 : coF cs m = 2 := by unfold coF; rw [if_neg (by simp [h0]), if_neg fun h => hok (isC_all.1 h)]
    have e2 : coO cs m = 0 := by unfold coO; rw [e1, if_neg (by decide)]
    have e3 : isC (2 ^ cs.length - 1) m = false := by
      cases h : isC (2 ^ cs.length - 1) m
      · rfl
      · exact absurd (isC_all.1 h) hok
    rw [e1, e2, errV_not (by decide)]
    rw [e3] at hch
    clear h0 ha hr e1 e2 e3 hb hok
    obtain ⟨n, hn⟩ : ∃ n, cs.length = n := ⟨_, rfl⟩
    obtain ⟨l, hl⟩ : ∃ l, m.length = l := ⟨_, rfl⟩
    rw [hn] at hck hm hch ⊢
    rw [hl] at hbm hch ⊢
    clear hn hl
    go_enter Tryd.func26, Tryd.ntmps26
    go_wp2_with (first
      | (go_at_call 55; refine hck.mono ?_; rintro e w1 ⟨rfl, h⟩; cases h)
      | (go_at_call 60; refine hch.mono ?_; rintro e w1 ⟨rfl, rfl⟩))
    go_ret2
    exact ⟨rfl, rfl⟩
  rw [isC_all.2 hok] at hch
  have e1 : coF cs m = 0 := by unfold coF; rw [if_neg (by simp [h0]), if_pos (isC_all.2 hok)]
  have e2 : coO cs m = sumC cs m m.length := by unfold coO; rw [if_pos e1]
  rw [e1, e2, errV_zero]
  clear e1 e2
  obtain ⟨S, hS⟩ : ∃ S, sumC cs m m.length = S := ⟨_, rfl⟩
  rw [hS]
  have HS : Hid (sumC cs m m.length = S) := hS
  have HZ : Hid (sqf cs = 0) := h0
  have HOK : Hid (okC cs.length m) := hok
  have HA : Hid (Sqr w a cs) := ha
  have HI : Hid (Ins w b m) := hb
  have hml : m.length = cs.length := hok.1
  rw [hml] at hch ⊢
  obtain ⟨n, hn⟩ : ∃ n, cs.length = n := ⟨_, rfl⟩
  rw [hn] at hck hm hch hml h8 ⊢
  have HN : Hid (cs.length = n) := hn
  have HM : Hid (m.length = n) := hml
  clear hn hml hS h0 hok ha hb hr hbm
  go_enter Tryd.func26, Tryd.ntmps26
  go_wp2_with (first
    | (go_at_call 55; refine hck.mono ?_; rintro e w1 ⟨rfl, h⟩; cases h)
    | (go_at_call 60; refine hch.mono ?_; rintro e w1 ⟨rfl, h⟩; cases h))
  clear hck hch
  go_loopw [7, 23] (fun s7 i w1 => ∃ k : Nat, k ≤ n ∧ s7 = .int .i64 (sumC cs m k) ∧ i = .int .i64 k ∧ w1 = w) (fun _ i _ => n - (intOf i).toNat)
  case atStart => exact ⟨0, Nat.zero_le _, rfl, rfl, rfl⟩
  case round =>
    obtain ⟨k, hk, rfl, rfl, rfl⟩ := hrel
    by_cases hlt : k < n
    · have hkm : k < m.length := by rw [HM.out]; exact hlt
      obtain ⟨b2, o2, rfl, hat2⟩ := Ins.at HI.out hkm
      have hc2 := hat2 k hkm
      obtain ⟨b1, o1, rfl, hat1⟩ := Sqr.at HA.out (i := k) (by rw [HN.out]; exact hlt)
      obtain ⟨ar, cap, hc1, hin⟩ := hat1 k (by rw [HN.out]; exact hlt)
      have hrl : (cs.getD k []).length = n := (sqf_len HZ.out (by rw [HN.out]; exact hlt)).trans HN.out
      have hmem := HOK.out.2.1 (m.getD k 0) (by
        have : m.getD k 0 = m[k] := by simp [hkm]
        rw [this]; exact List.getElem_mem hkm)
      rw [HN.out] at hmem
      obtain ⟨q, hq⟩ : ∃ q : Nat, m.getD k 0 = q := ⟨(m.getD k 0).toNat, by omega⟩
      rw [hq] at hc2 hmem
      obtain ⟨b3, o3, rfl, hat3⟩ := Ins.at hin (i := q) (by rw [hrl]; omega)
      have hc3 := hat3 q (by rw [hrl]; omega)
      rw [hrl] at hc1
      have hs1 := sumC_bound HZ.out m k
      have hs2 := sqf_cost HZ.out k q
      have e1 : sumC cs m (k + 1) = sumC cs m k + cAtM cs k q := by rw [sumC, hq]; simp
      have e2 : (cs.getD k []).getD q 0 = cAtM cs k q := rfl
      rw [e2] at hc3
      clear e2 hin hat1 hat2 hat3 hrl hq
      obtain ⟨x, hx⟩ : ∃ x, cAtM cs k q = x := ⟨_, rfl⟩
      obtain ⟨y, hy⟩ : ∃ y, sumC cs m k = y := ⟨_, rfl⟩
      rw [hx] at hc3 hs2 e1
      simp only [hy] at e1 hs1 ⊢
      have HE : Hid (sumC cs m (k + 1) = y + x) := e1
      clear hx hy e1
      have hyb : y ≤ 1000000 := by omega
      go_wp2
      go_roundw
      case rel => exact ⟨k + 1, by omega, by rw [HE.out], by go_num, trivial⟩
      case measure => simp [intOf]; omega
    · have : k = n := by omega
      subst this
      have e1 : sumC cs m k = S := by rw [← HS.out, HM.out]
      simp only [e1]
      clear e1
      go_wp2
      go_ret2
      exact ⟨rfl, rfl⟩

end Go.Proofs.YtfmhapajdnmhoaeDoor
