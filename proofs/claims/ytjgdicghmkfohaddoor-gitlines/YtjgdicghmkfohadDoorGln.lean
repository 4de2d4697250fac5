/-
  Walk of the law GitLines: a patch's text has as many lines as it says.
-/
import Derived.Test.YtjgdicghmkfohadDoorGon

namespace Go.Proofs.YtjgdicghmkfohadDoor
open Go.RowKit Dist

theorem byte_eq' (a : UInt8) : (((a.toNat : Int) == 10) = true ↔ a = 10) := by
  rw [beq_iff_eq]
  exact ⟨fun h => UInt8.toNat_inj.1 (by show a.toNat = 10; omega), fun h => by rw [h]; rfl⟩

theorem count_next (s : ByteArray) (k : Nat) (hk : k < s.size) : (s.data.toList.take (k + 1)).count 10 = (s.data.toList.take k).count 10 + if s[k] = 10 then 1 else 0 := by
  have hk' : k < s.data.toList.length := by rw [← Lib.size_eq]; exact hk
  have e : s.data.toList[k] = s[k] := by rw [Array.getElem_toList]; rfl
  rw [List.take_succ_eq_append_getElem hk', List.count_append, e, List.count_singleton]
  congr 1
  by_cases h : s[k] = 10 <;> simp [h]

set_option maxRecDepth 100000 in
set_option maxHeartbeats 2000000 in
theorem gitLines_any (a : Option Addr) (l : List Ch) (ca : Nat) (w : World) (ha : Chs w a l) (hm : l.length ≤ maxLen) (hml : ∀ c ∈ l, c.2.2.length ≤ maxLen) (hms : ∀ c ∈ l, ∀ h ∈ c.2.2, h.2.2.length ≤ maxLen) :
    Calls Tryd.prog 5 #[.slice a l.length ca] w fun e w' => e = .returned (.bool true) ∧ Below w.heap.size w w' := by
  have hfact := gprint_ok (some ⟨w.heap.size, 0, none⟩) (oneC 3) 1 _ (chs_one w 3 ⟨#[97]⟩) oneC_wipe.1
  rw [oneC_wipe.2, show (oneC 3).length = 1 from rfl] at hfact
  have hb0 := below_alloc w (.cells #[.int .i64 3, .string ⟨#[97]⟩, .slice none 0 0] 33)
  have HB0 : Hid (Below w.heap.size w (w.alloc (.cells #[.int .i64 3, .string ⟨#[97]⟩, .slice none 0 0] 33))) := hb0
  have HA : Hid (Chs w a l) := ha
  have HPB : Hid ((kf l).2 ≠ 0 → ∀ w', Below w.heap.size w w' → Calls Tryd.prog 12 #[.slice a l.length ca] w' fun e w2 => e = .returned (.tuple #[.string ⟨#[]⟩, .iface 52 (.int .i64 (kf l).2)]) ∧ Below w'.heap.size w' w2) := fun hk w' h => gprint_bad a l ca w' (HA.out.below h) hm hml hms hk
  have HPO : Hid ((kf l).2 = 0 → ∀ w', Below w.heap.size w w' → Calls Tryd.prog 12 #[.slice a l.length ca] w' fun e w2 => e = .returned (.tuple #[.string ⟨(gpr l).toArray⟩, .nilIface]) ∧ Below w'.heap.size w' w2) := fun hk w' h => gprint_ok a l ca w' (HA.out.below h) hk
  obtain ⟨n, hn⟩ : ∃ n, l.length = n := ⟨_, rfl⟩
  have HN : Hid (l.length = n) := hn
  rw [hn] at HPB HPO
  rw [hn]
  clear ha hm hml hms hn hb0
  by_cases hk : (kf l).2 = 0
  · have hpr := HPO.out hk
    have hsz : (ByteArray.mk (gpr l).toArray).size ≤ 237120 := by rw [Lib.size_eq]; simpa using gpr_short hk
    have HCT : Hid ((ByteArray.mk (gpr l).toArray).data.toList.count 10 = gln l) := by
      show (ByteArray.mk (gpr l).toArray).data.toList.count 10 = gln l
      rw [show (ByteArray.mk (gpr l).toArray).data.toList = gpr l by simp]; exact count_gpr hk
    have HGL : Hid (∀ k, gln (l.take k) ≤ 237120) := fun k => by
      have h1 := gpr_short hk
      have h2 := count_gpr hk
      have h3 := List.count_le_length (a := (10 : UInt8)) (l := gpr l)
      have h4 : gln (l.take k) + gln (l.drop k) = gln l := by
        have := congrArg List.length (show lnp l = lnp (l.take k) ++ lnp (l.drop k) by unfold lnp; rw [← List.flatMap_append, List.take_append_drop])
        rw [List.length_append, lnp_many, lnp_many, lnp_many] at this
        exact this.symm
      omega
    have hn16 : n ≤ 16 := by have := (kf_rd hk).1; rw [HN.out] at this; exact this
    have HSM : Hid (∀ c ∈ l, c.2.2.length ≤ 60 ∧ ∀ h ∈ c.2.2, h.2.2.length ≤ 120) := fun c hc => ⟨(hf_zero ((kf_rd hk).2 c hc).2.2).1, fun x hx => (sf_zero (hf_rd ((kf_rd hk).2 c hc).2.2 x hx).2.2).1⟩
    obtain ⟨T, hT⟩ : ∃ T, ByteArray.mk (gpr l).toArray = T := ⟨_, rfl⟩
    rw [hT] at hpr hsz HCT
    clear hk hT HPB HPO
    go_enter Tryd.func5, Tryd.ntmps5
    go_wp2_with (go_at_call 12; refine hfact.mono ?_)
    rintro e w1 ⟨rfl, hb1⟩
    have hb1 := HB0.out.trans (hb1.mono HB0.out.size)
    have hpr := hpr w1 hb1
    clear hfact HB0
    go_wp2_with (go_at_call 12; refine hpr.mono ?_)
    rintro e w2 ⟨rfl, hb2⟩
    have HW : Hid (Below w.heap.size w w2) := hb1.trans (hb2.mono hb1.size)
    have HA2 : Hid (Chs w2 a l) := HA.out.below HW.out
    clear hpr hb1 hb2
    go_wp2
    go_loopw [7, 8] (fun c i wr => wr = w2 ∧ ∃ k : Nat, k ≤ T.size ∧ i = .int .i64 k ∧ c = .int .i64 ((T.data.toList.take k).count 10 : Nat)) (fun _ i _ => T.size - (intOf i).toNat)
    case atStart => exact ⟨rfl, 0, Nat.zero_le _, rfl, rfl⟩
    case round =>
      obtain ⟨rfl, k, hk, rfl, rfl⟩ := hrel
      have hcl : (T.data.toList.take k).count 10 ≤ 237120 := by
        have := List.count_le_length (a := (10 : UInt8)) (l := T.data.toList.take k)
        rw [List.length_take, ← Lib.size_eq] at this
        omega
      by_cases hlt : k < T.size
      · have hnx := count_next T k hlt
        obtain ⟨C, hC⟩ : ∃ C, (T.data.toList.take k).count 10 = C := ⟨_, rfl⟩
        rw [hC] at hnx hcl
        rw [hC]
        by_cases hb : T[k] = 10
        · have hb' : ((T[k].toNat : Int) == 10) = true := (byte_eq' _).2 hb
          have HNX : Hid ((T.data.toList.take (k + 1)).count 10 = C + 1) := by show _ = _; rw [hnx, if_pos hb]
          clear hnx hC hb
          go_wp2
          go_roundw
          case rel => exact ⟨by trivial, k + 1, by omega, by go_num, by rw [HNX.out]; go_num⟩
          case measure => simp [intOf]; omega
        · have hb' : ((T[k].toNat : Int) == 10) = false := Bool.eq_false_iff.2 (fun h => hb ((byte_eq' _).1 h))
          have HNX : Hid ((T.data.toList.take (k + 1)).count 10 = C) := by show _ = _; rw [hnx, if_neg hb, Nat.add_zero]
          clear hnx hC hb
          go_wp2
          go_roundw
          case rel => exact ⟨by trivial, k + 1, by omega, by go_num, by rw [HNX.out]⟩
          case measure => simp [intOf]; omega
      · obtain rfl : k = T.size := by omega
        rw [List.take_of_length_le (by rw [← Lib.size_eq]; exact Nat.le_refl _), HCT.out]
        obtain ⟨L, hL⟩ : ∃ L, gln l = L := ⟨_, rfl⟩
        have HL : Hid (gln l = L) := hL
        rw [hL]
        clear hL hcl HCT
        go_wp2
        go_loopw [9, 10, 11] (fun c i _ wx => wx = wr ∧ ∃ k : Nat, k ≤ n ∧ i = .int .i64 k ∧ c = .int .i64 (gln (l.take k) : Nat)) (fun _ i _ _ => n - (intOf i).toNat)
        case atStart => exact ⟨rfl, 0, Nat.zero_le _, rfl, rfl⟩
        case round =>
          obtain ⟨rfl, k, hk, rfl, rfl⟩ := hrel
          by_cases hlt : k < n
          · have ha := HA2.out
            have hkl : k < l.length := by rw [HN.out]; exact hlt
            obtain ⟨b, off, rfl⟩ := ha.addr hkl
            obtain ⟨ah, ch, _, _, hc2, hst, _⟩ := ha.at hkl
            have HST : Hid (Hks wr ah (l.getD k cz).2.2) := hst
            obtain ⟨hs1, hs2⟩ := HSM.out _ (mem_getDc hkl)
            have HS2 : Hid (∀ h ∈ (l.getD k cz).2.2, h.2.2.length ≤ 120) := hs2
            have HNX : Hid (gln (l.take (k + 1)) = gln (l.take k) + (2 + (l.getD k cz).2.2.length + mln (l.getD k cz).2.2)) := by show gln (l.take (k + 1)) = _; rw [tkc l k hkl, gln_snoc]
            have hgl := HGL.out k
            obtain ⟨hs, hhs⟩ : ∃ hs, (l.getD k cz).2.2 = hs := ⟨_, rfl⟩
            rw [hhs] at HST hc2 hs1 HNX HS2
            obtain ⟨C, hC⟩ : ∃ C, gln (l.take k) = C := ⟨_, rfl⟩
            rw [hC] at hgl HNX
            rw [hC]
            obtain ⟨q, hq⟩ : ∃ q, hs.length = q := ⟨_, rfl⟩
            have HQ : Hid (hs.length = q) := hq
            rw [hq] at hc2 hs1 HNX
            clear ha hst hhs hC hq hs2 hkl
            go_wp2
            go_loopw [9, 11] (fun c i wx => wx = wr ∧ ∃ j : Nat, j ≤ q ∧ i = .int .i64 j ∧ c = .int .i64 ((C + 2 + q + mln (hs.take j) : Nat))) (fun _ i _ => q - (intOf i).toNat)
            case atStart => exact ⟨rfl, 0, Nat.zero_le _, rfl, by simp [mln]⟩
            case round =>
              obtain ⟨rfl, j, hj, rfl, rfl⟩ := hrel
              have hmb : mln (hs.take j) ≤ 120 * 60 := by
                have : ∀ (t : List Uk), (∀ h ∈ t, h.2.2.length ≤ 120) → mln t ≤ 120 * t.length := fun t => by
                  induction t with
                  | nil => intro _; simp [mln]
                  | cons x r ih =>
                    intro h
                    have h1 := ih (fun y hy => h y (by simp [hy]))
                    have h2 := h x (by simp)
                    simp only [mln, List.length_cons]; omega
                have h1 := this (hs.take j) (fun h hh => HS2.out h (List.mem_of_mem_take hh))
                rw [List.length_take] at h1
                omega
              by_cases hjq : j < q
              · have hjl : j < hs.length := by rw [HQ.out]; exact hjq
                obtain ⟨b1, off1, am, cm, rfl, _, _, hc3, _⟩ := HST.out.at (i := j) hjl
                have hx := HS2.out _ (mem_getD3 hjl)
                have HNX2 : Hid (mln (hs.take (j + 1)) = mln (hs.take j) + (hs.getD j (0, 0, [])).2.2.length) := by show mln (hs.take (j + 1)) = _; rw [tkh hs j hjl, mln_snoc]
                obtain ⟨r, hr⟩ : ∃ r, (hs.getD j (0, 0, [])).2.2.length = r := ⟨_, rfl⟩
                rw [hr] at hc3 hx HNX2
                obtain ⟨D, hD⟩ : ∃ D, mln (hs.take j) = D := ⟨_, rfl⟩
                rw [hD] at HNX2 hmb
                rw [hD]
                clear hr hD hjl
                go_wp2
                go_roundw
                case rel => exact ⟨by trivial, j + 1, by omega, by go_num, by rw [HNX2.out]; go_num⟩
                case measure => simp [intOf]; omega
              · obtain rfl : j = q := by omega
                rw [List.take_of_length_le (by rw [HQ.out]; exact Nat.le_refl _)] at hmb ⊢
                obtain ⟨D, hD⟩ : ∃ D, mln hs = D := ⟨_, rfl⟩
                rw [hD] at hmb HNX
                rw [hD]
                clear hD
                go_wp2
                go_roundw
                case rel => exact ⟨by trivial, k + 1, by omega, by go_num, by rw [HNX.out]; congr 2; omega⟩
                case measure => simp [intOf]; omega
          · obtain rfl : k = n := by omega
            rw [List.take_of_length_le (by rw [HN.out]; exact Nat.le_refl _), HL.out]
            go_wp2
            go_ret
            exact ⟨by simp, HW.out⟩
  · have hpr := HPB.out hk
    clear HPB HPO hk
    go_enter Tryd.func5, Tryd.ntmps5
    go_wp2_with (go_at_call 12; refine hfact.mono ?_)
    rintro e w1 ⟨rfl, hb1⟩
    have hb1 := HB0.out.trans (hb1.mono HB0.out.size)
    have hpr := hpr w1 hb1
    clear hfact HB0
    go_wp2_with (go_at_call 12; refine hpr.mono ?_)
    rintro e w2 ⟨rfl, hb2⟩
    have hb2 := hb1.trans (hb2.mono hb1.size)
    clear hpr hb1
    go_wp2
    go_ret
    exact ⟨rfl, hb2⟩

end Go.Proofs.YtjgdicghmkfohadDoor
