/-
  Walk of the document's own answer for a patch as a text.
-/
import Derived.Test.YtfmhapajdnmhoafGreatDoorGpr
import Derived.Test.YtfmhapajdnmhoafGreatDoorRtx

namespace Go.Proofs.YtfmhapajdnmhoafGreatDoor
open Go.RowKit Dist

set_option maxRecDepth 100000 in
set_option maxHeartbeats 2000000 in
theorem refPText (a : Option Addr) (l : List Ch) (ca : Nat) (w : World) (ha : Chs w a l) (hf0 : (kf l).2 = 0) :
    Calls Tryz.prog 9 #[.slice a l.length ca] w fun e w' => e = .returned (.string ⟨(gpr l).toArray⟩) ∧ Below w.heap.size w w' := by
  obtain ⟨hl, hrd⟩ := kf_rd hf0
  obtain ⟨n, hn⟩ : ∃ n, l.length = n := ⟨_, rfl⟩
  rw [hn] at hl ⊢
  have HN : Hid (l.length = n) := hn
  have HA : Hid (Chs w a l) := ha
  have HR : Hid (∀ c ∈ l, (1 ≤ c.1 ∧ c.1 ≤ 3) ∧ pf c.2.1.data.toList = 0 ∧ (hf c.2.2).2 = 0) := hrd
  have HLen : Hid (∀ k, (gpr (l.take k)).length ≤ 237120) := gpr_tk_len hf0
  have HNX : Hid (∀ k, k < l.length → gpr (l.take (k + 1)) = gpr (l.take k) ++ (hAB (l.getD k cz).1 (l.getD k cz).2.1 ++ prt (l.getD k cz).2.2)) := gpr_tk l
  clear hn ha hrd hf0
  obtain ⟨B, hB⟩ : ∃ B, w.heap.size = B := ⟨_, rfl⟩
  have HB : Hid (w.heap.size = B) := hB
  rw [hB]
  clear hB
  go_enter Tryz.func9, Tryz.ntmps9
  go_wp2
  go_loopw [3, 4, 5, 6] (fun s i _ _ wr => ∃ (k : Nat) (S : ByteArray), k ≤ n ∧ i = .int .i64 k ∧ s = .string S ∧ S.data.toList = gpr (l.take k) ∧ Below B w wr) (fun _ i _ _ _ => n - (intOf i).toNat)
  case atStart => exact ⟨0, ⟨#[]⟩, Nat.zero_le _, rfl, rfl, rfl, Below.refl _ _⟩
  case round =>
    obtain ⟨k, S, hk, rfl, rfl, hS, hbl⟩ := hrel
    have HS : Hid (S.data.toList = gpr (l.take k)) := hS
    by_cases hlt : k < n
    · have ha := HA.out
      have hkl : k < l.length := by rw [HN.out]; exact hlt
      obtain ⟨b, off, rfl⟩ := ha.addr hkl
      obtain ⟨ah, ch, hc0, hc1, hc2, hst, _⟩ := ha.at hkl
      have hb' : Below w.heap.size w wr := by rw [HB.out]; exact hbl
      replace hc0 := cell_later hb' hc0
      replace hc1 := cell_later hb' hc1
      replace hc2 := cell_later hb' hc2
      obtain ⟨_, r2, r3⟩ := HR.out _ (mem_getDc hkl)
      have hpl := HLen.out k
      rw [← hS, ← Lib.size_eq] at hpl
      have hnx := HNX.out k hkl
      have htl := (prt_len r3).2
      obtain ⟨wh, hw⟩ : ∃ x, (l.getD k cz).1 = x := ⟨_, rfl⟩
      obtain ⟨p, hp⟩ : ∃ p, (l.getD k cz).2.1 = p := ⟨_, rfl⟩
      obtain ⟨hs, hhs⟩ : ∃ hs, (l.getD k cz).2.2 = hs := ⟨_, rfl⟩
      rw [hw] at hc0 hnx
      rw [hp] at hc1 hnx r2
      rw [hhs] at hc2 hst hnx r3 htl
      have hps : p.size ≤ 20 := by have := (pf_clean r2).2; rw [Lib.size_eq]; exact this
      have htx := refText ah hs ch wr (hst.below hb') r3
      obtain ⟨q, hq⟩ : ∃ q, hs.length = q := ⟨_, rfl⟩
      rw [hq] at hc2 htx
      obtain ⟨T, hT⟩ : ∃ T, ByteArray.mk (prt hs).toArray = T := ⟨_, rfl⟩
      have hTl : prt hs = T.data.toList := by rw [← hT]
      rw [hT] at htx
      rw [hTl, ← hS] at hnx
      rw [hTl, ← Lib.size_eq] at htl
      have HNX2 : Hid (gpr (l.take (k + 1)) = S.data.toList ++ (hAB wh p ++ T.data.toList)) := hnx
      have hBw : B ≤ wr.heap.size := by have := hbl.size; have := HB.out; omega
      clear hnx hq hT hTl hw hp hhs r2 r3 hst ha hkl hS hb'
      by_cases h2 : wh = 2
      · have HE : Hid (hAB wh p = gAn ++ [10] ++ (gB ++ p.data.toList ++ [10])) := by
          show hAB wh p = _
          unfold hAB hA hB; simp only; rw [if_pos h2, if_neg (by omega)]
        subst h2
        go_wp2_with (go_at_call 21; refine htx.mono ?_)
        rintro e w1 ⟨rfl, hb1⟩
        have hb1 := hbl.trans (hb1.mono hBw)
        clear htx hbl
        go_wp2
        go_roundw
        case rel => exact ⟨k + 1, _, by omega, by go_num, rfl, by rw [HNX2.out, HE.out]; simp [gAn, gB], hb1⟩
        case measure => simp [intOf]; omega
      · have h2' : (wh == 2) = false := by simpa using h2
        by_cases h3 : wh = 3
        · have HE : Hid (hAB wh p = gA ++ p.data.toList ++ [10] ++ (gBn ++ [10])) := by
            show hAB wh p = _
            unfold hAB hA hB; simp only; rw [if_neg h2, if_pos h3]
          subst h3
          clear h2
          go_wp2_with (go_at_call 21; refine htx.mono ?_)
          rintro e w1 ⟨rfl, hb1⟩
          have hb1 := hbl.trans (hb1.mono hBw)
          clear htx hbl
          go_wp2
          go_roundw
          case rel => exact ⟨k + 1, _, by omega, by go_num, rfl, by rw [HNX2.out, HE.out]; simp [gA, gBn], hb1⟩
          case measure => simp [intOf]; omega
        · have h3' : (wh == 3) = false := by simpa using h3
          have HE : Hid (hAB wh p = gA ++ p.data.toList ++ [10] ++ (gB ++ p.data.toList ++ [10])) := by
            show hAB wh p = _
            unfold hAB hA hB; simp only; rw [if_neg h2, if_neg h3]
          clear h2 h3
          go_wp2_with (go_at_call 21; refine htx.mono ?_)
          rintro e w1 ⟨rfl, hb1⟩
          have hb1 := hbl.trans (hb1.mono hBw)
          clear htx hbl
          go_wp2
          go_roundw
          case rel => exact ⟨k + 1, _, by omega, by go_num, rfl, by rw [HNX2.out, HE.out]; simp [gA, gB], hb1⟩
          case measure => simp [intOf]; omega
    · obtain rfl : k = n := by omega
      rw [List.take_of_length_le (by rw [HN.out]; exact Nat.le_refl _)] at HS
      go_wp2
      go_ret
      refine ⟨?_, hbl⟩
      exact ret_s (by rw [HS.out])

end Go.Proofs.YtfmhapajdnmhoafGreatDoor
