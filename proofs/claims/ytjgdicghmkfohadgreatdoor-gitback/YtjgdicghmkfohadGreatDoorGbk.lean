/-
  Walk of the law GitBack: what is printed is read, what is read is printed so.
-/
import Derived.Test.YtjgdicghmkfohadGreatDoorGon
import Derived.Test.YtjgdicghmkfohadGreatDoorGpb

namespace Go.Proofs.YtjgdicghmkfohadGreatDoor
open Go.RowKit Dist

set_option maxRecDepth 100000 in
set_option maxHeartbeats 2000000 in
theorem gitBack_any (a : Option Addr) (l : List Ch) (ca : Nat) (s : ByteArray) (w : World) (ha : Chs w a l) (hm : l.length ≤ maxLen) (hml : ∀ c ∈ l, c.2.2.length ≤ maxLen) (hms : ∀ c ∈ l, ∀ h ∈ c.2.2, h.2.2.length ≤ maxLen) (hs : s.size ≤ maxLen) (hg : Gs w) :
    Calls Tryz.prog 4 #[.slice a l.length ca, .string s] w fun e w' => e = .returned (.bool true) ∧ Below w.heap.size w w' := by
  have hfact := gprint_ok (some ⟨w.heap.size, 0, none⟩) (oneC 2) 1 _ (chs_one w 2 ⟨#[97]⟩) oneC_make.1
  rw [oneC_make.2, show (oneC 2).length = 1 from rfl] at hfact
  have hb0 := below_alloc w (.cells #[.int .i64 2, .string ⟨#[97]⟩, .slice none 0 0] 40)
  have HB0 : Hid (Below w.heap.size w (w.alloc (.cells #[.int .i64 2, .string ⟨#[97]⟩, .slice none 0 0] 40))) := hb0
  have HPA := fun w' (h : Below w.heap.size w w') => gparse s w' (hg.below h) hs
  have HG : Hid (Gs w) := hg
  have HA : Hid (Chs w a l) := ha
  have HPB : Hid ((kf l).2 ≠ 0 → ∀ w', Below w.heap.size w w' → Calls Tryz.prog 7 #[.slice a l.length ca] w' fun e w2 => e = .returned (.tuple #[.string ⟨#[]⟩, .iface 23 (.int .i64 (kf l).2)]) ∧ Below w'.heap.size w' w2) := fun hk w' h => gprint_bad a l ca w' (HA.out.below h) hm hml hms hk
  have HPO : Hid ((kf l).2 = 0 → ∀ w', Below w.heap.size w w' → Calls Tryz.prog 7 #[.slice a l.length ca] w' fun e w2 => e = .returned (.tuple #[.string ⟨(gpr l).toArray⟩, .nilIface]) ∧ Below w'.heap.size w' w2) := fun hk w' h => gprint_ok a l ca w' (HA.out.below h) hk
  have HPE : Hid (∀ w' a' c', Below w.heap.size w w' → Chs w' a' l → Calls Tryz.prog 11 #[.slice a' l.length c', .slice a l.length ca] w' fun e w2 => e = .returned (.bool true) ∧ Below w'.heap.size w' w2) := fun w' a' c' h hc => patches_eq a' a l c' ca w' hc (HA.out.below h) hm hml hms
  have HSM : Hid ((gps s.data.toList).1.length ≤ 16 ∧ ∀ c ∈ (gps s.data.toList).1, c.2.2.length ≤ 60 ∧ ∀ h ∈ c.2.2, h.2.2.length ≤ 120) := gps_small
  have HRB : Hid ((gps s.data.toList).2 = 0 → (ByteArray.mk (gpr (gps s.data.toList).1).toArray) = s ∧ (kf (gps s.data.toList).1).2 = 0) := fun h => by
    obtain ⟨h1, h2⟩ := gpr_gps (s := s.data.toList) (p := (gps s.data.toList).1) (by rw [← h])
    exact ⟨by rw [h1], h2⟩
  obtain ⟨q, hq⟩ : ∃ q, (gps s.data.toList).1 = q := ⟨_, rfl⟩
  obtain ⟨f, hf⟩ : ∃ f, (gps s.data.toList).2 = f := ⟨_, rfl⟩
  rw [hq, hf] at HPA HRB
  rw [hq] at HSM
  obtain ⟨n, hn⟩ : ∃ n, l.length = n := ⟨_, rfl⟩
  have HN : Hid (l.length = n) := hn
  rw [hn] at HPB HPO HPE
  rw [hn]
  clear ha hm hml hms hg hq hf hn hb0
  go_enter Tryz.func4, Tryz.ntmps4
  go_wp2_with (go_at_call 7; refine hfact.mono ?_)
  rintro e w1 ⟨rfl, hb1⟩
  have hb1 := HB0.out.trans (hb1.mono HB0.out.size)
  have hpa := HPA w1 hb1
  clear hfact HPA HB0
  go_wp2_with (go_at_call 10; refine hpa.mono ?_)
  rintro e w2 ⟨xa, xc, rfl, hch, hb2⟩
  have hW := hb1.trans (hb2.mono hb1.size)
  clear hpa hb1 hb2
  by_cases hf0 : f = 0
  case' pos =>
    obtain ⟨h1, h2⟩ := HRB.out hf0
    have hpr := gprint_ok xa q xc w2 hch h2
    rw [h1] at hpr
    rw [hf0, errV_zero]
    obtain ⟨m, hm⟩ : ∃ m, q.length = m := ⟨_, rfl⟩
    rw [hm] at hpr
    rw [hm]
    clear h1 h2 hch hm hf0 HRB HSM
    go_wp2_with (go_at_call 7; refine hpr.mono ?_)
    rintro e w3 ⟨rfl, hb3⟩
    replace hW := hW.trans (hb3.mono hW.size)
    clear hpr hb3
  case' neg =>
    rw [errV_not hf0]
    clear hch hf0 HRB HSM
  all_goals
    go_wp2_with fail
  all_goals
    by_cases hk : (kf l).2 = 0
    · have hpr := HPO.out hk _ hW
      have hsz : (ByteArray.mk (gpr l).toArray).size ≤ 237120 := by rw [Lib.size_eq]; simpa using gpr_short hk
      have HPA2 := fun w' (h : Below w.heap.size w w') => gparse (ByteArray.mk (gpr l).toArray) w' (HG.out.below h) (by unfold maxLen; omega)
      rw [show (ByteArray.mk (gpr l).toArray).data.toList = gpr l by simp, gps_gpr hk] at HPA2
      simp only [errV_zero] at HPA2
      rw [HN.out] at HPA2
      obtain ⟨T, hT⟩ : ∃ T, ByteArray.mk (gpr l).toArray = T := ⟨_, rfl⟩
      rw [hT] at hpr hsz HPA2
      clear hk hT HPB HPO
      refine hpr.mono ?_
      rintro e w4 ⟨rfl, hb4⟩
      replace hW := hW.trans (hb4.mono hW.size)
      have hpa := HPA2 w4 hW
      clear hpr hb4 HPA2
      go_wp2_with (go_at_call 10; refine hpa.mono ?_)
      rintro e w5 ⟨ya, yc, rfl, hch5, hb5⟩
      replace hW := hW.trans (hb5.mono hW.size)
      have hpe := HPE.out w5 ya yc hW hch5
      clear hpa hb5 HPE hch5
      go_wp2_with (go_at_call 11; refine hpe.mono ?_)
      rintro e w6 ⟨rfl, hb6⟩
      replace hW := hW.trans (hb6.mono hW.size)
      clear hpe hb6
      go_wp2
      go_ret
      exact ⟨rfl, hW⟩
    · have hpr := HPB.out hk _ hW
      clear HPB HPO HPE hk
      refine hpr.mono ?_
      rintro e w4 ⟨rfl, hb4⟩
      replace hW := hW.trans (hb4.mono hW.size)
      clear hpr hb4
      go_wp2
      go_ret
      exact ⟨rfl, hW⟩

end Go.Proofs.YtjgdicghmkfohadGreatDoor
