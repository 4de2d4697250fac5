/-
  Walk of the law GitIs: any patch as a text, any text as a patch.
-/
import Derived.Test.YtjgdicghmkfohadGreatDoorGon
import Derived.Test.YtjgdicghmkfohadGreatDoorXq
import Derived.Test.YtjgdicghmkfohadGreatDoorRgo
import Derived.Test.YtjgdicghmkfohadGreatDoorRgt
import Derived.Test.YtjgdicghmkfohadGreatDoorRkf
import Derived.Test.YtjgdicghmkfohadGreatDoorXg
namespace Go.Proofs.YtjgdicghmkfohadGreatDoor
open Go.RowKit Dist

set_option maxRecDepth 100000 in
set_option maxHeartbeats 2000000 in
theorem gitIs_any (a : Option Addr) (l : List Ch) (ca : Nat) (s : ByteArray) (w : World) (ha : Chs w a l) (hm : l.length ≤ maxLen) (hml : ∀ c ∈ l, c.2.2.length ≤ maxLen) (hms : ∀ c ∈ l, ∀ h ∈ c.2.2, h.2.2.length ≤ maxLen) (hts : ∀ c ∈ l, ∀ h ∈ c.2.2, ∀ m ∈ h.2.2, m.2.size ≤ maxLen) (hs : s.size ≤ maxLen) (hg : Gs w) (htl : TypeLaid w) :
    Calls Tryz.prog 3 #[.slice a l.length ca, .string s] w fun e w' => e = .returned (.bool true) ∧ Below w.heap.size w w' := by
  have hpf := patchFault a l ca w ha hm hml hms hts
  have HPB : Hid ((kf l).2 ≠ 0 → ∀ w', Below w.heap.size w w' → Calls Tryz.prog 7 #[.slice a l.length ca] w' fun e w2 => e = .returned (.tuple #[.string ⟨#[]⟩, .iface 23 (.int .i64 (kf l).2)]) ∧ Below w'.heap.size w' w2) := fun hk w' h => gprint_bad a l ca w' (ha.below h) hm hml hms hk
  have HPO : Hid ((kf l).2 = 0 → ∀ w', Below w.heap.size w w' → Calls Tryz.prog 7 #[.slice a l.length ca] w' fun e w2 => e = .returned (.tuple #[.string ⟨(gpr l).toArray⟩, .nilIface]) ∧ Below w'.heap.size w' w2) := fun hk w' h => gprint_ok a l ca w' (ha.below h) hk
  have HPT : Hid ((kf l).2 = 0 → ∀ w', Below w.heap.size w w' → Calls Tryz.prog 6 #[.slice a l.length ca] w' fun e w2 => e = .returned (.string ⟨(gpr l).toArray⟩) ∧ Below w'.heap.size w' w2) := fun hk w' h => refPText a l ca w' (ha.below h) hk
  have HER : Hid (∀ w' f, Below w.heap.size w w' → Calls Tryz.prog 8 #[errV f, .int .i64 f] w' fun e w'' => e = .returned (.bool true) ∧ Below w'.heap.size w' w'') := fun w' f h => error_same f w' (htl.below h)
  have HRO : Hid (∀ w', Below w.heap.size w w' → Calls Tryz.prog 9 #[.string s] w' fun e w'' => (∃ x cap, e = .returned (.tuple #[.slice x (gps s.data.toList).1.length cap, .int .i64 (gps s.data.toList).2]) ∧ Chs w'' x (gps s.data.toList).1) ∧ Below w'.heap.size w' w'') := fun w' _ => refPOf s w' hs
  have HPA : Hid (∀ w', Below w.heap.size w w' → Calls Tryz.prog 10 #[.string s] w' fun e w'' => ∃ x cap, e = .returned (.tuple #[.slice x (gps s.data.toList).1.length cap, errV (gps s.data.toList).2]) ∧ Chs w'' x (gps s.data.toList).1 ∧ Below w'.heap.size w' w'') := fun w' h => gparse s w' (hg.below h) hs
  obtain ⟨s1, s2⟩ := gps_small (s := s.data.toList)
  have HPE : Hid (∀ w' a1 c1 a2 c2, Chs w' a1 (gps s.data.toList).1 → Chs w' a2 (gps s.data.toList).1 → Calls Tryz.prog 11 #[.slice a1 (gps s.data.toList).1.length c1, .slice a2 (gps s.data.toList).1.length c2] w' fun e w2 => e = .returned (.bool true) ∧ Below w'.heap.size w' w2) := fun w' a1 c1 a2 c2 h1 h2 => patches_eq a1 a2 (gps s.data.toList).1 c1 c2 w' h1 h2 (by unfold maxLen; omega) (fun c hc => by have := (s2 c hc).1; unfold maxLen; omega) (fun c hc h hh => by have := (s2 c hc).2 h hh; unfold maxLen; omega)
  obtain ⟨q, hq⟩ : ∃ q, (gps s.data.toList).1 = q := ⟨_, rfl⟩
  obtain ⟨g, hgg⟩ : ∃ f, (gps s.data.toList).2 = f := ⟨_, rfl⟩
  obtain ⟨k0, hk0⟩ : ∃ k, (kf l).1 = k := ⟨_, rfl⟩
  obtain ⟨f, hf⟩ : ∃ f, (kf l).2 = f := ⟨_, rfl⟩
  obtain ⟨n, hn⟩ : ∃ n, l.length = n := ⟨_, rfl⟩
  obtain ⟨m, hmq⟩ : ∃ n, q.length = n := ⟨_, rfl⟩
  obtain ⟨T, hT⟩ : ∃ T, ByteArray.mk (gpr l).toArray = T := ⟨_, rfl⟩
  rw [hq, hgg, hmq] at HRO HPA
  rw [hq, hmq] at HPE
  rw [hk0, hf, hn] at hpf
  rw [hf, hn] at HPB
  rw [hf, hn, hT] at HPO HPT
  rw [hn]
  clear ha hm hml hms hts hs hg htl s1 s2 hq hgg hk0 hf hn hmq hT
  go_enter Tryz.func3, Tryz.ntmps3
  by_cases hf0 : f = 0
  case' pos =>
    have hpt := fun w' h => HPT.out hf0 w' h
    have hpo := fun w' h => HPO.out hf0 w' h
    have herf := fun w' (h : Below w.heap.size w w') => HER.out w' f h
    rw [hf0, errV_zero] at herf
    rw [hf0] at hpf
    clear hf0 HPT HPB HPO
    go_wp2_with (go_at_call 5; refine hpf.mono ?_)
    rintro e w1 ⟨rfl, hb1⟩
    have hpt := hpt w1 hb1
    clear hpf
    go_wp2_with (go_at_call 6; refine hpt.mono ?_)
    rintro e w2 ⟨rfl, hb2⟩
    have hb2 := hb1.trans (hb2.mono hb1.size)
    have hpr := hpo w2 hb2
    clear hpt hpo hb1
    go_wp2_with (go_at_call 7; refine hpr.mono ?_)
    rintro e w3 ⟨rfl, hb3⟩
    have hb3 := hb2.trans (hb3.mono hb2.size)
    have her := herf w3 hb3
    clear hpr hb2 herf
  case' neg =>
    have hfz : (f == 0) = false := by simpa using hf0
    have hpr := fun w' h => HPB.out hf0 w' h
    have herf := fun w' (h : Below w.heap.size w w') => HER.out w' f h
    rw [errV_not hf0] at herf
    clear hf0 HPT HPB HPO
    go_wp2_with (go_at_call 5; refine hpf.mono ?_)
    rintro e w1 ⟨rfl, hb1⟩
    have hpr := hpr w1 hb1
    clear hpf
    go_wp2_with (go_at_call 7; refine hpr.mono ?_)
    rintro e w3 ⟨rfl, hb3⟩
    have hb3 := hb1.trans (hb3.mono hb1.size)
    have her := herf w3 hb3
    clear hpr herf hb1
  all_goals
    go_wp2_with (go_at_call 8; refine her.mono ?_)
  all_goals
    rintro e w4 ⟨rfl, hb4⟩
    have hb4 := hb3.trans (hb4.mono hb3.size)
    have hro := HRO.out w4 hb4
    clear her hb3 HRO
    go_wp2_with (go_at_call 9; refine hro.mono ?_)
    rintro e w5 ⟨⟨a5, c5, rfl, hch5⟩, hb5⟩
    have hb5 := hb4.trans (hb5.mono hb4.size)
    have hpa := HPA.out w5 hb5
    have HC5 : Hid (Chs w5 a5 q) := hch5
    clear hro hb4 hch5 HPA
    go_wp2_with (go_at_call 10; refine hpa.mono ?_)
    rintro e w6 ⟨a6, c6, rfl, hch6, hb6⟩
    have HC6 : Hid (Chs w6 a5 q) := HC5.out.below hb6
    have hb6 := hb5.trans (hb6.mono hb5.size)
    have her := HER.out w6 g hb6
    have HD6 : Hid (Chs w6 a6 q) := hch6
    obtain ⟨ev, hev⟩ : ∃ ev, errV g = ev := ⟨_, rfl⟩
    rw [hev] at her
    rw [hev]
    clear hpa hb5 hch6 HC5 hev HER
    go_wp2_with (go_at_call 8; refine her.mono ?_)
    rintro e w7 ⟨rfl, hb7⟩
    have hpe := HPE.out w7 a6 c6 a5 c5 (HD6.out.below hb7) (HC6.out.below hb7)
    have hb7 := hb6.trans (hb7.mono hb6.size)
    clear her hb6 HC6 HD6 HPE
    go_wp2_with (go_at_call 11; refine hpe.mono ?_)
    rintro e w8 ⟨rfl, hb8⟩
    have hb8 := hb7.trans (hb8.mono hb7.size)
    clear hpe hb7
    go_wp2
    go_ret
    exact ⟨rfl, hb8⟩

end Go.Proofs.YtjgdicghmkfohadGreatDoor
