/-
  Walk of the law ApplyIs: it returns true and writes nothing that was there.
-/
import Derived.Test.YtkelcjfblekhpabDoorRefB
import Derived.Test.YtkelcjfblekhpabDoorTold3

namespace Go.Proofs.YtkelcjfblekhpabDoor
open Go.RowKit Dist

theorem texts_eqD (a b : Option Addr) (xs : List ByteArray) (ca cb : Nat) (w : World) (ha : Strs w a xs) (hb : Strs w b xs) (hm : xs.length ≤ maxLen) : Calls Tryd.prog 8 #[.slice a xs.length ca, .slice b xs.length cb] w fun e w' => e = .returned (.bool true) ∧ Below w.heap.size w w' :=
  (texts_same a b xs xs ca cb w ha hb rfl hm).mono fun e w' ⟨he, n, hw⟩ => ⟨by rw [he]; exact ret_b (decide_eq_true rfl), by rw [hw]; exact below_drawn (Below.refl _ _)⟩

theorem stO_small (xs : List ByteArray) (l : List Hk) : (stO xs l).length ≤ maxLen := by
  by_cases h : (stF xs l).2 = 0
  · rw [stO_ok h]
    have := (stF_zero h).2.2.2
    unfold maxLen; omega
  · rw [stO_bad h]; exact Nat.zero_le _

set_option maxRecDepth 100000 in
set_option maxHeartbeats 2000000 in
theorem applyIs_any (aa la : Option Addr) (xs : List ByteArray) (l : List Hk) (ca cl : Nat) (w : World) (ha : Strs w aa xs) (hl : Hks w la l) (h1 : xs.length ≤ maxLen) (g1 : ∀ x ∈ xs, x.size ≤ maxLen) (h0 : l.length ≤ maxLen) (h00 : ∀ h ∈ l, h.2.2.length ≤ maxLen) (h000 : ∀ h ∈ l, ∀ m ∈ h.2.2, m.2.size ≤ maxLen) (hca : xs.length ≤ ca) (hg : TypeLaid w) :
    Calls Tryd.prog 3 #[.slice aa xs.length ca, .slice la l.length cl] w fun e w' => e = .returned (.bool true) ∧ Below w.heap.size w w' := by
  have hrs := refStrict aa la xs l ca cl w ha hl h1 g1 h0 h00 h000 hca
  have HST := fun w h h' => strictAny aa la xs l ca cl w h h' h1 h0 h00 hca
  have SA : Hid (Strs w aa xs) := ha
  have SL : Hid (Hks w la l) := hl
  have HG : Hid (TypeLaid w) := hg
  have HSM : Hid ((stO xs l).length ≤ maxLen) := stO_small xs l
  obtain ⟨m, hm⟩ : ∃ m, xs.length = m := ⟨_, rfl⟩
  obtain ⟨z, hz⟩ : ∃ z, l.length = z := ⟨_, rfl⟩
  obtain ⟨Y, hY⟩ : ∃ Y, stO xs l = Y := ⟨_, rfl⟩
  obtain ⟨y, hy⟩ : ∃ y, Y.length = y := ⟨_, rfl⟩
  obtain ⟨f, hf'⟩ : ∃ f, (stF xs l).2 = f := ⟨_, rfl⟩
  obtain ⟨k, hk⟩ : ∃ k, (stF xs l).1 = k := ⟨_, rfl⟩
  obtain ⟨v, hv⟩ : ∃ v, errV f = v := ⟨_, rfl⟩
  have HV : Hid (errV f = v) := hv
  have HYL : Hid (Y.length = y) := hy
  rw [hY] at hrs HST HSM
  rw [hm, hz, hy, hf', hk] at hrs
  rw [hm, hz, hy, hf', hk, hv] at HST
  rw [hm, hz]
  clear ha hl h1 g1 h0 h00 h000 hca hg hm hz hY hy hf' hk hv
  go_enter Tryd.func3, Tryd.ntmps3
  go_wp2_with (go_at_call 5; refine hrs.mono ?_)
  rintro e w1 ⟨a1, c1, rfl, hb1, hs1⟩
  have hst := HST w1 (SA.out.below hb1) (SL.out.below hb1)
  clear hrs HST
  go_wp2_with (go_at_call 6; refine hst.mono ?_)
  rintro e w2 ⟨a2, c2, rfl, hb2, hs2, _⟩
  have hs1 := hs1.below hb2
  have hb2 := hb1.trans (hb2.mono hb1.size)
  have her := error_same f w2 (HG.out.below hb2)
  rw [HV.out] at her
  clear hst hb1
  go_wp2_with (go_at_call 7; refine her.mono ?_)
  rintro e w3 ⟨rfl, hb3⟩
  have htx := texts_eqD a2 a1 Y c2 c1 w3 (hs2.below hb3) (hs1.below hb3) HSM.out
  rw [HYL.out] at htx
  have hb3 := hb2.trans (hb3.mono hb2.size)
  clear her hb2 hs1 hs2
  go_wp2_with (go_at_call 8; refine htx.mono ?_)
  rintro e w4 ⟨rfl, hb4⟩
  have hb4 := hb3.trans (hb4.mono hb3.size)
  clear htx hb3
  go_wp2
  go_ret
  exact ⟨rfl, hb4⟩

end Go.Proofs.YtkelcjfblekhpabDoor
