/-
  Walk of the law EditFar: it returns true and writes nothing that was there.
-/
import Derived.Test.YtapebgoddcoijaaFar
namespace Go.Proofs.Ytapebgoddcoijaa
open Go.RowKit Dist

theorem farOf_comm (xs ys : List ByteArray) : farOf xs ys = farOf ys xs := by
  unfold farOf
  have e : ff xs ys = 0 ↔ ff ys xs = 0 := ⟨fun h => ff_of (ff_zero h).2 (ff_zero h).1, fun h => ff_of (ff_zero h).2 (ff_zero h).1⟩
  by_cases h : ff xs ys = 0
  · rw [if_pos h, if_pos (e.1 h), dist_comm]
  · rw [if_neg h, if_neg (fun x => h (e.2 x))]

/-- A list of one text, new. -/
theorem strs_one (w : World) (x : ByteArray) : Strs (w.alloc (.cells #[.string x] 9)) (some ⟨w.heap.size, 0, none⟩) [x] := by
  intro i hi
  refine ⟨_, 0, rfl, ?_⟩
  have hblk := heap_alloc_new w (.cells #[.string x] 9)
  rw [Nat.zero_add, Lib.cell_of_heap hblk]
  match i, hi with
  | 0, _ => rfl

theorem errV_nil {f : Int} (h : errV f = .nilIface) : f = 0 := by
  by_cases e : f = 0
  · exact e
  · rw [errV_not e] at h; cases h

set_option maxRecDepth 100000 in
set_option maxHeartbeats 400000 in
theorem editFar_any (a b c : Option Addr) (xs ys zs : List ByteArray) (ca cb cc : Nat) (w : World) (ha : Strs w a xs) (hb : Strs w b ys) (hc : Strs w c zs) (h1 : xs.length ≤ maxLen) (h2 : ys.length ≤ maxLen) (h3 : zs.length ≤ maxLen) :
    Calls Try.prog 4 #[.slice a xs.length ca, .slice b ys.length cb, .slice c zs.length cc] w fun e w' => e = .returned (.bool true) ∧ Below w.heap.size w w' := by
  have hw1 := below_alloc w (.cells #[.string ⟨#[120]⟩] 9)
  have hw2 := below_alloc (w.alloc (.cells #[.string ⟨#[120]⟩] 9)) (.cells #[.string ⟨#[121]⟩] 9)
  have hfact := far_ok _ _ [⟨#[120]⟩] [⟨#[121]⟩] 1 1 _ ((strs_one w ⟨#[120]⟩).below hw2) (strs_one (w.alloc (.cells #[.string ⟨#[120]⟩] 9)) ⟨#[121]⟩) (by decide)
  have e2 : dist [(⟨#[120]⟩ : ByteArray)] [⟨#[121]⟩] = 2 := by rw [dist_cons, if_neg (by decide), dist_nil, dist_nil']; rfl
  rw [e2] at hfact
  simp only [List.length_cons, List.length_nil, Nat.zero_add] at hfact
  rw [show (w.alloc (.cells #[.string ⟨#[120]⟩] 9)).heap.size = w.heap.size + 1 by simp] at hfact
  replace hw2 := hw1.trans (hw2.mono hw1.size)
  have HW : Hid (Below w.heap.size w ((w.alloc (.cells #[.string ⟨#[120]⟩] 9)).alloc (.cells #[.string ⟨#[121]⟩] 9))) := hw2
  clear hw1 hw2 e2
  have HFA := fun w ha hb => far_any a b xs ys ca cb w ha hb h1 h2
  have HFB := fun w ha hb => far_any b a ys xs cb ca w ha hb h2 h1
  have HFC := fun w ha hb => far_any b c ys zs cb cc w ha hb h2 h3
  have HFD := fun w ha hb => far_any a c xs zs ca cc w ha hb h1 h3
  have HTX := fun (hl : xs.length = ys.length) w ha hb => texts_same a b xs ys ca cb w ha hb hl h1
  have HTN := fun (hl : xs.length ≠ ys.length) w => texts_len a b xs.length ys.length ca cb w hl
  rw [farOf_comm ys xs] at HFB
  have HG : Hid (errV (ff xs ys) = .nilIface ∧ errV (ff ys xs) = .nilIface ∧ errV (ff ys zs) = .nilIface ∧ errV (ff xs zs) = .nilIface →
      xs.length ≤ 60 ∧ ys.length ≤ 60 ∧ farOf xs ys = dist xs ys ∧ farOf xs zs ≤ farOf xs ys + farOf ys zs ∧ 0 ≤ farOf ys zs ∧ farOf ys zs ≤ 120 ∧ 0 ≤ farOf xs zs ∧ farOf xs zs ≤ 120) := by
    rintro ⟨g1, _, g3, g4⟩
    replace g1 := errV_nil g1
    replace g3 := errV_nil g3
    replace g4 := errV_nil g4
    have l1 := lsf_len (ff_zero g1).1
    have l2 := lsf_len (ff_zero g1).2
    have l3 := lsf_len (ff_zero g3).2
    have t := dist_tri xs ys zs
    have b1 := dist_le ys zs
    have b2 := dist_le xs zs
    have e1 : farOf xs ys = dist xs ys := by unfold farOf; rw [if_pos g1]
    have e3 : farOf ys zs = dist ys zs := by unfold farOf; rw [if_pos g3]
    have e4 : farOf xs zs = dist xs zs := by unfold farOf; rw [if_pos g4]
    rw [e1, e3, e4]
    exact ⟨l1, l2, rfl, by omega, by omega, by omega, by omega, by omega⟩
  have HE : Hid (∀ f, errV f = .nilIface ∨ ∃ t v, errV f = .iface t v) := fun f => by
    by_cases h : f = 0
    · left; rw [h]; rfl
    · right; exact ⟨_, _, errV_not h⟩
  have E1 := HE.out (ff xs ys)
  have E2 := HE.out (ff ys xs)
  have E3 := HE.out (ff ys zs)
  have E4 := HE.out (ff xs zs)
  obtain ⟨v1, hv1⟩ : ∃ v, errV (ff xs ys) = v := ⟨_, rfl⟩
  obtain ⟨v2, hv2⟩ : ∃ v, errV (ff ys xs) = v := ⟨_, rfl⟩
  obtain ⟨v3, hv3⟩ : ∃ v, errV (ff ys zs) = v := ⟨_, rfl⟩
  obtain ⟨v4, hv4⟩ : ∃ v, errV (ff xs zs) = v := ⟨_, rfl⟩
  rw [hv1] at HFA HG E1
  rw [hv2] at HFB HG E2
  rw [hv3] at HFC HG E3
  rw [hv4] at HFD HG E4
  obtain ⟨x, hx⟩ : ∃ x, farOf xs ys = x := ⟨_, rfl⟩
  obtain ⟨z, hz⟩ : ∃ z, farOf ys zs = z := ⟨_, rfl⟩
  obtain ⟨u, hu⟩ : ∃ u, farOf xs zs = u := ⟨_, rfl⟩
  rw [hx] at HFA HFB HG
  rw [hz] at HFC HG
  rw [hu] at HFD HG
  obtain ⟨m, hm⟩ : ∃ m, xs.length = m := ⟨_, rfl⟩
  obtain ⟨n, hn⟩ : ∃ n, ys.length = n := ⟨_, rfl⟩
  obtain ⟨q, hq⟩ : ∃ q, zs.length = q := ⟨_, rfl⟩
  have HM : Hid (xs.length = m) := hm
  have HN : Hid (ys.length = n) := hn
  rw [hm] at HFA HFB HFD HG HTX HTN h1 ⊢
  rw [hn] at HFA HFB HFC HG HTX HTN h2 ⊢
  rw [hq] at HFC HFD h3 ⊢
  have HE1 : Hid (v1 = .nilIface ∨ ∃ t v, v1 = .iface t v) := E1
  have HE2 : Hid (v2 = .nilIface ∨ ∃ t v, v2 = .iface t v) := E2
  have HE3 : Hid (v3 = .nilIface ∨ ∃ t v, v3 = .iface t v) := E3
  have HE4 : Hid (v4 = .nilIface ∨ ∃ t v, v4 = .iface t v) := E4
  have SA : Hid (Strs w a xs) := ha
  have SB : Hid (Strs w b ys) := hb
  have SC : Hid (Strs w c zs) := hc
  clear hm hn hq hx hz hu hv1 hv2 hv3 hv4 E1 E2 E3 E4 HE ha hb hc
  go_enter Try.func4, Try.ntmps4
  go_wp2_with (go_at_call 7; refine hfact.mono ?_)
  rintro e w1 ⟨rfl, hb1⟩
  clear hfact
  have hb1 := HW.out.trans (hb1.mono HW.out.size)
  go_wp2_with (go_at_call 7; refine (HFA w1 (SA.out.below hb1) (SB.out.below hb1)).mono ?_)
  rintro e w2 ⟨rfl, hb2⟩
  have hb2 := hb1.trans (hb2.mono hb1.size)
  clear hb1 HFA
  go_wp2_with (go_at_call 7; refine (HFB w2 (SB.out.below hb2) (SA.out.below hb2)).mono ?_)
  rintro e w3 ⟨rfl, hb3⟩
  have hb3 := hb2.trans (hb3.mono hb2.size)
  clear hb2 HFB
  go_wp2_with (go_at_call 7; refine (HFC w3 (SB.out.below hb3) (SC.out.below hb3)).mono ?_)
  rintro e w4 ⟨rfl, hb4⟩
  have hb4 := hb3.trans (hb4.mono hb3.size)
  clear hb3 HFC
  go_wp2_with (go_at_call 7; refine (HFD w4 (SA.out.below hb4) (SC.out.below hb4)).mono ?_)
  rintro e w5 ⟨rfl, hb5⟩
  have hb5 := hb4.trans (hb5.mono hb4.size)
  clear hb4 HFD
  rcases HE1.out with rfl | ⟨t1, y1, rfl⟩
  case' inr =>
    go_wp2
    go_ret
    exact ⟨rfl, hb5⟩
  rcases HE2.out with rfl | ⟨t1, y1, rfl⟩
  case' inr =>
    go_wp2
    go_ret
    exact ⟨rfl, hb5⟩
  rcases HE3.out with rfl | ⟨t1, y1, rfl⟩
  case' inr =>
    go_wp2
    go_ret
    exact ⟨rfl, hb5⟩
  rcases HE4.out with rfl | ⟨t1, y1, rfl⟩
  case' inr =>
    go_wp2
    go_ret
    exact ⟨rfl, hb5⟩
  obtain ⟨l1, l2, hx, htri, hz0, hz1, hu0, hu1⟩ := HG.out ⟨rfl, rfl, rfl, rfl⟩
  have hxb := dist_le xs ys
  have hxp := dist_parity xs ys
  rw [HM.out, HN.out] at hxb hxp
  have HT : ∃ s, s = decide (x = 0) ∧ Calls Try.prog 10 #[.slice a m ca, .slice b n cb] w5 fun e w' => e = .returned (.bool s) ∧ ∃ q, w' = w5.drewN q := by
    refine ⟨_, rfl, ?_⟩
    have e0 : decide (x = 0) = decide (xs = ys) := by
      rw [hx, decide_eq_decide]
      rw [← dist_zero xs ys]
      omega
    rw [e0]
    by_cases hl : m = n
    · exact HTX hl w5 (SA.out.below hb5) (SB.out.below hb5)
    · refine (HTN hl w5).mono fun e w' ⟨he, hw⟩ => ⟨?_, 0, hw⟩
      rw [he, decide_eq_false]
      intro e
      apply hl
      rw [← HM.out, ← HN.out, e]
  obtain ⟨s, hs, HT⟩ := HT
  have hpar : Int.tmod (x - m - n) 2 = 0 := Int.tmod_eq_zero_of_dvd (by omega)
  replace hx : 0 ≤ x ∧ x ≤ m + n := by omega
  obtain ⟨hx0, hx1⟩ := hx
  clear HTX HTN hxb hxp HG HE1 HE2 HE3 HE4
  go_wp2_with (go_at_call 10; refine HT.mono ?_)
  rintro e w6 ⟨rfl, q6, hq⟩
  have hb6 : Below w.heap.size w w6 := by rw [hq]; exact below_drawn hb5
  clear HT hq hb5
  by_cases hz : x = 0
  · subst hz
    obtain rfl : s = true := by rw [hs]; rfl
    replace hpar : (-(m : Int) - n).tmod 2 = 0 := by simpa using hpar
    clear hs
    go_wp2
    go_ret
    exact ⟨rfl, hb6⟩
  · obtain rfl : s = false := by rw [hs, decide_eq_false hz]
    have hxz : (x == 0) = false := by simpa using hz
    clear hs
    go_wp2
    go_ret
    exact ⟨rfl, hb6⟩
end Go.Proofs.Ytapebgoddcoijaa
