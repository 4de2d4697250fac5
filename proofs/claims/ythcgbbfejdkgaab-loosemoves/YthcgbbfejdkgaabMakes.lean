/-
  Walk of the law ApplyMakes: it returns true and writes nothing that was there.
-/
import Derived.Test.YthcgbbfejdkgaabStrict
import Derived.Test.YthcgbbfejdkgaabHMk

namespace Go.Proofs.Ythcgbbfejdkgaab
open Go.RowKit Dist

theorem lsf_of {xs : List ByteArray} (hl : xs.length ≤ 60) (h : ∀ x ∈ xs, lf x.data.toList = 0) : lsf (bts xs) = 0 := by
  unfold lsf
  rw [bts_length, if_neg (by omega)]
  clear hl
  induction xs with
  | nil => rfl
  | cons x r ih =>
    unfold bts at ih ⊢
    rw [List.map_cons, lsg, if_pos (h x (by simp))]
    exact ih fun y hy => h y (List.mem_cons_of_mem _ hy)

/-- What is done is undone. -/
theorem stF_undo {xs : List ByteArray} {l : List Hk} (h : (stF xs l).2 = 0) : stF (sR xs l) (trn l) = (0, 0) ∧ stO (sR xs l) (trn l) = xs := by
  obtain ⟨h1, h2, h3, h4⟩ := stF_zero h
  obtain ⟨g, _, _⟩ := hf_good h2
  obtain ⟨u1, u2⟩ := undo g (clash_stand h3)
  have e : stF (sR xs l) (trn l) = (0, 0) := stF_ok (lsf_of h4 (sR_lines h1 h2)) (by rw [hf_trn h2]) (clash_none u1) (by rw [u2]; have := lsf_len h1; omega)
  refine ⟨e, ?_⟩
  rw [stO_ok (by rw [e]), u2]

/-- What was found is done. -/
theorem stF_make {xs ys : List ByteArray} {n : Int} (h : mkf xs ys n = 0) : stF xs (mOfH xs ys n) = (0, 0) ∧ sR xs (mOfH xs ys n) = ys := by
  have hff : ff xs ys = 0 := by
    by_cases e : ff xs ys = 0
    · exact e
    · unfold mkf at h; rw [if_pos e] at h; exact absurd h e
  obtain ⟨f1, f2⟩ := ff_zero hff
  obtain ⟨o1, o2, _, _, hm⟩ := scr_ok xs ys
  have hs : ∀ m ∈ scr xs ys, sgn m.1 := fun m hmem => (hm m hmem).1
  obtain ⟨c1, c2⟩ := cut_stand hs n.toNat
  have c3 := cut_makes hs n.toNat
  rw [o1] at c2 c3
  rw [o2] at c3
  have e : mOfH xs ys n = cut (scr xs ys) n.toNat := by unfold mOfH; rw [if_pos h]
  have hcf := scr_cf (n := n) hff
  rw [h] at hcf
  obtain ⟨k1, _, _, k4, k5⟩ := cf_zero hcf
  have hhf := hf_cut k1 k4 k5 n.toNat
  rw [e]
  refine ⟨stF_ok f1 (by rw [hhf]) (clash_none c2) (by rw [c3]; have := lsf_len f2; omega), c3⟩

theorem fact_x : stF [] [((0 : Int), (0 : Int), [((43 : Int), (⟨#[120]⟩ : ByteArray))])] = (0, 0) ∧ stO [] [((0 : Int), (0 : Int), [((43 : Int), (⟨#[120]⟩ : ByteArray))])] = [⟨#[120]⟩] := by decide

/-- One hunk of one mark, new. -/
theorem hks_one (w : World) (o p c : Int) (s : ByteArray) : Hks ((w.alloc (.cells #[.int .u8 c, .string s] 29)).alloc (.cells #[.int .i64 o, .int .i64 p, .slice (some ⟨w.heap.size, 0, none⟩) 1 1] 31)) (some ⟨w.heap.size + 1, 0, none⟩) [(o, p, [(c, s)])] := by
  intro i hi
  obtain rfl : i = 0 := by simpa using hi
  have k1 := heap_alloc_new w (.cells #[.int .u8 c, .string s] 29)
  have k2 := heap_alloc_new (w.alloc (.cells #[.int .u8 c, .string s] 29)) (.cells #[.int .i64 o, .int .i64 p, .slice (some ⟨w.heap.size, 0, none⟩) 1 1] 31)
  have hb := below_alloc (w.alloc (.cells #[.int .u8 c, .string s] 29)) (.cells #[.int .i64 o, .int .i64 p, .slice (some ⟨w.heap.size, 0, none⟩) 1 1] 31)
  rw [show (w.alloc (.cells #[.int .u8 c, .string s] 29)).heap.size = w.heap.size + 1 by simp] at k2
  have k3 := blk_below hb (by simp) k1
  refine ⟨w.heap.size + 1, 0, some ⟨w.heap.size, 0, none⟩, 1, rfl, ?_, ?_, ?_, ?_, Nat.le_refl _⟩
  · rw [Lib.cell_of_heap k2]; rfl
  · rw [Lib.cell_of_heap k2]; rfl
  · rw [Lib.cell_of_heap k2]; rfl
  · intro j hj
    obtain rfl : j = 0 := by simpa using hj
    exact ⟨w.heap.size, 0, rfl, by rw [Lib.cell_of_heap k3]; rfl, by rw [Lib.cell_of_heap k3]; rfl⟩

theorem texts_eq (a b : Option Addr) (xs : List ByteArray) (ca cb : Nat) (w : World) (ha : Strs w a xs) (hb : Strs w b xs) (hm : xs.length ≤ maxLen) : Calls Try.prog 14 #[.slice a xs.length ca, .slice b xs.length cb] w fun e w' => e = .returned (.bool true) ∧ Below w.heap.size w w' :=
  (texts_same a b xs xs ca cb w ha hb rfl hm).mono fun e w' ⟨he, n, hw⟩ => ⟨by rw [he]; exact ret_b (decide_eq_true rfl), by rw [hw]; exact below_drawn (Below.refl _ _)⟩

theorem strs_nil (w : World) (a : Option Addr) : Strs w a [] := fun _ hi => absurd hi (Nat.not_lt_zero _)

/-- One line, new. -/
theorem strs_one (w : World) (s : ByteArray) (t : TypeId) : Strs (w.alloc (.cells #[.string s] t)) (some ⟨w.heap.size, 0, none⟩) [s] := by
  intro i hi
  obtain rfl : i = 0 := by simpa using hi
  exact ⟨w.heap.size, 0, rfl, by rw [Lib.cell_of_heap (heap_alloc_new w _)]; rfl⟩

set_option maxRecDepth 100000 in
set_option maxHeartbeats 4000000 in
theorem makes_any (aa ba la : Option Addr) (xs ys : List ByteArray) (l : List Hk) (ca cb cl : Nat) (n : Int) (w : World) (ha : Strs w aa xs) (hb : Strs w ba ys) (hl : Hks w la l)
    (h1 : xs.length ≤ maxLen) (h2 : ys.length ≤ maxLen) (h0 : l.length ≤ maxLen) (h00 : ∀ h ∈ l, h.2.2.length ≤ maxLen) (hca : xs.length ≤ ca) (hcb : ys.length ≤ cb) :
    Calls Try.prog 4 #[.slice aa xs.length ca, .slice ba ys.length cb, .int .i64 n, .slice la l.length cl] w fun e w' => e = .returned (.bool true) ∧ Below w.heap.size w w' := by
  have hfact := strictAny none (some ⟨w.heap.size + 1, 0, none⟩) [] [((0 : Int), (0 : Int), [((43 : Int), (⟨#[120]⟩ : ByteArray))])] 0 1 _ (strs_nil _ _) (hks_one w 0 0 43 ⟨#[120]⟩) (by simp) (by simp; decide) (fun h hh => by simp at hh; rw [hh]; simp; decide) (by simp)
  rw [fact_x.1, fact_x.2, show (0, (0 : Int)).1 = (0 : Nat) from rfl, show ((0 : Nat), (0 : Int)).2 = 0 from rfl, errV_zero] at hfact
  simp only [List.length_cons, List.length_nil, Nat.zero_add] at hfact
  have HW : Hid (Below w.heap.size w ((w.alloc (.cells #[.int .u8 43, .string ⟨#[120]⟩] 29)).alloc (.cells #[.int .i64 0, .int .i64 0, .slice (some ⟨w.heap.size, 0, none⟩) 1 1] 31))) := ((Below.refl _ _).alloc (Nat.le_refl _) _).alloc (by simp) _
  have HMA := fun w h h' => makeAny aa ba xs ys ca cb n w h h' h1 h2
  have HST := fun w h h' => strictAny aa la xs l ca cl w h h' h1 h0 h00 hca
  have HTU := fun w h => turnAny la l cl w h h0 h00
  have SA : Hid (Strs w aa xs) := ha
  have SB : Hid (Strs w ba ys) := hb
  have SL : Hid (Hks w la l) := hl
  have H1 : Hid (xs.length ≤ maxLen) := h1
  have H2 : Hid (ys.length ≤ maxLen) := h2
  have HCA : Hid (xs.length ≤ ca) := hca
  have HCB : Hid (ys.length ≤ cb) := hcb
  obtain ⟨m1, hm1⟩ : ∃ m, xs.length = m := ⟨_, rfl⟩
  obtain ⟨m2, hm2⟩ : ∃ m, ys.length = m := ⟨_, rfl⟩
  obtain ⟨z, hz⟩ : ∃ z, l.length = z := ⟨_, rfl⟩
  have HM1 : Hid (xs.length = m1) := hm1
  have HM2 : Hid (ys.length = m2) := hm2
  rw [hm1, hm2] at HMA
  rw [hm1, hz] at HST
  rw [hz] at HTU
  rw [hm1, hm2, hz]
  clear ha hb hl h1 h2 h0 h00 hca hcb hm1 hm2 hz
  go_enter Try.func4, Try.ntmps4
  go_wp2_with (go_at_call 13; refine hfact.mono ?_)
  rintro e w1 ⟨a1, c1, rfl, hb1, hs1, _⟩
  have hb1 := HW.out.trans (hb1.mono HW.out.size)
  clear hfact HW
  have hbx := below_alloc w1 (.cells #[.string ⟨#[120]⟩] 9)
  have htx := texts_eq a1 (some ⟨w1.heap.size, 0, none⟩) [⟨#[120]⟩] c1 1 _ (hs1.below hbx) (strs_one w1 ⟨#[120]⟩ 9) (by simp; decide)
  simp only [List.length_cons, List.length_nil, Nat.zero_add] at htx
  have hb2 := hb1.trans (hbx.mono hb1.size)
  have HB2 : Hid (Below w.heap.size w (w1.alloc (.cells #[.string ⟨#[120]⟩] 9))) := hb2
  clear hs1 hbx hb2
  go_wp2_with (go_at_call 14; refine htx.mono ?_)
  rintro e w2 ⟨rfl, hb2⟩
  have hb2 := HB2.out.trans (hb2.mono HB2.out.size)
  clear htx HB2 hb1
  have hma := HMA w2 (SA.out.below hb2) (SB.out.below hb2)
  clear HMA
  by_cases hmk : mkf xs ys n = 0
  case' pos =>
    obtain ⟨e1, e2⟩ := stF_make hmk
    obtain ⟨u1, u2⟩ := stF_undo (xs := xs) (l := mOfH xs ys n) (by rw [e1])
    have e3 : stO xs (mOfH xs ys n) = ys := by rw [stO_ok (by rw [e1]), e2]
    rw [e2] at u1 u2
    obtain ⟨_, f2, _, _⟩ := stF_zero (xs := xs) (l := mOfH xs ys n) (by rw [e1])
    have e4 : tOfH (mOfH xs ys n) = trn (mOfH xs ys n) := by unfold tOfH; rw [if_pos f2]
    have hsm := mOfH_small xs ys n
    have hst := tOfH_small (mOfH xs ys n)
    rw [hmk, errV_zero] at hma
    obtain ⟨L, hL⟩ : ∃ L, mOfH xs ys n = L := ⟨_, rfl⟩
    rw [hL] at hma e1 u1 u2 e3 f2 e4 hsm hst
    rw [e4] at hst
    have HS := fun a c w h h' => strictAny aa a xs L ca c w h h' H1.out hsm.1 hsm.2 HCA.out
    have HT := fun a c w h => turnAny a L c w h hsm.1 hsm.2
    have HS2 := fun a c w h h' => strictAny ba a ys (trn L) cb c w h h' H2.out hst.1 hst.2 HCB.out
    rw [e1, e3, show ((0 : Nat), (0 : Int)).1 = 0 from rfl, show ((0 : Nat), (0 : Int)).2 = 0 from rfl, errV_zero, HM1.out, HM2.out] at HS
    rw [e4, f2, errV_zero] at HT
    rw [u1, u2, show ((0 : Nat), (0 : Int)).1 = 0 from rfl, show ((0 : Nat), (0 : Int)).2 = 0 from rfl, errV_zero, HM1.out, HM2.out] at HS2
    obtain ⟨z1, hz1⟩ : ∃ z, L.length = z := ⟨_, rfl⟩
    obtain ⟨z2, hz2⟩ : ∃ z, (trn L).length = z := ⟨_, rfl⟩
    rw [hz1] at hma HS HT
    rw [hz2] at HT HS2
    have HX := fun a b c d w h h' => texts_eq a b xs c d w h h' H1.out
    have HY := fun a b c d w h h' => texts_eq a b ys c d w h h' H2.out
    rw [HM1.out] at HX
    rw [HM2.out] at HY
    clear e1 e2 u1 u2 e3 f2 e4 hsm hst hL hz1 hz2 hmk
    go_wp2_with (go_at_call 15; refine hma.mono ?_)
    rintro e w3 ⟨a3, c3, rfl, hb3, hk3⟩
    have hb3 := hb2.trans (hb3.mono hb2.size)
    have hs := HS a3 c3 w3 (SA.out.below hb3) hk3
    clear hma hb2 HS
    go_wp2_with (go_at_call 13; refine hs.mono ?_)
    rintro e w4 ⟨a4, c4, rfl, hb4, hs4, _⟩
    have hk4 := hk3.below hb4
    have hb4 := hb3.trans (hb4.mono hb3.size)
    have ht := HT a3 c3 w4 hk4
    clear hs hb3 hk3 HT
    go_wp2_with (go_at_call 10; refine ht.mono ?_)
    rintro e w5 ⟨a5, c5, rfl, hb5, hk5⟩
    have hs5 := hs4.below hb5
    have hb5 := hb4.trans (hb5.mono hb4.size)
    have hs := HS2 a5 c5 w5 (SB.out.below hb5) hk5
    clear ht hb4 hk4 hs4 HS2
    go_wp2_with (go_at_call 13; refine hs.mono ?_)
    rintro e w6 ⟨a6, c6, rfl, hb6, hs6, _⟩
    have hs5 := hs5.below hb6
    have hb6 := hb5.trans (hb6.mono hb5.size)
    have hy := HY a4 ba c4 cb w6 hs5 (SB.out.below hb6)
    clear hs hb5 hk5 HY
    go_wp2_with (go_at_call 14; refine hy.mono ?_)
    rintro e w7 ⟨rfl, hb7⟩
    have hs7 := hs6.below hb7
    have hb7 := hb6.trans (hb7.mono hb6.size)
    have hx := HX a6 aa c6 ca w7 hs7 (SA.out.below hb7)
    clear hy hb6 hs6 HX
    go_wp2_with (go_at_call 14; refine hx.mono ?_)
    rintro e w9 ⟨rfl, hb9⟩
    have hb9 := hb7.trans (hb9.mono hb7.size)
    clear hx hb7 hs7
    go_wp2_with fail
  case' neg =>
    rw [errV_not hmk] at hma
    obtain ⟨f, hf'⟩ : ∃ f, mkf xs ys n = f := ⟨_, rfl⟩
    rw [hf'] at hma
    clear hf' hmk
    go_wp2_with (go_at_call 15; refine hma.mono ?_)
    rintro e w9 ⟨a9, c9, rfl, hb9, hk9⟩
    have hb9 := hb2.trans (hb9.mono hb2.size)
    clear hma hb2
    go_wp2_with fail
  all_goals
    have hst := HST w9 (SA.out.below hb9) (SL.out.below hb9)
    clear HST
    by_cases hok : (stF xs l).2 = 0
    · have e0 := stO_ok hok
      obtain ⟨u1, u2⟩ := stF_undo hok
      obtain ⟨k1, k2, k3, k4⟩ := stF_zero hok
      have e4 : tOfH l = trn l := by unfold tOfH; rw [if_pos k2]
      have hsm := tOfH_small l
      rw [hok, errV_zero, e0] at hst
      rw [e4, k2, errV_zero] at HTU
      rw [e4] at hsm
      have HS2 := fun a b c d w h h' hc => strictAny a b (sR xs l) (trn l) c d w h h' (by unfold maxLen; omega) hsm.1 hsm.2 hc
      rw [u1, u2, show ((0 : Nat), (0 : Int)).1 = 0 from rfl, show ((0 : Nat), (0 : Int)).2 = 0 from rfl, errV_zero, HM1.out] at HS2
      have HX := fun a b c d w h h' => texts_eq a b xs c d w h h' H1.out
      rw [HM1.out] at HX
      obtain ⟨Y, hY⟩ : ∃ Y, sR xs l = Y := ⟨_, rfl⟩
      obtain ⟨T, hT⟩ : ∃ T, trn l = T := ⟨_, rfl⟩
      rw [hY] at hst HS2
      rw [hT] at HTU HS2
      obtain ⟨y, hy⟩ : ∃ y, Y.length = y := ⟨_, rfl⟩
      obtain ⟨t, ht⟩ : ∃ t, T.length = t := ⟨_, rfl⟩
      obtain ⟨pl, hpl⟩ : ∃ pl, (stF xs l).1 = pl := ⟨_, rfl⟩
      rw [hy, hpl] at hst
      rw [ht] at HTU HS2
      rw [hy] at HS2
      clear e0 u1 u2 k1 k2 k3 k4 e4 hsm hY hT hy ht hpl hok
      refine hst.mono ?_
      rintro e w10 ⟨a10, c10, rfl, hb10, hs10, hc10⟩
      have hb10 := hb9.trans (hb10.mono hb9.size)
      have htu := HTU w10 (SL.out.below hb10)
      clear hst hb9 HTU
      go_wp2_with (go_at_call 10; refine htu.mono ?_)
      rintro e w11 ⟨a11, c11, rfl, hb11, hk11⟩
      have hs11 := hs10.below hb11
      have hb11 := hb10.trans (hb11.mono hb10.size)
      have hs := HS2 a10 a11 c10 c11 w11 hs11 hk11 hc10
      clear htu hb10 hs10 HS2
      go_wp2_with (go_at_call 13; refine hs.mono ?_)
      rintro e w12 ⟨a12, c12, rfl, hb12, hs12, _⟩
      have hb12 := hb11.trans (hb12.mono hb11.size)
      have hx := HX a12 aa c12 ca w12 hs12 (SA.out.below hb12)
      clear hs hb11 hk11 hs11 HX
      go_wp2_with (go_at_call 14; refine hx.mono ?_)
      rintro e w13 ⟨rfl, hb13⟩
      have hb13 := hb12.trans (hb13.mono hb12.size)
      clear hx hb12
      go_wp2
      go_ret
      exact ⟨rfl, hb13⟩
    · rw [errV_not hok] at hst
      obtain ⟨f, hf'⟩ : ∃ f, (stF xs l).2 = f := ⟨_, rfl⟩
      obtain ⟨pl, hpl⟩ : ∃ pl, (stF xs l).1 = pl := ⟨_, rfl⟩
      rw [hf', hpl] at hst
      clear hf' hpl hok HTU
      refine hst.mono ?_
      rintro e w10 ⟨a10, c10, rfl, hb10, _, _⟩
      have hb10 := hb9.trans (hb10.mono hb9.size)
      clear hst hb9
      go_wp2
      go_ret
      exact ⟨rfl, hb10⟩

end Go.Proofs.Ythcgbbfejdkgaab
