/-
  The walk of the law AlgebraJoins: two patches as one lead where they lead one behind the other; what is between two patches leads from behind the one to behind the other, and turned back.
-/
import Derived.Test.YtnkdmgekpajfhaeDoorAjd
import Derived.Test.YtnkdmgekpajfhaeDoorXn
namespace Go.Proofs.YtnkdmgekpajfhaeDoor
open Go.RowKit Dist

/-- The two patches that the law begins with. -/
def ga : List Ch := [(2, ⟨#[97]⟩, [])]
def gb : List Ch := [(2, ⟨#[98]⟩, [])]
theorem gb_path : pf (⟨#[98]⟩ : ByteArray).data.toList = 0 := by rfl
theorem ga_kf : kf ga = (0, 0) := kf_of (by decide) (List.pairwise_singleton _ _) fun c hc => by rw [List.mem_singleton.1 hc]; rfl
theorem gb_kf : kf gb = (0, 0) := kf_of (by decide) (List.pairwise_singleton _ _) fun c hc => by rw [List.mem_singleton.1 hc]; rfl
theorem tf_nil : tf [] = (0, 0) := tf_of (by simp) List.Pairwise.nil fun x hx => by cases hx
theorem ga_apF : apF [] ga = ([(⟨#[97]⟩, [])], 0, 0) := by
  rw [apF_of (by rw [tf_nil]) (by rw [ga_kf]) (by rfl) (by decide)]
  rfl
theorem tf_ga : tf [(⟨#[97]⟩, [])] = (0, 0) := by
  have := apF_tree (t := []) (p := ga) (by rw [ga_apF])
  rw [ga_apF] at this
  exact Prod.ext (by rfl) this
theorem gb_apF : apF [(⟨#[97]⟩, [])] gb = ([(⟨#[97]⟩, []), (⟨#[98]⟩, [])], 0, 0) := by
  have e : apR [(⟨#[97]⟩, [])] gb 0 = ([(⟨#[97]⟩, []), (⟨#[98]⟩, [])], 0, 0) := by kernel_rfl
  rw [apF_of (by rw [tf_ga]) (by rw [gb_kf]) (by rw [e]) (by rw [e]; decide), e]
theorem f_bhF : bhF [] ga gb false 3 = 0 := by
  rw [bhF_num (by rw [ga_apF]) (by show (apF (apF [] ga).1 gb).2.2 = 0; rw [ga_apF, gb_apF])]
  rfl
theorem f_jnL : (jnL [] ga gb false 3).length = 2 := by
  have h1 : (apF (bhT [] ga false) gb).1 = [(⟨#[97]⟩, []), (⟨#[98]⟩, [])] := by show (apF (apF [] ga).1 gb).1 = _; rw [ga_apF, gb_apF]
  have h2 : (tf [(⟨#[97]⟩, []), (⟨#[98]⟩, [])]).2 = 0 := by
    have := apF_tree (t := [(⟨#[97]⟩, [])]) (p := gb) (by rw [gb_apF])
    rw [gb_apF] at this
    exact this
  unfold jnL
  rw [if_pos f_bhF, h1, if_neg (by decide)]
  show (dfP [] [(⟨#[97]⟩, []), (⟨#[98]⟩, [])] 3).length = 2
  rw [← dfG_dfP (a := []) (b := [(⟨#[97]⟩, []), (⟨#[98]⟩, [])]) (n := 3) (by rw [tf_nil]) h2 (by omega)]
  rfl

theorem chs_one {w : World} {D : Nat} {wh : Int} {p : ByteArray} {t : TypeId} {fr : Nat × Nat} (h : w.heap[D]? = some (.cells #[.int .i64 wh, .string p, .slice none 0 0] t fr)) : Chs w (some ⟨D, 0, none⟩) [(wh, p, [])] := by
  intro i hi
  obtain rfl : i = 0 := by simp at hi; omega
  have c0 := Lib.cell_of_heap h 0
  have c1 := Lib.cell_of_heap h 1
  have c2 := Lib.cell_of_heap h 2
  simp at c0 c1 c2
  exact ⟨D, 0, none, 0, rfl, c0, c1, c2, Hks.nil _ _, Nat.le_refl _⟩

theorem f_mem (w : World) : Chs ((w.alloc (.cells #[.int .i64 2, .string ⟨#[97]⟩, .slice none 0 0] 26)).alloc (.cells #[.int .i64 2, .string ⟨#[98]⟩, .slice none 0 0] 26)) (some ⟨w.heap.size, 0, none⟩) ga ∧ Chs ((w.alloc (.cells #[.int .i64 2, .string ⟨#[97]⟩, .slice none 0 0] 26)).alloc (.cells #[.int .i64 2, .string ⟨#[98]⟩, .slice none 0 0] 26)) (some ⟨w.heap.size + 1, 0, none⟩) gb ∧ Below w.heap.size w ((w.alloc (.cells #[.int .i64 2, .string ⟨#[97]⟩, .slice none 0 0] 26)).alloc (.cells #[.int .i64 2, .string ⟨#[98]⟩, .slice none 0 0] 26)) := by
  have h1 := heap_alloc_new w (.cells #[.int .i64 2, .string ⟨#[97]⟩, .slice none 0 0] 26)
  have b1 := below_alloc w (.cells #[.int .i64 2, .string ⟨#[97]⟩, .slice none 0 0] 26)
  have h2 := heap_alloc_new (w.alloc (.cells #[.int .i64 2, .string ⟨#[97]⟩, .slice none 0 0] 26)) (.cells #[.int .i64 2, .string ⟨#[98]⟩, .slice none 0 0] 26)
  have b2 := below_alloc (w.alloc (.cells #[.int .i64 2, .string ⟨#[97]⟩, .slice none 0 0] 26)) (.cells #[.int .i64 2, .string ⟨#[98]⟩, .slice none 0 0] 26)
  rw [World.size_alloc] at h2
  exact ⟨chs_one (blk_below b2 (by simp) h1), chs_one h2, b1.trans (b2.mono b1.size)⟩

theorem kf_maxS {p : List Ch} (h : (kf p).2 = 0) : p.length ≤ maxLen ∧ (∀ c ∈ p, c.2.2.length ≤ maxLen) ∧ ∀ c ∈ p, ∀ h ∈ c.2.2, h.2.2.length ≤ maxLen := by
  obtain ⟨k1, _, k3⟩ := kf_zero h
  refine ⟨by unfold maxLen; omega, fun c hc => ?_, fun c hc x hx => ?_⟩
  · have := (hf_good (cOne_zero (k3 c hc)).2.2.1).2.1
    unfold maxLen; omega
  · have := (sf_zero ((hf_good (cOne_zero (k3 c hc)).2.2.1).2.2 x hx).1).1
    unfold maxLen; omega

set_option maxRecDepth 100000 in
set_option maxHeartbeats 4000000 in
theorem joins_a (aa : Option Addr) (t : List Fl) (ca : Nat) (ab : Option Addr) (p : List Ch) (cb : Nat) (ad : Option Addr) (q : List Ch) (cd : Nat) (n : Int) (w : World) (ha : Fls w aa t) (hca : t.length ≤ ca) (hm : t.length ≤ maxLen) (hml : ∀ x ∈ t, x.2.length ≤ maxLen) (hb : Chs w ab p) (gm : p.length ≤ maxLen) (gml : ∀ c ∈ p, c.2.2.length ≤ maxLen) (gms : ∀ c ∈ p, ∀ h ∈ c.2.2, h.2.2.length ≤ maxLen) (z1 : (apF t p).2.2 ≠ 0) :
    Calls Tryd.prog 3 #[.slice aa t.length ca, .slice ab p.length cb, .slice ad q.length cd, .int .i64 n] w fun e w' => e = .returned (.bool true) ∧ Below w.heap.size w w' := by
  obtain ⟨fm1, fm2, fm3⟩ := f_mem w
  have hj0 := joinOfA none [] 0 (some ⟨w.heap.size, 0, none⟩) ga 1 (some ⟨w.heap.size + 1, 0, none⟩) gb 1 3 _ (Fls.nil _ _) (Nat.le_refl _) (Nat.zero_le _) (fun x hx => by cases hx) fm1 (by decide) (by decide) (by decide) fm2 (by decide) (by decide) (by decide)
  rw [f_jnL, f_bhF] at hj0
  have HA1 : Hid (∀ w', Below w.heap.size w w' → Calls Tryd.prog 8 #[.slice aa t.length ca, .slice ab p.length cb] w' fun e w'' => ∃ x y, e = .returned (.tuple #[.slice x (apF t p).1.length y, .int .i64 (apF t p).2.1, errV (apF t p).2.2]) ∧ Below w'.heap.size w' w'' ∧ Fls w'' x (apF t p).1 ∧ (apF t p).1.length ≤ y) := fun w' h => patchApply aa t ca ab p cb w' (ha.below h) hca hm hml (hb.below h) gm gml gms
  rw [errV_not z1] at HA1
  obtain ⟨e1, he1⟩ : ∃ x, (apF t p).2.2 = x := ⟨_, rfl⟩
  rw [he1] at HA1
  obtain ⟨i1, hi1⟩ : ∃ x, (apF t p).2.1 = x := ⟨_, rfl⟩
  rw [hi1] at HA1
  obtain ⟨B, hB⟩ : ∃ x, (apF t p).1 = x := ⟨_, rfl⟩
  rw [hB] at HA1
  obtain ⟨nB, hnB⟩ : ∃ x, B.length = x := ⟨_, rfl⟩
  rw [hnB] at HA1
  obtain ⟨nt, hnt⟩ : ∃ x, t.length = x := ⟨_, rfl⟩
  rw [hnt] at HA1
  obtain ⟨np, hnp⟩ : ∃ x, p.length = x := ⟨_, rfl⟩
  rw [hnp] at HA1
  obtain ⟨nq, hnq⟩ : ∃ x, q.length = x := ⟨_, rfl⟩
  rw [hnt, hnp, hnq]
  clear ha hca hm hml hb gm gml gms z1 he1 hi1 hB hnB hnt hnp hnq
  go_enter Tryd.func3, Tryd.ntmps3
  go_wp2_with fail
  generalize ((w.alloc (.cells #[.int .i64 2, .string ⟨#[97]⟩, .slice none 0 0] 26)).alloc (.cells #[.int .i64 2, .string ⟨#[98]⟩, .slice none 0 0] 26)) = W at fm1 fm2 fm3 hj0 ⊢
  have HB0 : Hid (Below w.heap.size w W) := fm3
  clear fm1 fm2 fm3
  go_wp2_with (go_at_call 7; refine hj0.mono ?_)
  rintro e w1 ⟨x0, c0, ev, rfl, _, _, hev, hb1⟩
  obtain rfl : ev = .nilIface := by
    rcases hev with ⟨_, h⟩ | ⟨h, _⟩ | ⟨h, _⟩
    · exact h
    · exact absurd rfl h
    · exact absurd rfl h
  have HB1 : Hid (Below w.heap.size w w1) := HB0.out.trans (hb1.mono HB0.out.size)
  have ha1 := HA1.out w1 HB1.out
  clear hj0 hb1 hev HB0 HA1
  go_wp2_with (go_at_call 8; refine ha1.mono ?_)
  first | rintro e w2 x2 y2 rfl hb2 hf2 hc2 | rintro e w2 ⟨x2, y2, rfl, hb2, hf2, hc2⟩
  have HB2 : Hid (Below w.heap.size w w2) := HB1.out.trans (hb2.mono HB1.out.size)
  clear ha1 hb2 hf2 hc2
  go_wp2
  go_ret
  exact ⟨rfl, HB2.out⟩

set_option maxRecDepth 100000 in
set_option maxHeartbeats 4000000 in
theorem joins_b (aa : Option Addr) (t : List Fl) (ca : Nat) (ab : Option Addr) (p : List Ch) (cb : Nat) (ad : Option Addr) (q : List Ch) (cd : Nat) (n : Int) (w : World) (ha : Fls w aa t) (hca : t.length ≤ ca) (hm : t.length ≤ maxLen) (hml : ∀ x ∈ t, x.2.length ≤ maxLen) (hb : Chs w ab p) (gm : p.length ≤ maxLen) (gml : ∀ c ∈ p, c.2.2.length ≤ maxLen) (gms : ∀ c ∈ p, ∀ h ∈ c.2.2, h.2.2.length ≤ maxLen) (hd : Chs w ad q) (km : q.length ≤ maxLen) (kml : ∀ c ∈ q, c.2.2.length ≤ maxLen) (kms : ∀ c ∈ q, ∀ h ∈ c.2.2, h.2.2.length ≤ maxLen) (z1 : (apF t p).2.2 = 0) (z2 : (apF (apF t p).1 q).2.2 = 0) (zn : n < 0 ∨ 1000 < n) :
    Calls Tryd.prog 3 #[.slice aa t.length ca, .slice ab p.length cb, .slice ad q.length cd, .int .i64 n] w fun e w' => e = .returned (.bool true) ∧ Below w.heap.size w w' := by
  obtain ⟨fm1, fm2, fm3⟩ := f_mem w
  have hj0 := joinOfA none [] 0 (some ⟨w.heap.size, 0, none⟩) ga 1 (some ⟨w.heap.size + 1, 0, none⟩) gb 1 3 _ (Fls.nil _ _) (Nat.le_refl _) (Nat.zero_le _) (fun x hx => by cases hx) fm1 (by decide) (by decide) (by decide) fm2 (by decide) (by decide) (by decide)
  rw [f_jnL, f_bhF] at hj0
  have HA1 : Hid (∀ w', Below w.heap.size w w' → Calls Tryd.prog 8 #[.slice aa t.length ca, .slice ab p.length cb] w' fun e w'' => ∃ x y, e = .returned (.tuple #[.slice x (apF t p).1.length y, .int .i64 (apF t p).2.1, errV (apF t p).2.2]) ∧ Below w'.heap.size w' w'' ∧ Fls w'' x (apF t p).1 ∧ (apF t p).1.length ≤ y) := fun w' h => patchApply aa t ca ab p cb w' (ha.below h) hca hm hml (hb.below h) gm gml gms
  obtain ⟨b1, b2, _⟩ := tf_bounds (apF_tree z1)
  have HA2 : Hid (∀ w' g c, Below w.heap.size w w' → Fls w' g (apF t p).1 → (apF t p).1.length ≤ c → Calls Tryd.prog 8 #[.slice g (apF t p).1.length c, .slice ad q.length cd] w' fun e w'' => ∃ x y, e = .returned (.tuple #[.slice x (apF (apF t p).1 q).1.length y, .int .i64 (apF (apF t p).1 q).2.1, errV (apF (apF t p).1 q).2.2]) ∧ Below w'.heap.size w' w'' ∧ Fls w'' x (apF (apF t p).1 q).1 ∧ (apF (apF t p).1 q).1.length ≤ y) := fun w' g c h hf hc => patchApply g (apF t p).1 c ad q cd w' hf hc b1 b2 (hd.below h) km kml kms
  have hbh : bhF t p q false n = 1 := by rw [bhF_num z1 (by show (apF (apF t p).1 q).2.2 = 0; exact z2), if_pos zn]
  have HJB : Hid (∀ w', Below w.heap.size w w' → Calls Tryd.prog 7 #[.slice aa t.length ca, .slice ab p.length cb, .slice ad q.length cd, .int .i64 n] w' fun e w'' => ∃ x k y u v, e = .returned (.tuple #[.slice x k y, .iface u v]) ∧ Below w'.heap.size w' w'') := fun w' h => (joinOfA aa t ca ab p cb ad q cd n w' (ha.below h) hca hm hml (hb.below h) gm gml gms (hd.below h) km kml kms).mono fun e w'' ⟨x, y, ev, he, _, _, hev, hb⟩ => by
    rw [hbh] at hev
    rcases hev with ⟨h, _⟩ | ⟨_, rfl⟩ | ⟨_, J, g, k, c, rfl, _⟩
    · exact absurd h (by decide)
    · exact ⟨x, _, y, _, _, he, hb⟩
    · exact ⟨x, _, y, _, _, he, hb⟩
  rw [z1, errV_zero] at HA1
  rw [z2, errV_zero] at HA2
  obtain ⟨i1, hi1⟩ : ∃ x, (apF t p).2.1 = x := ⟨_, rfl⟩
  rw [hi1] at HA1
  obtain ⟨i2, hi2⟩ : ∃ x, (apF (apF t p).1 q).2.1 = x := ⟨_, rfl⟩
  rw [hi2] at HA2
  obtain ⟨C, hC⟩ : ∃ x, (apF (apF t p).1 q).1 = x := ⟨_, rfl⟩
  rw [hC] at HA2
  obtain ⟨B, hB⟩ : ∃ x, (apF t p).1 = x := ⟨_, rfl⟩
  rw [hB] at HA1 HA2
  obtain ⟨nB, hnB⟩ : ∃ x, B.length = x := ⟨_, rfl⟩
  rw [hnB] at HA1 HA2
  obtain ⟨nC, hnC⟩ : ∃ x, C.length = x := ⟨_, rfl⟩
  rw [hnC] at HA2
  obtain ⟨nt, hnt⟩ : ∃ x, t.length = x := ⟨_, rfl⟩
  rw [hnt] at HA1 HJB
  obtain ⟨np, hnp⟩ : ∃ x, p.length = x := ⟨_, rfl⟩
  rw [hnp] at HA1 HJB
  obtain ⟨nq, hnq⟩ : ∃ x, q.length = x := ⟨_, rfl⟩
  rw [hnq] at HA2 HJB
  rw [hnt, hnp, hnq]
  clear ha hca hm hml hb gm gml gms hd km kml kms z1 z2 b1 b2 hbh hi1 hi2 hC hB hnB hnC hnt hnp hnq
  go_enter Tryd.func3, Tryd.ntmps3
  go_wp2_with fail
  generalize ((w.alloc (.cells #[.int .i64 2, .string ⟨#[97]⟩, .slice none 0 0] 26)).alloc (.cells #[.int .i64 2, .string ⟨#[98]⟩, .slice none 0 0] 26)) = W at fm1 fm2 fm3 hj0 ⊢
  have HB0 : Hid (Below w.heap.size w W) := fm3
  clear fm1 fm2 fm3
  go_wp2_with (go_at_call 7; refine hj0.mono ?_)
  rintro e w1 ⟨x0, c0, ev, rfl, _, _, hev, hb1⟩
  obtain rfl : ev = .nilIface := by
    rcases hev with ⟨_, h⟩ | ⟨h, _⟩ | ⟨h, _⟩
    · exact h
    · exact absurd rfl h
    · exact absurd rfl h
  have HB1 : Hid (Below w.heap.size w w1) := HB0.out.trans (hb1.mono HB0.out.size)
  have ha1 := HA1.out w1 HB1.out
  clear hj0 hb1 hev HB0 HA1
  go_wp2_with (go_at_call 8; refine ha1.mono ?_)
  first | rintro e w2 x2 y2 rfl hb2 hf2 hc2 | rintro e w2 ⟨x2, y2, rfl, hb2, hf2, hc2⟩
  have HB2 : Hid (Below w.heap.size w w2) := HB1.out.trans (hb2.mono HB1.out.size)
  have ha2 := HA2.out w2 x2 y2 HB2.out hf2 hc2
  have HFB : Hid (Fls w2 x2 B) := hf2
  have HCB : Hid (nB ≤ y2) := hc2
  clear ha1 hb2 hf2 hc2 HA2
  go_wp2_with (go_at_call 8; refine ha2.mono ?_)
  first | rintro e w3 x3 y3 rfl hb3 hf3 hc3 | rintro e w3 ⟨x3, y3, rfl, hb3, hf3, hc3⟩
  have HB3 : Hid (Below w.heap.size w w3) := HB2.out.trans (hb3.mono HB2.out.size)
  have HFB : Hid (Fls w3 x2 B) := HFB.out.below hb3
  have HFC : Hid (Fls w3 x3 C) := hf3
  clear ha2 hb3 hf3 hc3
  have hjb := HJB.out w3 HB3.out
  clear HJB
  go_wp2_with (go_at_call 7; refine hjb.mono ?_)
  first | rintro e w4 x4 k4 y4 u4 v4 rfl hb4 | rintro e w4 ⟨x4, k4, y4, u4, v4, rfl, hb4⟩
  have HB4 : Hid (Below w.heap.size w w4) := HB3.out.trans (hb4.mono HB3.out.size)
  clear hjb hb4
  rcases zn with zn | zn
  · have g1 : decide (n < 0) = true := decide_eq_true zn
    go_wp2
    go_ret
    exact ⟨rfl, HB4.out⟩
  · have g1 : decide (n < 0) = false := decide_eq_false (by omega)
    have g2 : decide (1000 < n) = true := decide_eq_true zn
    go_wp2
    go_ret
    exact ⟨rfl, HB4.out⟩

set_option maxRecDepth 100000 in
set_option maxHeartbeats 4000000 in
theorem joins_c (aa : Option Addr) (t : List Fl) (ca : Nat) (ab : Option Addr) (p : List Ch) (cb : Nat) (ad : Option Addr) (q : List Ch) (cd : Nat) (n : Int) (w : World) (ha : Fls w aa t) (hca : t.length ≤ ca) (hm : t.length ≤ maxLen) (hml : ∀ x ∈ t, x.2.length ≤ maxLen) (hb : Chs w ab p) (gm : p.length ≤ maxLen) (gml : ∀ c ∈ p, c.2.2.length ≤ maxLen) (gms : ∀ c ∈ p, ∀ h ∈ c.2.2, h.2.2.length ≤ maxLen) (hd : Chs w ad q) (km : q.length ≤ maxLen) (kml : ∀ c ∈ q, c.2.2.length ≤ maxLen) (kms : ∀ c ∈ q, ∀ h ∈ c.2.2, h.2.2.length ≤ maxLen) (z1 : (apF t p).2.2 = 0) (z2 : (apF (apF t p).1 q).2.2 = 0) (zn : 0 ≤ n ∧ n ≤ 1000) (z3 : (apF t q).2.2 ≠ 0) :
    Calls Tryd.prog 3 #[.slice aa t.length ca, .slice ab p.length cb, .slice ad q.length cd, .int .i64 n] w fun e w' => e = .returned (.bool true) ∧ Below w.heap.size w w' := by
  obtain ⟨fm1, fm2, fm3⟩ := f_mem w
  have hj0 := joinOfA none [] 0 (some ⟨w.heap.size, 0, none⟩) ga 1 (some ⟨w.heap.size + 1, 0, none⟩) gb 1 3 _ (Fls.nil _ _) (Nat.le_refl _) (Nat.zero_le _) (fun x hx => by cases hx) fm1 (by decide) (by decide) (by decide) fm2 (by decide) (by decide) (by decide)
  rw [f_jnL, f_bhF] at hj0
  obtain ⟨N, rfl⟩ := Int.eq_ofNat_of_zero_le zn.1
  have hN : N ≤ 1000 := by omega
  have HA1 : Hid (∀ w', Below w.heap.size w w' → Calls Tryd.prog 8 #[.slice aa t.length ca, .slice ab p.length cb] w' fun e w'' => ∃ x y, e = .returned (.tuple #[.slice x (apF t p).1.length y, .int .i64 (apF t p).2.1, errV (apF t p).2.2]) ∧ Below w'.heap.size w' w'' ∧ Fls w'' x (apF t p).1 ∧ (apF t p).1.length ≤ y) := fun w' h => patchApply aa t ca ab p cb w' (ha.below h) hca hm hml (hb.below h) gm gml gms
  obtain ⟨b1, b2, _⟩ := tf_bounds (apF_tree z1)
  have HA2 : Hid (∀ w' g c, Below w.heap.size w w' → Fls w' g (apF t p).1 → (apF t p).1.length ≤ c → Calls Tryd.prog 8 #[.slice g (apF t p).1.length c, .slice ad q.length cd] w' fun e w'' => ∃ x y, e = .returned (.tuple #[.slice x (apF (apF t p).1 q).1.length y, .int .i64 (apF (apF t p).1 q).2.1, errV (apF (apF t p).1 q).2.2]) ∧ Below w'.heap.size w' w'' ∧ Fls w'' x (apF (apF t p).1 q).1 ∧ (apF (apF t p).1 q).1.length ≤ y) := fun w' g c h hf hc => patchApply g (apF t p).1 c ad q cd w' hf hc b1 b2 (hd.below h) km kml kms
  have hbh : bhF t p q false (N : Int) = 0 := by rw [bhF_num z1 (by show (apF (apF t p).1 q).2.2 = 0; exact z2), if_neg (by omega)]
  have t0 := (apF_zero z1).1
  have tC := apF_tree z2
  obtain ⟨c1, c2, _⟩ := tf_bounds tC
  have hL : jnL t p q false (N : Int) = dfP t (apF (apF t p).1 q).1 N := by unfold jnL; rw [if_pos hbh, if_neg (by decide)]; rfl
  have hkP := kf_dfP t0 tC hN
  obtain ⟨p1, p2, p3⟩ := kf_maxS (p := dfP t (apF (apF t p).1 q).1 N) (by rw [hkP])
  have hapP := apF_dfP t0 tC hN
  have HJN : Hid (∀ w', Below w.heap.size w w' → Calls Tryd.prog 7 #[.slice aa t.length ca, .slice ab p.length cb, .slice ad q.length cd, .int .i64 N] w' fun e w'' => ∃ x y, e = .returned (.tuple #[.slice x (dfP t (apF (apF t p).1 q).1 N).length y, .nilIface]) ∧ Below w'.heap.size w' w'' ∧ Chs w'' x (dfP t (apF (apF t p).1 q).1 N)) := fun w' h => (joinOfA aa t ca ab p cb ad q cd N w' (ha.below h) hca hm hml (hb.below h) gm gml gms (hd.below h) km kml kms).mono fun e w'' ⟨x, y, ev, he, hc, _, hev, hb⟩ => by
    rw [hL] at he hc
    rw [hbh] at hev
    rcases hev with ⟨_, rfl⟩ | ⟨h, _⟩ | ⟨h, _⟩
    · exact ⟨x, y, he, hb, hc⟩
    · exact absurd rfl h
    · exact absurd rfl h
  have HA3 : Hid (∀ w' x y, Below w.heap.size w w' → Chs w' x (dfP t (apF (apF t p).1 q).1 N) → Calls Tryd.prog 8 #[.slice aa t.length ca, .slice x (dfP t (apF (apF t p).1 q).1 N).length y] w' fun e w'' => ∃ g c, e = .returned (.tuple #[.slice g (apF (apF t p).1 q).1.length c, .int .i64 0, .nilIface]) ∧ Below w'.heap.size w' w'' ∧ Fls w'' g (apF (apF t p).1 q).1) := fun w' x y h hc => (patchApply aa t ca x _ y w' (ha.below h) hca hm hml hc p1 p2 p3).mono fun e w'' ⟨g, c, he, hb, hf, _⟩ => ⟨g, c, by rw [he, hapP]; rfl, hb, by rw [hapP] at hf; exact hf⟩
  have HT1 : Hid (∀ w' g c g' c', Fls w' g (apF (apF t p).1 q).1 → Fls w' g' (apF (apF t p).1 q).1 → Calls Tryd.prog 9 #[.slice g (apF (apF t p).1 q).1.length c, .slice g' (apF (apF t p).1 q).1.length c'] w' fun e w'' => e = .returned (.bool true) ∧ Below w'.heap.size w' w'') := fun w' g c g' c' h1 h2 => trees_eq g g' _ c c' w' h1 h2 c1 c2
  have HA4 : Hid (∀ w', Below w.heap.size w w' → Calls Tryd.prog 8 #[.slice aa t.length ca, .slice ad q.length cd] w' fun e w'' => ∃ x y, e = .returned (.tuple #[.slice x (apF t q).1.length y, .int .i64 (apF t q).2.1, errV (apF t q).2.2]) ∧ Below w'.heap.size w' w'' ∧ Fls w'' x (apF t q).1 ∧ (apF t q).1.length ≤ y) := fun w' h => patchApply aa t ca ad q cd w' (ha.below h) hca hm hml (hd.below h) km kml kms
  rw [z1, errV_zero] at HA1
  rw [z2, errV_zero] at HA2
  rw [errV_not z3] at HA4
  obtain ⟨e3, he3⟩ : ∃ x, (apF t q).2.2 = x := ⟨_, rfl⟩
  rw [he3] at HA4
  obtain ⟨i1, hi1⟩ : ∃ x, (apF t p).2.1 = x := ⟨_, rfl⟩
  rw [hi1] at HA1
  obtain ⟨i2, hi2⟩ : ∃ x, (apF (apF t p).1 q).2.1 = x := ⟨_, rfl⟩
  rw [hi2] at HA2
  obtain ⟨i3, hi3⟩ : ∃ x, (apF t q).2.1 = x := ⟨_, rfl⟩
  rw [hi3] at HA4
  obtain ⟨P, hP⟩ : ∃ x, dfP t (apF (apF t p).1 q).1 N = x := ⟨_, rfl⟩
  rw [hP] at HJN HA3
  obtain ⟨C, hC⟩ : ∃ x, (apF (apF t p).1 q).1 = x := ⟨_, rfl⟩
  rw [hC] at HA2 HA3 HT1
  obtain ⟨B, hB⟩ : ∃ x, (apF t p).1 = x := ⟨_, rfl⟩
  rw [hB] at HA1 HA2
  obtain ⟨D, hD⟩ : ∃ x, (apF t q).1 = x := ⟨_, rfl⟩
  rw [hD] at HA4
  obtain ⟨nB, hnB⟩ : ∃ x, B.length = x := ⟨_, rfl⟩
  rw [hnB] at HA1 HA2
  obtain ⟨nC, hnC⟩ : ∃ x, C.length = x := ⟨_, rfl⟩
  rw [hnC] at HA2 HA3 HT1
  obtain ⟨nD, hnD⟩ : ∃ x, D.length = x := ⟨_, rfl⟩
  rw [hnD] at HA4
  obtain ⟨nP, hnP⟩ : ∃ x, P.length = x := ⟨_, rfl⟩
  rw [hnP] at HJN HA3
  obtain ⟨nt, hnt⟩ : ∃ x, t.length = x := ⟨_, rfl⟩
  rw [hnt] at HA1 HJN HA3 HA4
  obtain ⟨np, hnp⟩ : ∃ x, p.length = x := ⟨_, rfl⟩
  rw [hnp] at HA1 HJN
  obtain ⟨nq, hnq⟩ : ∃ x, q.length = x := ⟨_, rfl⟩
  rw [hnq] at HA2 HJN HA4
  rw [hnt, hnp, hnq]
  clear ha hca hm hml hb gm gml gms hd km kml kms z1 z2 b1 b2 z3 hbh t0 tC c1 c2 hL hkP p1 p2 p3 hapP zn hN he3 hi1 hi2 hi3 hP hC hB hD hnB hnC hnD hnP hnt hnp hnq
  have gn1 : ¬ ((N : Int) < 0) := by omega
  have gn2 : True := trivial
  go_enter Tryd.func3, Tryd.ntmps3
  go_wp2_with fail
  generalize ((w.alloc (.cells #[.int .i64 2, .string ⟨#[97]⟩, .slice none 0 0] 26)).alloc (.cells #[.int .i64 2, .string ⟨#[98]⟩, .slice none 0 0] 26)) = W at fm1 fm2 fm3 hj0 ⊢
  have HB0 : Hid (Below w.heap.size w W) := fm3
  clear fm1 fm2 fm3
  go_wp2_with (go_at_call 7; refine hj0.mono ?_)
  rintro e w1 ⟨x0, c0, ev, rfl, _, _, hev, hb1⟩
  obtain rfl : ev = .nilIface := by
    rcases hev with ⟨_, h⟩ | ⟨h, _⟩ | ⟨h, _⟩
    · exact h
    · exact absurd rfl h
    · exact absurd rfl h
  have HB1 : Hid (Below w.heap.size w w1) := HB0.out.trans (hb1.mono HB0.out.size)
  have ha1 := HA1.out w1 HB1.out
  clear hj0 hb1 hev HB0 HA1
  go_wp2_with (go_at_call 8; refine ha1.mono ?_)
  first | rintro e w2 x2 y2 rfl hb2 hf2 hc2 | rintro e w2 ⟨x2, y2, rfl, hb2, hf2, hc2⟩
  have HB2 : Hid (Below w.heap.size w w2) := HB1.out.trans (hb2.mono HB1.out.size)
  have ha2 := HA2.out w2 x2 y2 HB2.out hf2 hc2
  have HFB : Hid (Fls w2 x2 B) := hf2
  have HCB : Hid (nB ≤ y2) := hc2
  clear ha1 hb2 hf2 hc2 HA2
  go_wp2_with (go_at_call 8; refine ha2.mono ?_)
  first | rintro e w3 x3 y3 rfl hb3 hf3 hc3 | rintro e w3 ⟨x3, y3, rfl, hb3, hf3, hc3⟩
  have HB3 : Hid (Below w.heap.size w w3) := HB2.out.trans (hb3.mono HB2.out.size)
  have HFB : Hid (Fls w3 x2 B) := HFB.out.below hb3
  have HFC : Hid (Fls w3 x3 C) := hf3
  clear ha2 hb3 hf3 hc3
  have hjn := HJN.out w3 HB3.out
  clear HJN
  go_wp2_with (go_at_call 7; refine hjn.mono ?_)
  first | rintro e w4 x4 y4 rfl hb4 hc4 | rintro e w4 ⟨x4, y4, rfl, hb4, hc4⟩
  have HB4 : Hid (Below w.heap.size w w4) := HB3.out.trans (hb4.mono HB3.out.size)
  have HFB : Hid (Fls w4 x2 B) := HFB.out.below hb4
  have HFC : Hid (Fls w4 x3 C) := HFC.out.below hb4
  have ha3 := HA3.out w4 x4 y4 HB4.out hc4
  clear hjn hb4 hc4 HA3
  go_wp2_with (go_at_call 8; refine ha3.mono ?_)
  first | rintro e w5 x5 y5 rfl hb5 hf5 | rintro e w5 ⟨x5, y5, rfl, hb5, hf5⟩
  have HB5 : Hid (Below w.heap.size w w5) := HB4.out.trans (hb5.mono HB4.out.size)
  have HFB : Hid (Fls w5 x2 B) := HFB.out.below hb5
  have ht1 := HT1.out w5 x5 y5 x3 y3 hf5 (HFC.out.below hb5)
  clear ha3 hb5 hf5 HT1 HFC
  go_wp2_with (go_at_call 9; refine ht1.mono ?_)
  rintro e w6 ⟨rfl, hb6⟩
  have HB6 : Hid (Below w.heap.size w w6) := HB5.out.trans (hb6.mono HB5.out.size)
  have HFB : Hid (Fls w6 x2 B) := HFB.out.below hb6
  clear ht1 hb6
  have ha4 := HA4.out w6 HB6.out
  clear HA4
  go_wp2_with (go_at_call 8; refine ha4.mono ?_)
  first | rintro e w7 x7 y7 rfl hb7 hf7 hc7 | rintro e w7 ⟨x7, y7, rfl, hb7, hf7, hc7⟩
  have HB7 : Hid (Below w.heap.size w w7) := HB6.out.trans (hb7.mono HB6.out.size)
  clear ha4 hb7 hf7 hc7
  go_wp2
  go_ret
  exact ⟨rfl, HB7.out⟩

set_option maxRecDepth 100000 in
set_option maxHeartbeats 4000000 in
theorem joins_d (aa : Option Addr) (t : List Fl) (ca : Nat) (ab : Option Addr) (p : List Ch) (cb : Nat) (ad : Option Addr) (q : List Ch) (cd : Nat) (n : Int) (w : World) (ha : Fls w aa t) (hca : t.length ≤ ca) (hm : t.length ≤ maxLen) (hml : ∀ x ∈ t, x.2.length ≤ maxLen) (hb : Chs w ab p) (gm : p.length ≤ maxLen) (gml : ∀ c ∈ p, c.2.2.length ≤ maxLen) (gms : ∀ c ∈ p, ∀ h ∈ c.2.2, h.2.2.length ≤ maxLen) (hd : Chs w ad q) (km : q.length ≤ maxLen) (kml : ∀ c ∈ q, c.2.2.length ≤ maxLen) (kms : ∀ c ∈ q, ∀ h ∈ c.2.2, h.2.2.length ≤ maxLen) (z1 : (apF t p).2.2 = 0) (z2 : (apF (apF t p).1 q).2.2 = 0) (zn : 0 ≤ n ∧ n ≤ 1000) (z3 : (apF t q).2.2 = 0) :
    Calls Tryd.prog 3 #[.slice aa t.length ca, .slice ab p.length cb, .slice ad q.length cd, .int .i64 n] w fun e w' => e = .returned (.bool true) ∧ Below w.heap.size w w' := by
  obtain ⟨fm1, fm2, fm3⟩ := f_mem w
  have hj0 := joinOfA none [] 0 (some ⟨w.heap.size, 0, none⟩) ga 1 (some ⟨w.heap.size + 1, 0, none⟩) gb 1 3 _ (Fls.nil _ _) (Nat.le_refl _) (Nat.zero_le _) (fun x hx => by cases hx) fm1 (by decide) (by decide) (by decide) fm2 (by decide) (by decide) (by decide)
  rw [f_jnL, f_bhF] at hj0
  obtain ⟨N, rfl⟩ := Int.eq_ofNat_of_zero_le zn.1
  have hN : N ≤ 1000 := by omega
  have HA1 : Hid (∀ w', Below w.heap.size w w' → Calls Tryd.prog 8 #[.slice aa t.length ca, .slice ab p.length cb] w' fun e w'' => ∃ x y, e = .returned (.tuple #[.slice x (apF t p).1.length y, .int .i64 (apF t p).2.1, errV (apF t p).2.2]) ∧ Below w'.heap.size w' w'' ∧ Fls w'' x (apF t p).1 ∧ (apF t p).1.length ≤ y) := fun w' h => patchApply aa t ca ab p cb w' (ha.below h) hca hm hml (hb.below h) gm gml gms
  obtain ⟨b1, b2, _⟩ := tf_bounds (apF_tree z1)
  have HA2 : Hid (∀ w' g c, Below w.heap.size w w' → Fls w' g (apF t p).1 → (apF t p).1.length ≤ c → Calls Tryd.prog 8 #[.slice g (apF t p).1.length c, .slice ad q.length cd] w' fun e w'' => ∃ x y, e = .returned (.tuple #[.slice x (apF (apF t p).1 q).1.length y, .int .i64 (apF (apF t p).1 q).2.1, errV (apF (apF t p).1 q).2.2]) ∧ Below w'.heap.size w' w'' ∧ Fls w'' x (apF (apF t p).1 q).1 ∧ (apF (apF t p).1 q).1.length ≤ y) := fun w' g c h hf hc => patchApply g (apF t p).1 c ad q cd w' hf hc b1 b2 (hd.below h) km kml kms
  have hbh : bhF t p q false (N : Int) = 0 := by rw [bhF_num z1 (by show (apF (apF t p).1 q).2.2 = 0; exact z2), if_neg (by omega)]
  have t0 := (apF_zero z1).1
  have tC := apF_tree z2
  obtain ⟨c1, c2, _⟩ := tf_bounds tC
  have hL : jnL t p q false (N : Int) = dfP t (apF (apF t p).1 q).1 N := by unfold jnL; rw [if_pos hbh, if_neg (by decide)]; rfl
  have hkP := kf_dfP t0 tC hN
  obtain ⟨p1, p2, p3⟩ := kf_maxS (p := dfP t (apF (apF t p).1 q).1 N) (by rw [hkP])
  have hapP := apF_dfP t0 tC hN
  have HJN : Hid (∀ w', Below w.heap.size w w' → Calls Tryd.prog 7 #[.slice aa t.length ca, .slice ab p.length cb, .slice ad q.length cd, .int .i64 N] w' fun e w'' => ∃ x y, e = .returned (.tuple #[.slice x (dfP t (apF (apF t p).1 q).1 N).length y, .nilIface]) ∧ Below w'.heap.size w' w'' ∧ Chs w'' x (dfP t (apF (apF t p).1 q).1 N)) := fun w' h => (joinOfA aa t ca ab p cb ad q cd N w' (ha.below h) hca hm hml (hb.below h) gm gml gms (hd.below h) km kml kms).mono fun e w'' ⟨x, y, ev, he, hc, _, hev, hb⟩ => by
    rw [hL] at he hc
    rw [hbh] at hev
    rcases hev with ⟨_, rfl⟩ | ⟨h, _⟩ | ⟨h, _⟩
    · exact ⟨x, y, he, hb, hc⟩
    · exact absurd rfl h
    · exact absurd rfl h
  have HA3 : Hid (∀ w' x y, Below w.heap.size w w' → Chs w' x (dfP t (apF (apF t p).1 q).1 N) → Calls Tryd.prog 8 #[.slice aa t.length ca, .slice x (dfP t (apF (apF t p).1 q).1 N).length y] w' fun e w'' => ∃ g c, e = .returned (.tuple #[.slice g (apF (apF t p).1 q).1.length c, .int .i64 0, .nilIface]) ∧ Below w'.heap.size w' w'' ∧ Fls w'' g (apF (apF t p).1 q).1) := fun w' x y h hc => (patchApply aa t ca x _ y w' (ha.below h) hca hm hml hc p1 p2 p3).mono fun e w'' ⟨g, c, he, hb, hf, _⟩ => ⟨g, c, by rw [he, hapP]; rfl, hb, by rw [hapP] at hf; exact hf⟩
  have HT1 : Hid (∀ w' g c g' c', Fls w' g (apF (apF t p).1 q).1 → Fls w' g' (apF (apF t p).1 q).1 → Calls Tryd.prog 9 #[.slice g (apF (apF t p).1 q).1.length c, .slice g' (apF (apF t p).1 q).1.length c'] w' fun e w'' => e = .returned (.bool true) ∧ Below w'.heap.size w' w'') := fun w' g c g' c' h1 h2 => trees_eq g g' _ c c' w' h1 h2 c1 c2
  have HA4 : Hid (∀ w', Below w.heap.size w w' → Calls Tryd.prog 8 #[.slice aa t.length ca, .slice ad q.length cd] w' fun e w'' => ∃ x y, e = .returned (.tuple #[.slice x (apF t q).1.length y, .int .i64 (apF t q).2.1, errV (apF t q).2.2]) ∧ Below w'.heap.size w' w'' ∧ Fls w'' x (apF t q).1 ∧ (apF t q).1.length ≤ y) := fun w' h => patchApply aa t ca ad q cd w' (ha.below h) hca hm hml (hd.below h) km kml kms
  have hbi : bhF t p q true (N : Int) = 0 := by rw [bhF_num z1 (by show (apF t q).2.2 = 0; exact z3), if_neg (by omega)]
  have tB := apF_tree z1
  have tD := apF_tree z3
  obtain ⟨d1, d2, _⟩ := tf_bounds tD
  have hI : jnL t p q true (N : Int) = dfP (apF t p).1 (apF t q).1 N := by unfold jnL; rw [if_pos hbi, if_pos rfl]; rfl
  have hkQ := kf_dfP tB tD hN
  obtain ⟨q1, q2, q3⟩ := kf_maxS (p := dfP (apF t p).1 (apF t q).1 N) (by rw [hkQ])
  have hapQ := apF_dfP tB tD hN
  have hbkQ := apF_back tB tD hN
  have HIN : Hid (∀ w', Below w.heap.size w w' → Calls Tryd.prog 10 #[.slice aa t.length ca, .slice ab p.length cb, .slice ad q.length cd, .int .i64 N] w' fun e w'' => ∃ x y, e = .returned (.tuple #[.slice x (dfP (apF t p).1 (apF t q).1 N).length y, .nilIface]) ∧ Below w'.heap.size w' w'' ∧ Chs w'' x (dfP (apF t p).1 (apF t q).1 N)) := fun w' h => (interOfA aa t ca ab p cb ad q cd N w' (ha.below h) hca hm hml (hb.below h) gm gml gms (hd.below h) km kml kms).mono fun e w'' ⟨x, y, ev, he, hc, _, hev, hb⟩ => by
    rw [hI] at he hc
    rw [hbi] at hev
    rcases hev with ⟨_, rfl⟩ | ⟨h, _⟩ | ⟨h, _⟩
    · exact ⟨x, y, he, hb, hc⟩
    · exact absurd rfl h
    · exact absurd rfl h
  have HA5 : Hid (∀ w' g c x y, Fls w' g (apF t p).1 → (apF t p).1.length ≤ c → Chs w' x (dfP (apF t p).1 (apF t q).1 N) → Calls Tryd.prog 8 #[.slice g (apF t p).1.length c, .slice x (dfP (apF t p).1 (apF t q).1 N).length y] w' fun e w'' => ∃ g c, e = .returned (.tuple #[.slice g (apF t q).1.length c, .int .i64 0, .nilIface]) ∧ Below w'.heap.size w' w'' ∧ Fls w'' g (apF t q).1) := fun w' g c x y hf hc hx => (patchApply g _ c x _ y w' hf hc b1 b2 hx q1 q2 q3).mono fun e w'' ⟨g, c, he, hb, hf, _⟩ => ⟨g, c, by rw [he, hapQ]; rfl, hb, by rw [hapQ] at hf; exact hf⟩
  have hTQ : tOfP (dfP (apF t p).1 (apF t q).1 N) = trP (dfP (apF t p).1 (apF t q).1 N) := by unfold tOfP; rw [if_pos (by rw [hkQ])]
  obtain ⟨r1, r2, r3⟩ := tOfP_max (dfP (apF t p).1 (apF t q).1 N)
  rw [hTQ] at r1 r2 r3
  have HTU : Hid (∀ w' x y, Chs w' x (dfP (apF t p).1 (apF t q).1 N) → Calls Tryd.prog 11 #[.slice x (dfP (apF t p).1 (apF t q).1 N).length y] w' fun e w'' => ∃ x' y', e = .returned (.tuple #[.slice x' (trP (dfP (apF t p).1 (apF t q).1 N)).length y', .nilIface]) ∧ Below w'.heap.size w' w'' ∧ Chs w'' x' (trP (dfP (apF t p).1 (apF t q).1 N))) := fun w' x y hx => (patchTurn x _ y w' hx q1 q2 q3).mono fun e w'' ⟨a'', c'', he, hb, hc, _⟩ => ⟨a'', c'', by rw [he, hTQ, hkQ]; rfl, hb, by rw [← hTQ]; exact hc⟩
  have HA6 : Hid (∀ w' g c x y, Fls w' g (apF t q).1 → (apF t q).1.length ≤ c → Chs w' x (trP (dfP (apF t p).1 (apF t q).1 N)) → Calls Tryd.prog 8 #[.slice g (apF t q).1.length c, .slice x (trP (dfP (apF t p).1 (apF t q).1 N)).length y] w' fun e w'' => ∃ g c, e = .returned (.tuple #[.slice g (apF t p).1.length c, .int .i64 0, .nilIface]) ∧ Below w'.heap.size w' w'' ∧ Fls w'' g (apF t p).1) := fun w' g c x y hf hc hx => (patchApply g _ c x _ y w' hf hc d1 d2 hx r1 r2 r3).mono fun e w'' ⟨g, c, he, hb, hf, _⟩ => ⟨g, c, by rw [he, hbkQ]; rfl, hb, by rw [hbkQ] at hf; exact hf⟩
  have HT2 : Hid (∀ w' g c g' c', Fls w' g (apF t q).1 → Fls w' g' (apF t q).1 → Calls Tryd.prog 9 #[.slice g (apF t q).1.length c, .slice g' (apF t q).1.length c'] w' fun e w'' => e = .returned (.bool true) ∧ Below w'.heap.size w' w'') := fun w' g c g' c' h1 h2 => trees_eq g g' _ c c' w' h1 h2 d1 d2
  have HT3 : Hid (∀ w' g c g' c', Fls w' g (apF t p).1 → Fls w' g' (apF t p).1 → Calls Tryd.prog 9 #[.slice g (apF t p).1.length c, .slice g' (apF t p).1.length c'] w' fun e w'' => e = .returned (.bool true) ∧ Below w'.heap.size w' w'') := fun w' g c g' c' h1 h2 => trees_eq g g' _ c c' w' h1 h2 b1 b2
  rw [z1, errV_zero] at HA1
  rw [z2, errV_zero] at HA2
  rw [z3, errV_zero] at HA4
  obtain ⟨i1, hi1⟩ : ∃ x, (apF t p).2.1 = x := ⟨_, rfl⟩
  rw [hi1] at HA1
  obtain ⟨i2, hi2⟩ : ∃ x, (apF (apF t p).1 q).2.1 = x := ⟨_, rfl⟩
  rw [hi2] at HA2
  obtain ⟨i3, hi3⟩ : ∃ x, (apF t q).2.1 = x := ⟨_, rfl⟩
  rw [hi3] at HA4
  obtain ⟨P, hP⟩ : ∃ x, dfP t (apF (apF t p).1 q).1 N = x := ⟨_, rfl⟩
  rw [hP] at HJN HA3
  obtain ⟨Q, hQ⟩ : ∃ x, dfP (apF t p).1 (apF t q).1 N = x := ⟨_, rfl⟩
  rw [hQ] at HIN HA5 HTU HA6
  obtain ⟨R, hR⟩ : ∃ x, trP Q = x := ⟨_, rfl⟩
  rw [hR] at HTU HA6
  obtain ⟨C, hC⟩ : ∃ x, (apF (apF t p).1 q).1 = x := ⟨_, rfl⟩
  rw [hC] at HA2 HA3 HT1
  obtain ⟨B, hB⟩ : ∃ x, (apF t p).1 = x := ⟨_, rfl⟩
  rw [hB] at HA1 HA2 HA5 HA6 HT3
  obtain ⟨D, hD⟩ : ∃ x, (apF t q).1 = x := ⟨_, rfl⟩
  rw [hD] at HA4 HA5 HA6 HT2
  obtain ⟨nB, hnB⟩ : ∃ x, B.length = x := ⟨_, rfl⟩
  rw [hnB] at HA1 HA2 HA5 HA6 HT3
  obtain ⟨nC, hnC⟩ : ∃ x, C.length = x := ⟨_, rfl⟩
  rw [hnC] at HA2 HA3 HT1
  obtain ⟨nD, hnD⟩ : ∃ x, D.length = x := ⟨_, rfl⟩
  rw [hnD] at HA4 HA5 HA6 HT2
  obtain ⟨nP, hnP⟩ : ∃ x, P.length = x := ⟨_, rfl⟩
  rw [hnP] at HJN HA3
  obtain ⟨nQ, hnQ⟩ : ∃ x, Q.length = x := ⟨_, rfl⟩
  rw [hnQ] at HIN HA5 HTU
  obtain ⟨nR, hnR⟩ : ∃ x, R.length = x := ⟨_, rfl⟩
  rw [hnR] at HTU HA6
  obtain ⟨nt, hnt⟩ : ∃ x, t.length = x := ⟨_, rfl⟩
  rw [hnt] at HA1 HJN HA3 HA4 HIN
  obtain ⟨np, hnp⟩ : ∃ x, p.length = x := ⟨_, rfl⟩
  rw [hnp] at HA1 HJN HIN
  obtain ⟨nq, hnq⟩ : ∃ x, q.length = x := ⟨_, rfl⟩
  rw [hnq] at HA2 HJN HA4 HIN
  rw [hnt, hnp, hnq]
  clear ha hca hm hml hb gm gml gms hd km kml kms z1 z2 b1 b2 z3 hbh t0 tC c1 c2 hL hkP p1 p2 p3 hapP hbi tB tD d1 d2 hI hkQ q1 q2 q3 hapQ hbkQ hTQ r1 r2 r3 zn hN hi1 hi2 hi3 hP hQ hR hC hB hD hnB hnC hnD hnP hnQ hnR hnt hnp hnq
  have gn1 : ¬ ((N : Int) < 0) := by omega
  have gn2 : True := trivial
  go_enter Tryd.func3, Tryd.ntmps3
  go_wp2_with fail
  generalize ((w.alloc (.cells #[.int .i64 2, .string ⟨#[97]⟩, .slice none 0 0] 26)).alloc (.cells #[.int .i64 2, .string ⟨#[98]⟩, .slice none 0 0] 26)) = W at fm1 fm2 fm3 hj0 ⊢
  have HB0 : Hid (Below w.heap.size w W) := fm3
  clear fm1 fm2 fm3
  go_wp2_with (go_at_call 7; refine hj0.mono ?_)
  rintro e w1 ⟨x0, c0, ev, rfl, _, _, hev, hb1⟩
  obtain rfl : ev = .nilIface := by
    rcases hev with ⟨_, h⟩ | ⟨h, _⟩ | ⟨h, _⟩
    · exact h
    · exact absurd rfl h
    · exact absurd rfl h
  have HB1 : Hid (Below w.heap.size w w1) := HB0.out.trans (hb1.mono HB0.out.size)
  have ha1 := HA1.out w1 HB1.out
  clear hj0 hb1 hev HB0 HA1
  go_wp2_with (go_at_call 8; refine ha1.mono ?_)
  first | rintro e w2 x2 y2 rfl hb2 hf2 hc2 | rintro e w2 ⟨x2, y2, rfl, hb2, hf2, hc2⟩
  have HB2 : Hid (Below w.heap.size w w2) := HB1.out.trans (hb2.mono HB1.out.size)
  have ha2 := HA2.out w2 x2 y2 HB2.out hf2 hc2
  have HFB : Hid (Fls w2 x2 B) := hf2
  have HCB : Hid (nB ≤ y2) := hc2
  clear ha1 hb2 hf2 hc2 HA2
  go_wp2_with (go_at_call 8; refine ha2.mono ?_)
  first | rintro e w3 x3 y3 rfl hb3 hf3 hc3 | rintro e w3 ⟨x3, y3, rfl, hb3, hf3, hc3⟩
  have HB3 : Hid (Below w.heap.size w w3) := HB2.out.trans (hb3.mono HB2.out.size)
  have HFB : Hid (Fls w3 x2 B) := HFB.out.below hb3
  have HFC : Hid (Fls w3 x3 C) := hf3
  clear ha2 hb3 hf3 hc3
  have hjn := HJN.out w3 HB3.out
  clear HJN
  go_wp2_with (go_at_call 7; refine hjn.mono ?_)
  first | rintro e w4 x4 y4 rfl hb4 hc4 | rintro e w4 ⟨x4, y4, rfl, hb4, hc4⟩
  have HB4 : Hid (Below w.heap.size w w4) := HB3.out.trans (hb4.mono HB3.out.size)
  have HFB : Hid (Fls w4 x2 B) := HFB.out.below hb4
  have HFC : Hid (Fls w4 x3 C) := HFC.out.below hb4
  have ha3 := HA3.out w4 x4 y4 HB4.out hc4
  clear hjn hb4 hc4 HA3
  go_wp2_with (go_at_call 8; refine ha3.mono ?_)
  first | rintro e w5 x5 y5 rfl hb5 hf5 | rintro e w5 ⟨x5, y5, rfl, hb5, hf5⟩
  have HB5 : Hid (Below w.heap.size w w5) := HB4.out.trans (hb5.mono HB4.out.size)
  have HFB : Hid (Fls w5 x2 B) := HFB.out.below hb5
  have ht1 := HT1.out w5 x5 y5 x3 y3 hf5 (HFC.out.below hb5)
  clear ha3 hb5 hf5 HT1 HFC
  go_wp2_with (go_at_call 9; refine ht1.mono ?_)
  rintro e w6 ⟨rfl, hb6⟩
  have HB6 : Hid (Below w.heap.size w w6) := HB5.out.trans (hb6.mono HB5.out.size)
  have HFB : Hid (Fls w6 x2 B) := HFB.out.below hb6
  clear ht1 hb6
  have ha4 := HA4.out w6 HB6.out
  clear HA4
  go_wp2_with (go_at_call 8; refine ha4.mono ?_)
  first | rintro e w7 x7 y7 rfl hb7 hf7 hc7 | rintro e w7 ⟨x7, y7, rfl, hb7, hf7, hc7⟩
  have HB7 : Hid (Below w.heap.size w w7) := HB6.out.trans (hb7.mono HB6.out.size)
  have HFB : Hid (Fls w7 x2 B) := HFB.out.below hb7
  have HFD : Hid (Fls w7 x7 D) := hf7
  have HCD : Hid (nD ≤ y7) := hc7
  clear ha4 hb7 hf7 hc7
  have hin := HIN.out w7 HB7.out
  clear HIN
  go_wp2_with (go_at_call 10; refine hin.mono ?_)
  first | rintro e w8 x8 y8 rfl hb8 hc8 | rintro e w8 ⟨x8, y8, rfl, hb8, hc8⟩
  have HB8 : Hid (Below w.heap.size w w8) := HB7.out.trans (hb8.mono HB7.out.size)
  have HFB : Hid (Fls w8 x2 B) := HFB.out.below hb8
  have HFD : Hid (Fls w8 x7 D) := HFD.out.below hb8
  have HXQ : Hid (Chs w8 x8 Q) := hc8
  have ha5 := HA5.out w8 x2 y2 x8 y8 HFB.out HCB.out hc8
  clear hin hb8 hc8 HA5
  go_wp2_with (go_at_call 8; refine ha5.mono ?_)
  first | rintro e w9 x9 y9 rfl hb9 hf9 | rintro e w9 ⟨x9, y9, rfl, hb9, hf9⟩
  have HB9 : Hid (Below w.heap.size w w9) := HB8.out.trans (hb9.mono HB8.out.size)
  have HFB : Hid (Fls w9 x2 B) := HFB.out.below hb9
  have HFD : Hid (Fls w9 x7 D) := HFD.out.below hb9
  have HFY : Hid (Fls w9 x9 D) := hf9
  have htu := HTU.out w9 x8 y8 (HXQ.out.below hb9)
  clear ha5 hb9 hf9 HTU HXQ
  go_wp2_with (go_at_call 11; refine htu.mono ?_)
  first | rintro e w10 x10 y10 rfl hb10 hc10 | rintro e w10 ⟨x10, y10, rfl, hb10, hc10⟩
  have HB10 : Hid (Below w.heap.size w w10) := HB9.out.trans (hb10.mono HB9.out.size)
  have HFB : Hid (Fls w10 x2 B) := HFB.out.below hb10
  have HFD : Hid (Fls w10 x7 D) := HFD.out.below hb10
  have HFY : Hid (Fls w10 x9 D) := HFY.out.below hb10
  have ha6 := HA6.out w10 x7 y7 x10 y10 HFD.out HCD.out hc10
  clear htu hb10 hc10 HA6
  go_wp2_with (go_at_call 8; refine ha6.mono ?_)
  first | rintro e w11 x11 y11 rfl hb11 hf11 | rintro e w11 ⟨x11, y11, rfl, hb11, hf11⟩
  have HB11 : Hid (Below w.heap.size w w11) := HB10.out.trans (hb11.mono HB10.out.size)
  have HFB : Hid (Fls w11 x2 B) := HFB.out.below hb11
  have HFZ : Hid (Fls w11 x11 B) := hf11
  have ht2 := HT2.out w11 x9 y9 x7 y7 (HFY.out.below hb11) (HFD.out.below hb11)
  clear ha6 hb11 hf11 HT2 HFY HFD
  go_wp2_with (go_at_call 9; refine ht2.mono ?_)
  first | rintro e w12 rfl hb12 | rintro e w12 ⟨rfl, hb12⟩
  have HB12 : Hid (Below w.heap.size w w12) := HB11.out.trans (hb12.mono HB11.out.size)
  have ht3 := HT3.out w12 x11 y11 x2 y2 (HFZ.out.below hb12) (HFB.out.below hb12)
  clear ht2 hb12 HT3 HFZ HFB
  go_wp2_with (go_at_call 9; refine ht3.mono ?_)
  first | rintro e w13 rfl hb13 | rintro e w13 ⟨rfl, hb13⟩
  have HB13 : Hid (Below w.heap.size w w13) := HB12.out.trans (hb13.mono HB12.out.size)
  clear ht3 hb13
  go_wp2
  go_ret
  exact ⟨rfl, HB13.out⟩

set_option maxRecDepth 100000 in
set_option maxHeartbeats 4000000 in
theorem joins_e (aa : Option Addr) (t : List Fl) (ca : Nat) (ab : Option Addr) (p : List Ch) (cb : Nat) (ad : Option Addr) (q : List Ch) (cd : Nat) (n : Int) (w : World) (ha : Fls w aa t) (hca : t.length ≤ ca) (hm : t.length ≤ maxLen) (hml : ∀ x ∈ t, x.2.length ≤ maxLen) (hb : Chs w ab p) (gm : p.length ≤ maxLen) (gml : ∀ c ∈ p, c.2.2.length ≤ maxLen) (gms : ∀ c ∈ p, ∀ h ∈ c.2.2, h.2.2.length ≤ maxLen) (hd : Chs w ad q) (km : q.length ≤ maxLen) (kml : ∀ c ∈ q, c.2.2.length ≤ maxLen) (kms : ∀ c ∈ q, ∀ h ∈ c.2.2, h.2.2.length ≤ maxLen) (z1 : (apF t p).2.2 = 0) (z2 : (apF (apF t p).1 q).2.2 ≠ 0) (z3 : (apF t q).2.2 ≠ 0) :
    Calls Tryd.prog 3 #[.slice aa t.length ca, .slice ab p.length cb, .slice ad q.length cd, .int .i64 n] w fun e w' => e = .returned (.bool true) ∧ Below w.heap.size w w' := by
  obtain ⟨fm1, fm2, fm3⟩ := f_mem w
  have hj0 := joinOfA none [] 0 (some ⟨w.heap.size, 0, none⟩) ga 1 (some ⟨w.heap.size + 1, 0, none⟩) gb 1 3 _ (Fls.nil _ _) (Nat.le_refl _) (Nat.zero_le _) (fun x hx => by cases hx) fm1 (by decide) (by decide) (by decide) fm2 (by decide) (by decide) (by decide)
  rw [f_jnL, f_bhF] at hj0
  have HA1 : Hid (∀ w', Below w.heap.size w w' → Calls Tryd.prog 8 #[.slice aa t.length ca, .slice ab p.length cb] w' fun e w'' => ∃ x y, e = .returned (.tuple #[.slice x (apF t p).1.length y, .int .i64 (apF t p).2.1, errV (apF t p).2.2]) ∧ Below w'.heap.size w' w'' ∧ Fls w'' x (apF t p).1 ∧ (apF t p).1.length ≤ y) := fun w' h => patchApply aa t ca ab p cb w' (ha.below h) hca hm hml (hb.below h) gm gml gms
  obtain ⟨b1, b2, _⟩ := tf_bounds (apF_tree z1)
  have HA2 : Hid (∀ w' g c, Below w.heap.size w w' → Fls w' g (apF t p).1 → (apF t p).1.length ≤ c → Calls Tryd.prog 8 #[.slice g (apF t p).1.length c, .slice ad q.length cd] w' fun e w'' => ∃ x y, e = .returned (.tuple #[.slice x (apF (apF t p).1 q).1.length y, .int .i64 (apF (apF t p).1 q).2.1, errV (apF (apF t p).1 q).2.2]) ∧ Below w'.heap.size w' w'' ∧ Fls w'' x (apF (apF t p).1 q).1 ∧ (apF (apF t p).1 q).1.length ≤ y) := fun w' g c h hf hc => patchApply g (apF t p).1 c ad q cd w' hf hc b1 b2 (hd.below h) km kml kms
  have HA4 : Hid (∀ w', Below w.heap.size w w' → Calls Tryd.prog 8 #[.slice aa t.length ca, .slice ad q.length cd] w' fun e w'' => ∃ x y, e = .returned (.tuple #[.slice x (apF t q).1.length y, .int .i64 (apF t q).2.1, errV (apF t q).2.2]) ∧ Below w'.heap.size w' w'' ∧ Fls w'' x (apF t q).1 ∧ (apF t q).1.length ≤ y) := fun w' h => patchApply aa t ca ad q cd w' (ha.below h) hca hm hml (hd.below h) km kml kms
  rw [z1, errV_zero] at HA1
  rw [errV_not z2] at HA2
  rw [errV_not z3] at HA4
  obtain ⟨e2, he2⟩ : ∃ x, (apF (apF t p).1 q).2.2 = x := ⟨_, rfl⟩
  rw [he2] at HA2
  obtain ⟨e3, he3⟩ : ∃ x, (apF t q).2.2 = x := ⟨_, rfl⟩
  rw [he3] at HA4
  obtain ⟨i1, hi1⟩ : ∃ x, (apF t p).2.1 = x := ⟨_, rfl⟩
  rw [hi1] at HA1
  obtain ⟨i2, hi2⟩ : ∃ x, (apF (apF t p).1 q).2.1 = x := ⟨_, rfl⟩
  rw [hi2] at HA2
  obtain ⟨i3, hi3⟩ : ∃ x, (apF t q).2.1 = x := ⟨_, rfl⟩
  rw [hi3] at HA4
  obtain ⟨C, hC⟩ : ∃ x, (apF (apF t p).1 q).1 = x := ⟨_, rfl⟩
  rw [hC] at HA2
  obtain ⟨B, hB⟩ : ∃ x, (apF t p).1 = x := ⟨_, rfl⟩
  rw [hB] at HA1 HA2
  obtain ⟨D, hD⟩ : ∃ x, (apF t q).1 = x := ⟨_, rfl⟩
  rw [hD] at HA4
  obtain ⟨nB, hnB⟩ : ∃ x, B.length = x := ⟨_, rfl⟩
  rw [hnB] at HA1 HA2
  obtain ⟨nC, hnC⟩ : ∃ x, C.length = x := ⟨_, rfl⟩
  rw [hnC] at HA2
  obtain ⟨nD, hnD⟩ : ∃ x, D.length = x := ⟨_, rfl⟩
  rw [hnD] at HA4
  obtain ⟨nt, hnt⟩ : ∃ x, t.length = x := ⟨_, rfl⟩
  rw [hnt] at HA1 HA4
  obtain ⟨np, hnp⟩ : ∃ x, p.length = x := ⟨_, rfl⟩
  rw [hnp] at HA1
  obtain ⟨nq, hnq⟩ : ∃ x, q.length = x := ⟨_, rfl⟩
  rw [hnq] at HA2 HA4
  rw [hnt, hnp, hnq]
  clear ha hca hm hml hb gm gml gms hd km kml kms z1 z2 b1 b2 z3 he2 he3 hi1 hi2 hi3 hC hB hD hnB hnC hnD hnt hnp hnq
  go_enter Tryd.func3, Tryd.ntmps3
  go_wp2_with fail
  generalize ((w.alloc (.cells #[.int .i64 2, .string ⟨#[97]⟩, .slice none 0 0] 26)).alloc (.cells #[.int .i64 2, .string ⟨#[98]⟩, .slice none 0 0] 26)) = W at fm1 fm2 fm3 hj0 ⊢
  have HB0 : Hid (Below w.heap.size w W) := fm3
  clear fm1 fm2 fm3
  go_wp2_with (go_at_call 7; refine hj0.mono ?_)
  rintro e w1 ⟨x0, c0, ev, rfl, _, _, hev, hb1⟩
  obtain rfl : ev = .nilIface := by
    rcases hev with ⟨_, h⟩ | ⟨h, _⟩ | ⟨h, _⟩
    · exact h
    · exact absurd rfl h
    · exact absurd rfl h
  have HB1 : Hid (Below w.heap.size w w1) := HB0.out.trans (hb1.mono HB0.out.size)
  have ha1 := HA1.out w1 HB1.out
  clear hj0 hb1 hev HB0 HA1
  go_wp2_with (go_at_call 8; refine ha1.mono ?_)
  first | rintro e w2 x2 y2 rfl hb2 hf2 hc2 | rintro e w2 ⟨x2, y2, rfl, hb2, hf2, hc2⟩
  have HB2 : Hid (Below w.heap.size w w2) := HB1.out.trans (hb2.mono HB1.out.size)
  have ha2 := HA2.out w2 x2 y2 HB2.out hf2 hc2
  have HFB : Hid (Fls w2 x2 B) := hf2
  have HCB : Hid (nB ≤ y2) := hc2
  clear ha1 hb2 hf2 hc2 HA2
  go_wp2_with (go_at_call 8; refine ha2.mono ?_)
  first | rintro e w3 x3 y3 rfl hb3 hf3 hc3 | rintro e w3 ⟨x3, y3, rfl, hb3, hf3, hc3⟩
  have HB3 : Hid (Below w.heap.size w w3) := HB2.out.trans (hb3.mono HB2.out.size)
  have HFB : Hid (Fls w3 x2 B) := HFB.out.below hb3
  have HFC : Hid (Fls w3 x3 C) := hf3
  clear ha2 hb3 hf3 hc3
  clear HFC
  have ha4 := HA4.out w3 HB3.out
  clear HA4
  go_wp2_with (go_at_call 8; refine ha4.mono ?_)
  first | rintro e w4 x4 y4 rfl hb4 hf4 hc4 | rintro e w4 ⟨x4, y4, rfl, hb4, hf4, hc4⟩
  have HB4 : Hid (Below w.heap.size w w4) := HB3.out.trans (hb4.mono HB3.out.size)
  clear ha4 hb4 hf4 hc4
  go_wp2
  go_ret
  exact ⟨rfl, HB4.out⟩

set_option maxRecDepth 100000 in
set_option maxHeartbeats 4000000 in
theorem joins_f (aa : Option Addr) (t : List Fl) (ca : Nat) (ab : Option Addr) (p : List Ch) (cb : Nat) (ad : Option Addr) (q : List Ch) (cd : Nat) (n : Int) (w : World) (ha : Fls w aa t) (hca : t.length ≤ ca) (hm : t.length ≤ maxLen) (hml : ∀ x ∈ t, x.2.length ≤ maxLen) (hb : Chs w ab p) (gm : p.length ≤ maxLen) (gml : ∀ c ∈ p, c.2.2.length ≤ maxLen) (gms : ∀ c ∈ p, ∀ h ∈ c.2.2, h.2.2.length ≤ maxLen) (hd : Chs w ad q) (km : q.length ≤ maxLen) (kml : ∀ c ∈ q, c.2.2.length ≤ maxLen) (kms : ∀ c ∈ q, ∀ h ∈ c.2.2, h.2.2.length ≤ maxLen) (z1 : (apF t p).2.2 = 0) (z2 : (apF (apF t p).1 q).2.2 ≠ 0) (zn : n < 0 ∨ 1000 < n) (z3 : (apF t q).2.2 = 0) :
    Calls Tryd.prog 3 #[.slice aa t.length ca, .slice ab p.length cb, .slice ad q.length cd, .int .i64 n] w fun e w' => e = .returned (.bool true) ∧ Below w.heap.size w w' := by
  obtain ⟨fm1, fm2, fm3⟩ := f_mem w
  have hj0 := joinOfA none [] 0 (some ⟨w.heap.size, 0, none⟩) ga 1 (some ⟨w.heap.size + 1, 0, none⟩) gb 1 3 _ (Fls.nil _ _) (Nat.le_refl _) (Nat.zero_le _) (fun x hx => by cases hx) fm1 (by decide) (by decide) (by decide) fm2 (by decide) (by decide) (by decide)
  rw [f_jnL, f_bhF] at hj0
  have HA1 : Hid (∀ w', Below w.heap.size w w' → Calls Tryd.prog 8 #[.slice aa t.length ca, .slice ab p.length cb] w' fun e w'' => ∃ x y, e = .returned (.tuple #[.slice x (apF t p).1.length y, .int .i64 (apF t p).2.1, errV (apF t p).2.2]) ∧ Below w'.heap.size w' w'' ∧ Fls w'' x (apF t p).1 ∧ (apF t p).1.length ≤ y) := fun w' h => patchApply aa t ca ab p cb w' (ha.below h) hca hm hml (hb.below h) gm gml gms
  obtain ⟨b1, b2, _⟩ := tf_bounds (apF_tree z1)
  have HA2 : Hid (∀ w' g c, Below w.heap.size w w' → Fls w' g (apF t p).1 → (apF t p).1.length ≤ c → Calls Tryd.prog 8 #[.slice g (apF t p).1.length c, .slice ad q.length cd] w' fun e w'' => ∃ x y, e = .returned (.tuple #[.slice x (apF (apF t p).1 q).1.length y, .int .i64 (apF (apF t p).1 q).2.1, errV (apF (apF t p).1 q).2.2]) ∧ Below w'.heap.size w' w'' ∧ Fls w'' x (apF (apF t p).1 q).1 ∧ (apF (apF t p).1 q).1.length ≤ y) := fun w' g c h hf hc => patchApply g (apF t p).1 c ad q cd w' hf hc b1 b2 (hd.below h) km kml kms
  have HA4 : Hid (∀ w', Below w.heap.size w w' → Calls Tryd.prog 8 #[.slice aa t.length ca, .slice ad q.length cd] w' fun e w'' => ∃ x y, e = .returned (.tuple #[.slice x (apF t q).1.length y, .int .i64 (apF t q).2.1, errV (apF t q).2.2]) ∧ Below w'.heap.size w' w'' ∧ Fls w'' x (apF t q).1 ∧ (apF t q).1.length ≤ y) := fun w' h => patchApply aa t ca ad q cd w' (ha.below h) hca hm hml (hd.below h) km kml kms
  have hbi : bhF t p q true n = 1 := by rw [bhF_num z1 (by show (apF t q).2.2 = 0; exact z3), if_pos zn]
  have HIB : Hid (∀ w', Below w.heap.size w w' → Calls Tryd.prog 10 #[.slice aa t.length ca, .slice ab p.length cb, .slice ad q.length cd, .int .i64 n] w' fun e w'' => ∃ x k y u v, e = .returned (.tuple #[.slice x k y, .iface u v]) ∧ Below w'.heap.size w' w'') := fun w' h => (interOfA aa t ca ab p cb ad q cd n w' (ha.below h) hca hm hml (hb.below h) gm gml gms (hd.below h) km kml kms).mono fun e w'' ⟨x, y, ev, he, _, _, hev, hb⟩ => by
    rw [hbi] at hev
    rcases hev with ⟨h, _⟩ | ⟨_, rfl⟩ | ⟨_, J, g, k, c, rfl, _⟩
    · exact absurd h (by decide)
    · exact ⟨x, _, y, _, _, he, hb⟩
    · exact ⟨x, _, y, _, _, he, hb⟩
  rw [z1, errV_zero] at HA1
  rw [errV_not z2] at HA2
  rw [z3, errV_zero] at HA4
  obtain ⟨e2, he2⟩ : ∃ x, (apF (apF t p).1 q).2.2 = x := ⟨_, rfl⟩
  rw [he2] at HA2
  obtain ⟨i1, hi1⟩ : ∃ x, (apF t p).2.1 = x := ⟨_, rfl⟩
  rw [hi1] at HA1
  obtain ⟨i2, hi2⟩ : ∃ x, (apF (apF t p).1 q).2.1 = x := ⟨_, rfl⟩
  rw [hi2] at HA2
  obtain ⟨i3, hi3⟩ : ∃ x, (apF t q).2.1 = x := ⟨_, rfl⟩
  rw [hi3] at HA4
  obtain ⟨C, hC⟩ : ∃ x, (apF (apF t p).1 q).1 = x := ⟨_, rfl⟩
  rw [hC] at HA2
  obtain ⟨B, hB⟩ : ∃ x, (apF t p).1 = x := ⟨_, rfl⟩
  rw [hB] at HA1 HA2
  obtain ⟨D, hD⟩ : ∃ x, (apF t q).1 = x := ⟨_, rfl⟩
  rw [hD] at HA4
  obtain ⟨nB, hnB⟩ : ∃ x, B.length = x := ⟨_, rfl⟩
  rw [hnB] at HA1 HA2
  obtain ⟨nC, hnC⟩ : ∃ x, C.length = x := ⟨_, rfl⟩
  rw [hnC] at HA2
  obtain ⟨nD, hnD⟩ : ∃ x, D.length = x := ⟨_, rfl⟩
  rw [hnD] at HA4
  obtain ⟨nt, hnt⟩ : ∃ x, t.length = x := ⟨_, rfl⟩
  rw [hnt] at HA1 HA4 HIB
  obtain ⟨np, hnp⟩ : ∃ x, p.length = x := ⟨_, rfl⟩
  rw [hnp] at HA1 HIB
  obtain ⟨nq, hnq⟩ : ∃ x, q.length = x := ⟨_, rfl⟩
  rw [hnq] at HA2 HA4 HIB
  rw [hnt, hnp, hnq]
  clear ha hca hm hml hb gm gml gms hd km kml kms z1 z2 b1 b2 z3 hbi he2 hi1 hi2 hi3 hC hB hD hnB hnC hnD hnt hnp hnq
  go_enter Tryd.func3, Tryd.ntmps3
  go_wp2_with fail
  generalize ((w.alloc (.cells #[.int .i64 2, .string ⟨#[97]⟩, .slice none 0 0] 26)).alloc (.cells #[.int .i64 2, .string ⟨#[98]⟩, .slice none 0 0] 26)) = W at fm1 fm2 fm3 hj0 ⊢
  have HB0 : Hid (Below w.heap.size w W) := fm3
  clear fm1 fm2 fm3
  go_wp2_with (go_at_call 7; refine hj0.mono ?_)
  rintro e w1 ⟨x0, c0, ev, rfl, _, _, hev, hb1⟩
  obtain rfl : ev = .nilIface := by
    rcases hev with ⟨_, h⟩ | ⟨h, _⟩ | ⟨h, _⟩
    · exact h
    · exact absurd rfl h
    · exact absurd rfl h
  have HB1 : Hid (Below w.heap.size w w1) := HB0.out.trans (hb1.mono HB0.out.size)
  have ha1 := HA1.out w1 HB1.out
  clear hj0 hb1 hev HB0 HA1
  go_wp2_with (go_at_call 8; refine ha1.mono ?_)
  first | rintro e w2 x2 y2 rfl hb2 hf2 hc2 | rintro e w2 ⟨x2, y2, rfl, hb2, hf2, hc2⟩
  have HB2 : Hid (Below w.heap.size w w2) := HB1.out.trans (hb2.mono HB1.out.size)
  have ha2 := HA2.out w2 x2 y2 HB2.out hf2 hc2
  have HFB : Hid (Fls w2 x2 B) := hf2
  have HCB : Hid (nB ≤ y2) := hc2
  clear ha1 hb2 hf2 hc2 HA2
  go_wp2_with (go_at_call 8; refine ha2.mono ?_)
  first | rintro e w3 x3 y3 rfl hb3 hf3 hc3 | rintro e w3 ⟨x3, y3, rfl, hb3, hf3, hc3⟩
  have HB3 : Hid (Below w.heap.size w w3) := HB2.out.trans (hb3.mono HB2.out.size)
  have HFB : Hid (Fls w3 x2 B) := HFB.out.below hb3
  have HFC : Hid (Fls w3 x3 C) := hf3
  clear ha2 hb3 hf3 hc3
  clear HFC
  have ha4 := HA4.out w3 HB3.out
  clear HA4
  go_wp2_with (go_at_call 8; refine ha4.mono ?_)
  first | rintro e w4 x4 y4 rfl hb4 hf4 hc4 | rintro e w4 ⟨x4, y4, rfl, hb4, hf4, hc4⟩
  have HB4 : Hid (Below w.heap.size w w4) := HB3.out.trans (hb4.mono HB3.out.size)
  have HFB : Hid (Fls w4 x2 B) := HFB.out.below hb4
  have HFD : Hid (Fls w4 x4 D) := hf4
  have HCD : Hid (nD ≤ y4) := hc4
  clear ha4 hb4 hf4 hc4
  have hib := HIB.out w4 HB4.out
  clear HIB
  go_wp2_with (go_at_call 10; refine hib.mono ?_)
  first | rintro e w5 x5 k5 y5 u5 v5 rfl hb5 | rintro e w5 ⟨x5, k5, y5, u5, v5, rfl, hb5⟩
  have HB5 : Hid (Below w.heap.size w w5) := HB4.out.trans (hb5.mono HB4.out.size)
  clear hib hb5
  rcases zn with zn | zn
  · have g1 : decide (n < 0) = true := decide_eq_true zn
    go_wp2
    go_ret
    exact ⟨rfl, HB5.out⟩
  · have g1 : decide (n < 0) = false := decide_eq_false (by omega)
    have g2 : decide (1000 < n) = true := decide_eq_true zn
    go_wp2
    go_ret
    exact ⟨rfl, HB5.out⟩

set_option maxRecDepth 100000 in
set_option maxHeartbeats 4000000 in
theorem joins_g (aa : Option Addr) (t : List Fl) (ca : Nat) (ab : Option Addr) (p : List Ch) (cb : Nat) (ad : Option Addr) (q : List Ch) (cd : Nat) (n : Int) (w : World) (ha : Fls w aa t) (hca : t.length ≤ ca) (hm : t.length ≤ maxLen) (hml : ∀ x ∈ t, x.2.length ≤ maxLen) (hb : Chs w ab p) (gm : p.length ≤ maxLen) (gml : ∀ c ∈ p, c.2.2.length ≤ maxLen) (gms : ∀ c ∈ p, ∀ h ∈ c.2.2, h.2.2.length ≤ maxLen) (hd : Chs w ad q) (km : q.length ≤ maxLen) (kml : ∀ c ∈ q, c.2.2.length ≤ maxLen) (kms : ∀ c ∈ q, ∀ h ∈ c.2.2, h.2.2.length ≤ maxLen) (z1 : (apF t p).2.2 = 0) (z2 : (apF (apF t p).1 q).2.2 ≠ 0) (zn : 0 ≤ n ∧ n ≤ 1000) (z3 : (apF t q).2.2 = 0) :
    Calls Tryd.prog 3 #[.slice aa t.length ca, .slice ab p.length cb, .slice ad q.length cd, .int .i64 n] w fun e w' => e = .returned (.bool true) ∧ Below w.heap.size w w' := by
  obtain ⟨fm1, fm2, fm3⟩ := f_mem w
  have hj0 := joinOfA none [] 0 (some ⟨w.heap.size, 0, none⟩) ga 1 (some ⟨w.heap.size + 1, 0, none⟩) gb 1 3 _ (Fls.nil _ _) (Nat.le_refl _) (Nat.zero_le _) (fun x hx => by cases hx) fm1 (by decide) (by decide) (by decide) fm2 (by decide) (by decide) (by decide)
  rw [f_jnL, f_bhF] at hj0
  obtain ⟨N, rfl⟩ := Int.eq_ofNat_of_zero_le zn.1
  have hN : N ≤ 1000 := by omega
  have HA1 : Hid (∀ w', Below w.heap.size w w' → Calls Tryd.prog 8 #[.slice aa t.length ca, .slice ab p.length cb] w' fun e w'' => ∃ x y, e = .returned (.tuple #[.slice x (apF t p).1.length y, .int .i64 (apF t p).2.1, errV (apF t p).2.2]) ∧ Below w'.heap.size w' w'' ∧ Fls w'' x (apF t p).1 ∧ (apF t p).1.length ≤ y) := fun w' h => patchApply aa t ca ab p cb w' (ha.below h) hca hm hml (hb.below h) gm gml gms
  obtain ⟨b1, b2, _⟩ := tf_bounds (apF_tree z1)
  have HA2 : Hid (∀ w' g c, Below w.heap.size w w' → Fls w' g (apF t p).1 → (apF t p).1.length ≤ c → Calls Tryd.prog 8 #[.slice g (apF t p).1.length c, .slice ad q.length cd] w' fun e w'' => ∃ x y, e = .returned (.tuple #[.slice x (apF (apF t p).1 q).1.length y, .int .i64 (apF (apF t p).1 q).2.1, errV (apF (apF t p).1 q).2.2]) ∧ Below w'.heap.size w' w'' ∧ Fls w'' x (apF (apF t p).1 q).1 ∧ (apF (apF t p).1 q).1.length ≤ y) := fun w' g c h hf hc => patchApply g (apF t p).1 c ad q cd w' hf hc b1 b2 (hd.below h) km kml kms
  have HA4 : Hid (∀ w', Below w.heap.size w w' → Calls Tryd.prog 8 #[.slice aa t.length ca, .slice ad q.length cd] w' fun e w'' => ∃ x y, e = .returned (.tuple #[.slice x (apF t q).1.length y, .int .i64 (apF t q).2.1, errV (apF t q).2.2]) ∧ Below w'.heap.size w' w'' ∧ Fls w'' x (apF t q).1 ∧ (apF t q).1.length ≤ y) := fun w' h => patchApply aa t ca ad q cd w' (ha.below h) hca hm hml (hd.below h) km kml kms
  have hbi : bhF t p q true (N : Int) = 0 := by rw [bhF_num z1 (by show (apF t q).2.2 = 0; exact z3), if_neg (by omega)]
  have tB := apF_tree z1
  have tD := apF_tree z3
  obtain ⟨d1, d2, _⟩ := tf_bounds tD
  have hI : jnL t p q true (N : Int) = dfP (apF t p).1 (apF t q).1 N := by unfold jnL; rw [if_pos hbi, if_pos rfl]; rfl
  have hkQ := kf_dfP tB tD hN
  obtain ⟨q1, q2, q3⟩ := kf_maxS (p := dfP (apF t p).1 (apF t q).1 N) (by rw [hkQ])
  have hapQ := apF_dfP tB tD hN
  have hbkQ := apF_back tB tD hN
  have HIN : Hid (∀ w', Below w.heap.size w w' → Calls Tryd.prog 10 #[.slice aa t.length ca, .slice ab p.length cb, .slice ad q.length cd, .int .i64 N] w' fun e w'' => ∃ x y, e = .returned (.tuple #[.slice x (dfP (apF t p).1 (apF t q).1 N).length y, .nilIface]) ∧ Below w'.heap.size w' w'' ∧ Chs w'' x (dfP (apF t p).1 (apF t q).1 N)) := fun w' h => (interOfA aa t ca ab p cb ad q cd N w' (ha.below h) hca hm hml (hb.below h) gm gml gms (hd.below h) km kml kms).mono fun e w'' ⟨x, y, ev, he, hc, _, hev, hb⟩ => by
    rw [hI] at he hc
    rw [hbi] at hev
    rcases hev with ⟨_, rfl⟩ | ⟨h, _⟩ | ⟨h, _⟩
    · exact ⟨x, y, he, hb, hc⟩
    · exact absurd rfl h
    · exact absurd rfl h
  have HA5 : Hid (∀ w' g c x y, Fls w' g (apF t p).1 → (apF t p).1.length ≤ c → Chs w' x (dfP (apF t p).1 (apF t q).1 N) → Calls Tryd.prog 8 #[.slice g (apF t p).1.length c, .slice x (dfP (apF t p).1 (apF t q).1 N).length y] w' fun e w'' => ∃ g c, e = .returned (.tuple #[.slice g (apF t q).1.length c, .int .i64 0, .nilIface]) ∧ Below w'.heap.size w' w'' ∧ Fls w'' g (apF t q).1) := fun w' g c x y hf hc hx => (patchApply g _ c x _ y w' hf hc b1 b2 hx q1 q2 q3).mono fun e w'' ⟨g, c, he, hb, hf, _⟩ => ⟨g, c, by rw [he, hapQ]; rfl, hb, by rw [hapQ] at hf; exact hf⟩
  have hTQ : tOfP (dfP (apF t p).1 (apF t q).1 N) = trP (dfP (apF t p).1 (apF t q).1 N) := by unfold tOfP; rw [if_pos (by rw [hkQ])]
  obtain ⟨r1, r2, r3⟩ := tOfP_max (dfP (apF t p).1 (apF t q).1 N)
  rw [hTQ] at r1 r2 r3
  have HTU : Hid (∀ w' x y, Chs w' x (dfP (apF t p).1 (apF t q).1 N) → Calls Tryd.prog 11 #[.slice x (dfP (apF t p).1 (apF t q).1 N).length y] w' fun e w'' => ∃ x' y', e = .returned (.tuple #[.slice x' (trP (dfP (apF t p).1 (apF t q).1 N)).length y', .nilIface]) ∧ Below w'.heap.size w' w'' ∧ Chs w'' x' (trP (dfP (apF t p).1 (apF t q).1 N))) := fun w' x y hx => (patchTurn x _ y w' hx q1 q2 q3).mono fun e w'' ⟨a'', c'', he, hb, hc, _⟩ => ⟨a'', c'', by rw [he, hTQ, hkQ]; rfl, hb, by rw [← hTQ]; exact hc⟩
  have HA6 : Hid (∀ w' g c x y, Fls w' g (apF t q).1 → (apF t q).1.length ≤ c → Chs w' x (trP (dfP (apF t p).1 (apF t q).1 N)) → Calls Tryd.prog 8 #[.slice g (apF t q).1.length c, .slice x (trP (dfP (apF t p).1 (apF t q).1 N)).length y] w' fun e w'' => ∃ g c, e = .returned (.tuple #[.slice g (apF t p).1.length c, .int .i64 0, .nilIface]) ∧ Below w'.heap.size w' w'' ∧ Fls w'' g (apF t p).1) := fun w' g c x y hf hc hx => (patchApply g _ c x _ y w' hf hc d1 d2 hx r1 r2 r3).mono fun e w'' ⟨g, c, he, hb, hf, _⟩ => ⟨g, c, by rw [he, hbkQ]; rfl, hb, by rw [hbkQ] at hf; exact hf⟩
  have HT2 : Hid (∀ w' g c g' c', Fls w' g (apF t q).1 → Fls w' g' (apF t q).1 → Calls Tryd.prog 9 #[.slice g (apF t q).1.length c, .slice g' (apF t q).1.length c'] w' fun e w'' => e = .returned (.bool true) ∧ Below w'.heap.size w' w'') := fun w' g c g' c' h1 h2 => trees_eq g g' _ c c' w' h1 h2 d1 d2
  have HT3 : Hid (∀ w' g c g' c', Fls w' g (apF t p).1 → Fls w' g' (apF t p).1 → Calls Tryd.prog 9 #[.slice g (apF t p).1.length c, .slice g' (apF t p).1.length c'] w' fun e w'' => e = .returned (.bool true) ∧ Below w'.heap.size w' w'') := fun w' g c g' c' h1 h2 => trees_eq g g' _ c c' w' h1 h2 b1 b2
  rw [z1, errV_zero] at HA1
  rw [errV_not z2] at HA2
  rw [z3, errV_zero] at HA4
  obtain ⟨e2, he2⟩ : ∃ x, (apF (apF t p).1 q).2.2 = x := ⟨_, rfl⟩
  rw [he2] at HA2
  obtain ⟨i1, hi1⟩ : ∃ x, (apF t p).2.1 = x := ⟨_, rfl⟩
  rw [hi1] at HA1
  obtain ⟨i2, hi2⟩ : ∃ x, (apF (apF t p).1 q).2.1 = x := ⟨_, rfl⟩
  rw [hi2] at HA2
  obtain ⟨i3, hi3⟩ : ∃ x, (apF t q).2.1 = x := ⟨_, rfl⟩
  rw [hi3] at HA4
  obtain ⟨Q, hQ⟩ : ∃ x, dfP (apF t p).1 (apF t q).1 N = x := ⟨_, rfl⟩
  rw [hQ] at HIN HA5 HTU HA6
  obtain ⟨R, hR⟩ : ∃ x, trP Q = x := ⟨_, rfl⟩
  rw [hR] at HTU HA6
  obtain ⟨C, hC⟩ : ∃ x, (apF (apF t p).1 q).1 = x := ⟨_, rfl⟩
  rw [hC] at HA2
  obtain ⟨B, hB⟩ : ∃ x, (apF t p).1 = x := ⟨_, rfl⟩
  rw [hB] at HA1 HA2 HA5 HA6 HT3
  obtain ⟨D, hD⟩ : ∃ x, (apF t q).1 = x := ⟨_, rfl⟩
  rw [hD] at HA4 HA5 HA6 HT2
  obtain ⟨nB, hnB⟩ : ∃ x, B.length = x := ⟨_, rfl⟩
  rw [hnB] at HA1 HA2 HA5 HA6 HT3
  obtain ⟨nC, hnC⟩ : ∃ x, C.length = x := ⟨_, rfl⟩
  rw [hnC] at HA2
  obtain ⟨nD, hnD⟩ : ∃ x, D.length = x := ⟨_, rfl⟩
  rw [hnD] at HA4 HA5 HA6 HT2
  obtain ⟨nQ, hnQ⟩ : ∃ x, Q.length = x := ⟨_, rfl⟩
  rw [hnQ] at HIN HA5 HTU
  obtain ⟨nR, hnR⟩ : ∃ x, R.length = x := ⟨_, rfl⟩
  rw [hnR] at HTU HA6
  obtain ⟨nt, hnt⟩ : ∃ x, t.length = x := ⟨_, rfl⟩
  rw [hnt] at HA1 HA4 HIN
  obtain ⟨np, hnp⟩ : ∃ x, p.length = x := ⟨_, rfl⟩
  rw [hnp] at HA1 HIN
  obtain ⟨nq, hnq⟩ : ∃ x, q.length = x := ⟨_, rfl⟩
  rw [hnq] at HA2 HA4 HIN
  rw [hnt, hnp, hnq]
  clear ha hca hm hml hb gm gml gms hd km kml kms z1 z2 b1 b2 z3 hbi tB tD d1 d2 hI hkQ q1 q2 q3 hapQ hbkQ hTQ r1 r2 r3 zn hN he2 hi1 hi2 hi3 hQ hR hC hB hD hnB hnC hnD hnQ hnR hnt hnp hnq
  have gn1 : ¬ ((N : Int) < 0) := by omega
  have gn2 : True := trivial
  go_enter Tryd.func3, Tryd.ntmps3
  go_wp2_with fail
  generalize ((w.alloc (.cells #[.int .i64 2, .string ⟨#[97]⟩, .slice none 0 0] 26)).alloc (.cells #[.int .i64 2, .string ⟨#[98]⟩, .slice none 0 0] 26)) = W at fm1 fm2 fm3 hj0 ⊢
  have HB0 : Hid (Below w.heap.size w W) := fm3
  clear fm1 fm2 fm3
  go_wp2_with (go_at_call 7; refine hj0.mono ?_)
  rintro e w1 ⟨x0, c0, ev, rfl, _, _, hev, hb1⟩
  obtain rfl : ev = .nilIface := by
    rcases hev with ⟨_, h⟩ | ⟨h, _⟩ | ⟨h, _⟩
    · exact h
    · exact absurd rfl h
    · exact absurd rfl h
  have HB1 : Hid (Below w.heap.size w w1) := HB0.out.trans (hb1.mono HB0.out.size)
  have ha1 := HA1.out w1 HB1.out
  clear hj0 hb1 hev HB0 HA1
  go_wp2_with (go_at_call 8; refine ha1.mono ?_)
  first | rintro e w2 x2 y2 rfl hb2 hf2 hc2 | rintro e w2 ⟨x2, y2, rfl, hb2, hf2, hc2⟩
  have HB2 : Hid (Below w.heap.size w w2) := HB1.out.trans (hb2.mono HB1.out.size)
  have ha2 := HA2.out w2 x2 y2 HB2.out hf2 hc2
  have HFB : Hid (Fls w2 x2 B) := hf2
  have HCB : Hid (nB ≤ y2) := hc2
  clear ha1 hb2 hf2 hc2 HA2
  go_wp2_with (go_at_call 8; refine ha2.mono ?_)
  first | rintro e w3 x3 y3 rfl hb3 hf3 hc3 | rintro e w3 ⟨x3, y3, rfl, hb3, hf3, hc3⟩
  have HB3 : Hid (Below w.heap.size w w3) := HB2.out.trans (hb3.mono HB2.out.size)
  have HFB : Hid (Fls w3 x2 B) := HFB.out.below hb3
  have HFC : Hid (Fls w3 x3 C) := hf3
  clear ha2 hb3 hf3 hc3
  clear HFC
  have ha4 := HA4.out w3 HB3.out
  clear HA4
  go_wp2_with (go_at_call 8; refine ha4.mono ?_)
  first | rintro e w4 x4 y4 rfl hb4 hf4 hc4 | rintro e w4 ⟨x4, y4, rfl, hb4, hf4, hc4⟩
  have HB4 : Hid (Below w.heap.size w w4) := HB3.out.trans (hb4.mono HB3.out.size)
  have HFB : Hid (Fls w4 x2 B) := HFB.out.below hb4
  have HFD : Hid (Fls w4 x4 D) := hf4
  have HCD : Hid (nD ≤ y4) := hc4
  clear ha4 hb4 hf4 hc4
  have hin := HIN.out w4 HB4.out
  clear HIN
  go_wp2_with (go_at_call 10; refine hin.mono ?_)
  first | rintro e w5 x5 y5 rfl hb5 hc5 | rintro e w5 ⟨x5, y5, rfl, hb5, hc5⟩
  have HB5 : Hid (Below w.heap.size w w5) := HB4.out.trans (hb5.mono HB4.out.size)
  have HFB : Hid (Fls w5 x2 B) := HFB.out.below hb5
  have HFD : Hid (Fls w5 x4 D) := HFD.out.below hb5
  have HXQ : Hid (Chs w5 x5 Q) := hc5
  have ha5 := HA5.out w5 x2 y2 x5 y5 HFB.out HCB.out hc5
  clear hin hb5 hc5 HA5
  go_wp2_with (go_at_call 8; refine ha5.mono ?_)
  first | rintro e w6 x6 y6 rfl hb6 hf6 | rintro e w6 ⟨x6, y6, rfl, hb6, hf6⟩
  have HB6 : Hid (Below w.heap.size w w6) := HB5.out.trans (hb6.mono HB5.out.size)
  have HFB : Hid (Fls w6 x2 B) := HFB.out.below hb6
  have HFD : Hid (Fls w6 x4 D) := HFD.out.below hb6
  have HFY : Hid (Fls w6 x6 D) := hf6
  have htu := HTU.out w6 x5 y5 (HXQ.out.below hb6)
  clear ha5 hb6 hf6 HTU HXQ
  go_wp2_with (go_at_call 11; refine htu.mono ?_)
  first | rintro e w7 x7 y7 rfl hb7 hc7 | rintro e w7 ⟨x7, y7, rfl, hb7, hc7⟩
  have HB7 : Hid (Below w.heap.size w w7) := HB6.out.trans (hb7.mono HB6.out.size)
  have HFB : Hid (Fls w7 x2 B) := HFB.out.below hb7
  have HFD : Hid (Fls w7 x4 D) := HFD.out.below hb7
  have HFY : Hid (Fls w7 x6 D) := HFY.out.below hb7
  have ha6 := HA6.out w7 x4 y4 x7 y7 HFD.out HCD.out hc7
  clear htu hb7 hc7 HA6
  go_wp2_with (go_at_call 8; refine ha6.mono ?_)
  first | rintro e w8 x8 y8 rfl hb8 hf8 | rintro e w8 ⟨x8, y8, rfl, hb8, hf8⟩
  have HB8 : Hid (Below w.heap.size w w8) := HB7.out.trans (hb8.mono HB7.out.size)
  have HFB : Hid (Fls w8 x2 B) := HFB.out.below hb8
  have HFZ : Hid (Fls w8 x8 B) := hf8
  have ht2 := HT2.out w8 x6 y6 x4 y4 (HFY.out.below hb8) (HFD.out.below hb8)
  clear ha6 hb8 hf8 HT2 HFY HFD
  go_wp2_with (go_at_call 9; refine ht2.mono ?_)
  first | rintro e w9 rfl hb9 | rintro e w9 ⟨rfl, hb9⟩
  have HB9 : Hid (Below w.heap.size w w9) := HB8.out.trans (hb9.mono HB8.out.size)
  have ht3 := HT3.out w9 x8 y8 x2 y2 (HFZ.out.below hb9) (HFB.out.below hb9)
  clear ht2 hb9 HT3 HFZ HFB
  go_wp2_with (go_at_call 9; refine ht3.mono ?_)
  first | rintro e w10 rfl hb10 | rintro e w10 ⟨rfl, hb10⟩
  have HB10 : Hid (Below w.heap.size w w10) := HB9.out.trans (hb10.mono HB9.out.size)
  clear ht3 hb10
  go_wp2
  go_ret
  exact ⟨rfl, HB10.out⟩

theorem algebraJoins_any (aa : Option Addr) (t : List Fl) (ca : Nat) (ab : Option Addr) (p : List Ch) (cb : Nat) (ad : Option Addr) (q : List Ch) (cd : Nat) (n : Int) (w : World) (ha : Fls w aa t) (hca : t.length ≤ ca) (hm : t.length ≤ maxLen) (hml : ∀ x ∈ t, x.2.length ≤ maxLen) (hb : Chs w ab p) (gm : p.length ≤ maxLen) (gml : ∀ c ∈ p, c.2.2.length ≤ maxLen) (gms : ∀ c ∈ p, ∀ h ∈ c.2.2, h.2.2.length ≤ maxLen) (hd : Chs w ad q) (km : q.length ≤ maxLen) (kml : ∀ c ∈ q, c.2.2.length ≤ maxLen) (kms : ∀ c ∈ q, ∀ h ∈ c.2.2, h.2.2.length ≤ maxLen) :
    Calls Tryd.prog 3 #[.slice aa t.length ca, .slice ab p.length cb, .slice ad q.length cd, .int .i64 n] w fun e w' => e = .returned (.bool true) ∧ Below w.heap.size w w' := by
  by_cases z1 : (apF t p).2.2 = 0
  · by_cases zn : n < 0 ∨ 1000 < n
    · by_cases z2 : (apF (apF t p).1 q).2.2 = 0
      · exact joins_b aa t ca ab p cb ad q cd n w ha hca hm hml hb gm gml gms hd km kml kms z1 z2 zn
      · by_cases z3 : (apF t q).2.2 = 0
        · exact joins_f aa t ca ab p cb ad q cd n w ha hca hm hml hb gm gml gms hd km kml kms z1 z2 zn z3
        · exact joins_e aa t ca ab p cb ad q cd n w ha hca hm hml hb gm gml gms hd km kml kms z1 z2 z3
    · have zn : 0 ≤ n ∧ n ≤ 1000 := by omega
      by_cases z2 : (apF (apF t p).1 q).2.2 = 0
      · by_cases z3 : (apF t q).2.2 = 0
        · exact joins_d aa t ca ab p cb ad q cd n w ha hca hm hml hb gm gml gms hd km kml kms z1 z2 zn z3
        · exact joins_c aa t ca ab p cb ad q cd n w ha hca hm hml hb gm gml gms hd km kml kms z1 z2 zn z3
      · by_cases z3 : (apF t q).2.2 = 0
        · exact joins_g aa t ca ab p cb ad q cd n w ha hca hm hml hb gm gml gms hd km kml kms z1 z2 zn z3
        · exact joins_e aa t ca ab p cb ad q cd n w ha hca hm hml hb gm gml gms hd km kml kms z1 z2 z3
  · exact joins_a aa t ca ab p cb ad q cd n w ha hca hm hml hb gm gml gms z1

end Go.Proofs.YtnkdmgekpajfhaeDoor
