/-
  The walk of the law PatchMakes: what was found between two trees leads from the one to the other, with whatever context, and turned back; between a tree and itself there is nothing.
-/
import Derived.Test.YtmidbhikhbbpbadDoorPdf
import Derived.Test.YtmidbhikhbbpbadDoorXn
namespace Go.Proofs.YtmidbhikhbbpbadDoor
open Go.RowKit Dist

/-- A fault among three numbers, or none. -/
theorem nz_dfs {a b : List Fl} {n : Int} : nz (dfs a b n) = [] ↔ (tf a).2 = 0 ∧ (tf b).2 = 0 ∧ 0 ≤ n ∧ n ≤ 1000 := by
  unfold nz dfs
  rw [List.filter_eq_nil_iff]
  constructor
  · intro h
    have h1 := h (tf a).2 (by simp)
    have h2 := h (tf b).2 (by simp)
    have h3 := h (if n < 0 ∨ 1000 < n then 1 else 0) (by simp)
    simp at h1 h2
    refine ⟨h1, h2, ?_⟩
    by_cases e : n < 0 ∨ 1000 < n
    · rw [if_pos e] at h3; simp at h3
    · omega
  · rintro ⟨h1, h2, h3, h4⟩ x hx
    rw [h1, h2, if_neg (by omega)] at hx
    simp at hx
    simp [hx]

set_option maxHeartbeats 1000000 in
theorem diff_bad (aa ab : Option Addr) (l m : List Fl) (ca cb : Nat) (n : Int) (w : World) (ha : Fls w aa l) (hb : Fls w ab m) (h1 : l.length ≤ maxLen) (h2 : ∀ x ∈ l, x.2.length ≤ maxLen) (h3 : m.length ≤ maxLen) (h4 : ∀ x ∈ m, x.2.length ≤ maxLen) (hne : nz (dfs l m n) ≠ []) :
    Calls Tryd.prog 5 #[.slice aa l.length ca, .slice ab m.length cb, .int .i64 n] w fun e w' => ∃ J v B, e = .returned (.tuple #[.slice none 0 0, .iface 81 (.pointer (some ⟨J, 0, none⟩))]) ∧ Below w.heap.size w w' ∧ w'.cell? ⟨J, 0, none⟩ = some v ∧ w'.ownsRow B 25 1 v (nz (dfs l m n)).length ((nz (dfs l m n)).map errV) := by
  have hck := checkDiffOf aa ab l m ca cb n w ha hb h1 h2 h3 h4
  obtain ⟨D, hD⟩ : ∃ D, nz (dfs l m n) = D := ⟨_, rfl⟩
  obtain ⟨nl, hnl⟩ : ∃ x, l.length = x := ⟨_, rfl⟩
  obtain ⟨nm, hnm⟩ : ∃ x, m.length = x := ⟨_, rfl⟩
  rw [hD, hnl, hnm] at hck
  rw [hD] at hne
  rw [hD, hnl, hnm]
  have HNE : Hid (D ≠ []) := hne
  clear ha hb h1 h2 h3 h4 hne hD hnl hnm
  go_enter Tryd.func5, Tryd.ntmps5
  go_wp2_with (go_at_call 11; refine hck.mono ?_; rintro e w0 ⟨hb0, _, g1⟩; obtain ⟨J, v, B, rfl, q1, q2⟩ := g1 HNE.out; clear g1)
  have Q1 : Hid (w0.cell? ⟨J, 0, none⟩ = some v) := q1
  have Q2 : Hid (w0.ownsRow B 25 1 v D.length (D.map errV)) := q2
  clear hck q1 q2
  go_wp2
  go_ret2
  exact ⟨J, v, B, rfl, hb0, Q1.out, Q2.out⟩

/-- A file without lines in a block of its own. -/
theorem fls_bare (w : World) (p : ByteArray) (t : TypeId) : Fls (w.alloc (.cells #[.string p, .slice none 0 0] t)) (some ⟨w.heap.size, 0, none⟩) [(p, [])] := by
  have hh := heap_alloc_new w (.cells #[.string p, .slice none 0 0] t)
  intro i hi
  obtain rfl : i = 0 := by simpa using hi
  exact ⟨w.heap.size, 0, none, 0, rfl, by rw [Lib.cell_of_heap hh]; rfl, by rw [Lib.cell_of_heap hh]; rfl, fun j hj => absurd hj (Nat.not_lt_zero _), Nat.le_refl _⟩

theorem fact_tf : tf [(⟨#[97]⟩, [])] = (0, 0) := by
  refine tf_of (by simp) (List.pairwise_singleton _ _) fun x hx => ?_
  rw [List.mem_singleton.1 hx, fOne_lines (x := (⟨#[97]⟩, [])) fact_path]
  rfl

theorem fact_diff : dfP [] [(⟨#[97]⟩, [])] 3 = [(2, ⟨#[97]⟩, [])] := by
  rw [← dfG_dfP (a := []) (b := [(⟨#[97]⟩, [])]) (n := 3) rfl (by rw [fact_tf]) (by omega)]
  rfl

theorem kf_max {p : List Ch} (h : (kf p).2 = 0) : p.length ≤ maxLen ∧ (∀ c ∈ p, c.2.2.length ≤ maxLen) ∧ ∀ c ∈ p, ∀ h ∈ c.2.2, h.2.2.length ≤ maxLen := by
  obtain ⟨k1, _, k3⟩ := kf_zero h
  refine ⟨by unfold maxLen; omega, fun c hc => ?_, fun c hc x hx => ?_⟩
  · have := (hf_good (cOne_zero (k3 c hc)).2.2.1).2.1
    unfold maxLen; omega
  · have := (sf_zero ((hf_good (cOne_zero (k3 c hc)).2.2.1).2.2 x hx).1).1
    unfold maxLen; omega

set_option maxRecDepth 100000 in
set_option maxHeartbeats 4000000 in
theorem patchMakes_any (aa : Option Addr) (l : List Fl) (ca : Nat) (ab : Option Addr) (m : List Fl) (cb : Nat) (n : Int) (w : World) (ha : Fls w aa l) (hca : l.length ≤ ca) (h1 : l.length ≤ maxLen) (h2 : ∀ x ∈ l, x.2.length ≤ maxLen) (hb : Fls w ab m) (hcb : m.length ≤ cb) (h3 : m.length ≤ maxLen) (h4 : ∀ x ∈ m, x.2.length ≤ maxLen) :
    Calls Tryd.prog 3 #[.slice aa l.length ca, .slice ab m.length cb, .int .i64 n] w fun e w' => e = .returned (.bool true) ∧ Below w.heap.size w w' := by
  have hb0 := below_alloc w (.cells #[.string ⟨#[97]⟩, .slice none 0 0] 30)
  have hd0 := diff_ok none (some ⟨w.heap.size, 0, none⟩) [] [(⟨#[97]⟩, [])] 0 1 3 _ (Fls.nil _ _) (fls_bare w ⟨#[97]⟩ 30) (Nat.le_refl _) (Nat.le_refl _) rfl (by rw [fact_tf]) (by omega)
  rw [fact_diff] at hd0
  have HB0 : Hid (Below w.heap.size w (w.alloc (.cells #[.string ⟨#[97]⟩, .slice none 0 0] 30))) := hb0
  by_cases hne : nz (dfs l m n) = []
  · obtain ⟨t1, t2, n1, n2⟩ := nz_dfs.1 hne
    obtain ⟨N, rfl⟩ := Int.eq_ofNat_of_zero_le n1
    have hN : N ≤ 1000 := by omega
    have hkf := kf_dfP t1 t2 hN
    have hap := apF_dfP t1 t2 hN
    have hbk := apF_back t1 t2 hN
    have hsf := dfP_self l N
    have HD1 : Hid (∀ w', Below w.heap.size w w' → Calls Tryd.prog 5 #[.slice aa l.length ca, .slice ab m.length cb, .int .i64 N] w' fun e w'' => ∃ a' c', e = .returned (.tuple #[.slice a' (dfP l m N).length c', .nilIface]) ∧ Below w'.heap.size w' w'' ∧ Chs w'' a' (dfP l m N) ∧ (dfP l m N).length ≤ c') := fun w' h => diff_ok aa ab l m ca cb N w' (ha.below h) (hb.below h) hca hcb t1 t2 hN
    have HD2 : Hid (∀ w', Below w.heap.size w w' → Calls Tryd.prog 5 #[.slice aa l.length ca, .slice aa l.length ca, .int .i64 N] w' fun e w'' => ∃ a' c', e = .returned (.tuple #[.slice a' 0 c', .nilIface]) ∧ Below w'.heap.size w' w'') := fun w' h => (diff_ok aa aa l l ca ca N w' (ha.below h) (ha.below h) hca hca t1 t1 hN).mono fun e w'' ⟨a', c', he, hb, _⟩ => ⟨a', c', by rw [he, hsf]; rfl, hb⟩
    obtain ⟨P, hP⟩ : ∃ P, dfP l m N = P := ⟨_, rfl⟩
    rw [hP] at hkf hap hbk HD1
    obtain ⟨p1, p2, p3⟩ := kf_max (p := P) (by rw [hkf])
    have hT : tOfP P = trP P := by unfold tOfP; rw [if_pos (by rw [hkf])]
    obtain ⟨q1, q2, q3⟩ := tOfP_max P
    rw [hT] at q1 q2 q3
    have HCK : Hid (∀ w' a' c', Chs w' a' P → Calls Tryd.prog 6 #[.slice a' P.length c'] w' fun e w'' => e = .returned (.tuple #[.int .i64 0, .nilIface]) ∧ Below w'.heap.size w' w'') := fun w' a' c' h => (patchCheck a' P c' w' h p1 p2 p3).mono fun e w'' ⟨he, hb⟩ => ⟨by rw [he, hkf]; rfl, hb⟩
    have HTU : Hid (∀ w' a' c', Chs w' a' P → Calls Tryd.prog 8 #[.slice a' P.length c'] w' fun e w'' => ∃ a'' c'', e = .returned (.tuple #[.slice a'' (trP P).length c'', .nilIface]) ∧ Below w'.heap.size w' w'' ∧ Chs w'' a'' (trP P)) := fun w' a' c' h => (patchTurn a' P c' w' h p1 p2 p3).mono fun e w'' ⟨a'', c'', he, hb, hc, _⟩ => ⟨a'', c'', by rw [he, hT, hkf]; rfl, hb, by rw [← hT]; exact hc⟩
    have HAP : Hid (∀ w' a' c', Below w.heap.size w w' → Chs w' a' P → Calls Tryd.prog 7 #[.slice aa l.length ca, .slice a' P.length c'] w' fun e w'' => ∃ x y, e = .returned (.tuple #[.slice x m.length y, .int .i64 0, .nilIface]) ∧ Below w'.heap.size w' w'' ∧ Fls w'' x m) := fun w' a' c' h hc => (patchApply aa l ca a' P c' w' (ha.below h) hca h1 h2 hc p1 p2 p3).mono fun e w'' ⟨x, y, he, hb, hf, _⟩ => ⟨x, y, by rw [he, hap]; rfl, hb, by rw [hap] at hf; exact hf⟩
    have HAQ : Hid (∀ w' a' c', Below w.heap.size w w' → Chs w' a' (trP P) → Calls Tryd.prog 7 #[.slice ab m.length cb, .slice a' (trP P).length c'] w' fun e w'' => ∃ x y, e = .returned (.tuple #[.slice x l.length y, .int .i64 0, .nilIface]) ∧ Below w'.heap.size w' w'' ∧ Fls w'' x l) := fun w' a' c' h hc => (patchApply ab m cb a' (trP P) c' w' (hb.below h) hcb h3 h4 hc q1 q2 q3).mono fun e w'' ⟨x, y, he, hb, hf, _⟩ => ⟨x, y, by rw [he, hbk]; rfl, hb, by rw [hbk] at hf; exact hf⟩
    have HS1 : Hid (∀ w' a' c', Below w.heap.size w w' → Fls w' a' m → Calls Tryd.prog 9 #[.slice a' m.length c', .slice ab m.length cb] w' fun e w'' => e = .returned (.bool true) ∧ Below w'.heap.size w' w'') := fun w' a' c' h hf => trees_eq a' ab m c' cb w' hf (hb.below h) h3 h4
    have HS2 : Hid (∀ w' a' c', Below w.heap.size w w' → Fls w' a' l → Calls Tryd.prog 9 #[.slice a' l.length c', .slice aa l.length ca] w' fun e w'' => e = .returned (.bool true) ∧ Below w'.heap.size w' w'') := fun w' a' c' h hf => trees_eq a' aa l c' ca w' hf (ha.below h) h1 h2
    obtain ⟨nl, hnl⟩ : ∃ x, l.length = x := ⟨_, rfl⟩
    obtain ⟨nm, hnm⟩ : ∃ x, m.length = x := ⟨_, rfl⟩
    obtain ⟨np, hnp⟩ : ∃ x, P.length = x := ⟨_, rfl⟩
    obtain ⟨nq, hnq⟩ : ∃ x, (trP P).length = x := ⟨_, rfl⟩
    rw [hnl, hnm, hnp] at HD1
    rw [hnl] at HD2
    rw [hnp] at HCK
    rw [hnp, hnq] at HTU
    rw [hnl, hnm, hnp] at HAP
    rw [hnl, hnm, hnq] at HAQ
    rw [hnm] at HS1
    rw [hnl] at HS2
    rw [hnl, hnm]
    clear ha hb hca hcb h1 h2 h3 h4 hb0 hne t1 t2 n1 n2 hN hkf hap hbk hsf hP p1 p2 p3 hT q1 q2 q3 hnl hnm hnp hnq
    go_enter Tryd.func3, Tryd.ntmps3
    go_wp2_with (go_at_call 5; refine hd0.mono ?_)
    rintro e w1 ⟨a1, c1, rfl, hb1, hc1, _⟩
    obtain ⟨b1, o1, rfl⟩ := hc1.addr (i := 0) (by simp)
    obtain ⟨ah, ch, y0, _, y2, _⟩ := hc1.at (i := 0) (by simp)
    rw [Nat.zero_mul, Nat.add_zero] at y0 y2
    replace y0 : w1.cell? ⟨b1, o1, none⟩ = some (.int .i64 2) := y0
    replace y2 : w1.cell? ⟨b1, o1 + 2, none⟩ = some (.slice ah 0 ch) := y2
    have hb1 := HB0.out.trans (hb1.mono HB0.out.size)
    have hd1 := HD1.out w1 hb1
    have HB1 : Hid (Below w.heap.size w w1) := hb1
    clear hd0 HB0 HD1 hc1 hb1
    rw [List.length_singleton]
    go_wp2_with (go_at_call 5; refine hd1.mono ?_)
    rintro e w2 ⟨ap, cp, rfl, hb2, hc2, _⟩
    have hck := HCK.out w2 ap cp hc2
    have hb2 := HB1.out.trans (hb2.mono HB1.out.size)
    have HB2 : Hid (Below w.heap.size w w2) := hb2
    have HC2 : Hid (Chs w2 ap P) := hc2
    clear hd1 HCK hb2 hc2 y0 y2
    go_wp2_with (go_at_call 6; refine hck.mono ?_)
    rintro e w3 ⟨rfl, hb3⟩
    have HC3 : Hid (Chs w3 ap P) := HC2.out.below hb3
    have hb3 := HB2.out.trans (hb3.mono HB2.out.size)
    have hap := HAP.out w3 ap cp hb3 HC3.out
    have HB3 : Hid (Below w.heap.size w w3) := hb3
    clear hck hb3 HAP HC2
    go_wp2_with (go_at_call 7; refine hap.mono ?_)
    rintro e w4 ⟨ax, cx, rfl, hb4, hf4⟩
    have htu := HTU.out w4 ap cp (HC3.out.below hb4)
    have hb4 := HB3.out.trans (hb4.mono HB3.out.size)
    have HF4 : Hid (Fls w4 ax m) := hf4
    have HB4 : Hid (Below w.heap.size w w4) := hb4
    clear hap hb4 hf4 HTU HC3
    go_wp2_with (go_at_call 8; refine htu.mono ?_)
    rintro e w5 ⟨at5, ct5, rfl, hb5, hc5⟩
    have HF5 : Hid (Fls w5 ax m) := HF4.out.below hb5
    have hb5 := HB4.out.trans (hb5.mono HB4.out.size)
    have haq := HAQ.out w5 at5 ct5 hb5 hc5
    have HB5 : Hid (Below w.heap.size w w5) := hb5
    clear htu hb5 hc5 HAQ HF4
    go_wp2_with (go_at_call 7; refine haq.mono ?_)
    rintro e w6 ⟨ay, cy, rfl, hb6, hf6⟩
    have HF6 : Hid (Fls w6 ax m) := HF5.out.below hb6
    have hb6 := HB5.out.trans (hb6.mono HB5.out.size)
    have hd2 := HD2.out w6 hb6
    have HG6 : Hid (Fls w6 ay l) := hf6
    have HB6 : Hid (Below w.heap.size w w6) := hb6
    clear haq hb6 hf6 HD2 HF5
    go_wp2_with (go_at_call 5; refine hd2.mono ?_)
    rintro e w7 ⟨an, cn, rfl, hb7⟩
    have HG7 : Hid (Fls w7 ay l) := HG6.out.below hb7
    have HF7 : Hid (Fls w7 ax m) := HF6.out.below hb7
    have hb7 := HB6.out.trans (hb7.mono HB6.out.size)
    have hs1 := HS1.out w7 ax cx hb7 HF7.out
    have HB7 : Hid (Below w.heap.size w w7) := hb7
    clear hd2 hb7 HS1 HG6 HF6
    go_wp2_with (go_at_call 9; refine hs1.mono ?_)
    rintro e w8 ⟨rfl, hb8⟩
    have HG8 : Hid (Fls w8 ay l) := HG7.out.below hb8
    have hb8 := HB7.out.trans (hb8.mono HB7.out.size)
    have hs2 := HS2.out w8 ay cy hb8 HG8.out
    have HB8 : Hid (Below w.heap.size w w8) := hb8
    clear hs1 hb8 HS2 HG7
    go_wp2_with (go_at_call 9; refine hs2.mono ?_)
    rintro e w9 ⟨rfl, hb9⟩
    have hb9 := HB8.out.trans (hb9.mono HB8.out.size)
    clear hs2
    go_wp2
    go_ret
    exact ⟨rfl, hb9⟩
  · have HD1 : Hid (∀ w', Below w.heap.size w w' → Calls Tryd.prog 5 #[.slice aa l.length ca, .slice ab m.length cb, .int .i64 n] w' fun e w'' => ∃ J, e = .returned (.tuple #[.slice none 0 0, .iface 81 (.pointer (some ⟨J, 0, none⟩))]) ∧ Below w'.heap.size w' w'') := fun w' h => (diff_bad aa ab l m ca cb n w' (ha.below h) (hb.below h) h1 h2 h3 h4 hne).mono fun e w'' ⟨J, _, _, he, hb, _⟩ => ⟨J, he, hb⟩
    obtain ⟨nl, hnl⟩ : ∃ x, l.length = x := ⟨_, rfl⟩
    obtain ⟨nm, hnm⟩ : ∃ x, m.length = x := ⟨_, rfl⟩
    rw [hnl, hnm] at HD1
    rw [hnl, hnm]
    clear ha hb hca hcb h1 h2 h3 h4 hb0 hne hnl hnm
    go_enter Tryd.func3, Tryd.ntmps3
    go_wp2_with (go_at_call 5; refine hd0.mono ?_)
    rintro e w1 ⟨a1, c1, rfl, hb1, hc1, _⟩
    obtain ⟨b1, o1, rfl⟩ := hc1.addr (i := 0) (by simp)
    obtain ⟨ah, ch, y0, _, y2, _⟩ := hc1.at (i := 0) (by simp)
    rw [Nat.zero_mul, Nat.add_zero] at y0 y2
    replace y0 : w1.cell? ⟨b1, o1, none⟩ = some (.int .i64 2) := y0
    replace y2 : w1.cell? ⟨b1, o1 + 2, none⟩ = some (.slice ah 0 ch) := y2
    have hb1 := HB0.out.trans (hb1.mono HB0.out.size)
    have hd1 := HD1.out w1 hb1
    have HB1 : Hid (Below w.heap.size w w1) := hb1
    clear hd0 HB0 HD1 hc1 hb1
    rw [List.length_singleton]
    go_wp2_with (go_at_call 5; refine hd1.mono ?_)
    rintro e w2 ⟨J, rfl, hb2⟩
    have hb2 := HB1.out.trans (hb2.mono HB1.out.size)
    clear hd1
    go_wp2
    go_ret
    exact ⟨rfl, hb2⟩

end Go.Proofs.YtmidbhikhbbpbadDoor
