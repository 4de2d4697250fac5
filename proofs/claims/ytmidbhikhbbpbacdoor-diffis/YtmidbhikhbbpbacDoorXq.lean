/-
  Walk of patch.Diff at two trees that cannot be compared. The walk of the law DiffIs: what is between any two trees, as the document says.
-/
import Derived.Test.YtmidbhikhbbpbacDoorPdf
import Derived.Test.YtmidbhikhbbpbacDoorRdf
import Derived.Test.YtmidbhikhbbpbacDoorTold4
namespace Go.Proofs.YtmidbhikhbbpbacDoor
open Go.RowKit Dist

/-- A fault among three numbers, or none. -/
theorem nz_dfs {a b : List Fl} {n : Int} : nz (dfs a b n) = [] ↔ (tf a).2 = 0 ∧ (tf b).2 = 0 ∧ 0 ≤ n ∧ n ≤ 1000 := by
  unfold nz dfs
  rw [List.filter_eq_nil_iff]
  constructor
  · intro h
    have h1 := h (tf a).2 (by simp)
    have h2 := h (tf b).2 (by simp)
    have h3 := h (if n < 0 ∨ 1000 < n then 1 else 0) (by simp)
    simp at h1 h2
    refine ⟨h1, h2, ?_⟩
    by_cases e : n < 0 ∨ 1000 < n
    · rw [if_pos e] at h3; simp at h3
    · omega
  · rintro ⟨h1, h2, h3, h4⟩ x hx
    rw [h1, h2, if_neg (by omega)] at hx
    simp at hx
    simp [hx]

set_option maxHeartbeats 1000000 in
theorem diff_bad (aa ab : Option Addr) (l m : List Fl) (ca cb : Nat) (n : Int) (w : World) (ha : Fls w aa l) (hb : Fls w ab m) (h1 : l.length ≤ maxLen) (h2 : ∀ x ∈ l, x.2.length ≤ maxLen) (h3 : m.length ≤ maxLen) (h4 : ∀ x ∈ m, x.2.length ≤ maxLen) (hne : nz (dfs l m n) ≠ []) :
    Calls Tryd.prog 20 #[.slice aa l.length ca, .slice ab m.length cb, .int .i64 n] w fun e w' => ∃ J v B, e = .returned (.tuple #[.slice none 0 0, .iface 110 (.pointer (some ⟨J, 0, none⟩))]) ∧ Below w.heap.size w w' ∧ w'.cell? ⟨J, 0, none⟩ = some v ∧ w'.ownsRow B 30 1 v (nz (dfs l m n)).length ((nz (dfs l m n)).map errV) := by
  have hck := checkDiffOf aa ab l m ca cb n w ha hb h1 h2 h3 h4
  obtain ⟨D, hD⟩ : ∃ D, nz (dfs l m n) = D := ⟨_, rfl⟩
  obtain ⟨nl, hnl⟩ : ∃ x, l.length = x := ⟨_, rfl⟩
  obtain ⟨nm, hnm⟩ : ∃ x, m.length = x := ⟨_, rfl⟩
  rw [hD, hnl, hnm] at hck
  rw [hD] at hne
  rw [hD, hnl, hnm]
  have HNE : Hid (D ≠ []) := hne
  clear ha hb h1 h2 h3 h4 hne hD hnl hnm
  go_enter Tryd.func20, Tryd.ntmps20
  go_wp2_with (go_at_call 34; refine hck.mono ?_; rintro e w0 ⟨hb0, _, g1⟩; obtain ⟨J, v, B, rfl, q1, q2⟩ := g1 HNE.out; clear g1)
  have Q1 : Hid (w0.cell? ⟨J, 0, none⟩ = some v) := q1
  have Q2 : Hid (w0.ownsRow B 30 1 v D.length (D.map errV)) := q2
  clear hck q1 q2
  go_wp2
  go_ret2
  exact ⟨J, v, B, rfl, hb0, Q1.out, Q2.out⟩

theorem kf_max {p : List Ch} (h : (kf p).2 = 0) : p.length ≤ maxLen ∧ (∀ c ∈ p, c.2.2.length ≤ maxLen) ∧ ∀ c ∈ p, ∀ h ∈ c.2.2, h.2.2.length ≤ maxLen := by
  obtain ⟨k1, _, k3⟩ := kf_zero h
  refine ⟨by unfold maxLen; omega, fun c hc => ?_, fun c hc x hx => ?_⟩
  · have := (hf_good (cOne_zero (k3 c hc)).2.2.1).2.1
    unfold maxLen; omega
  · have := (sf_zero ((hf_good (cOne_zero (k3 c hc)).2.2.1).2.2 x hx).1).1
    unfold maxLen; omega

end Go.Proofs.YtmidbhikhbbpbacDoor
namespace Go.Proofs.YtmidbhikhbbpbacDoor
open Go.RowKit Dist

/-- The first fault that keeps two trees from being compared. -/
def df1 (a b : List Fl) (n : Int) : Int := if (tf a).2 ≠ 0 then (tf a).2 else if (tf b).2 ≠ 0 then (tf b).2 else if n < 0 ∨ 1000 < n then 1 else 0

theorem nz_first {a b : List Fl} {n : Int} (h : nz (dfs a b n) ≠ []) : df1 a b n ≠ 0 ∧ ∃ r, nz (dfs a b n) = df1 a b n :: r := by
  unfold df1
  unfold nz dfs at h ⊢
  by_cases h1 : (tf a).2 = 0
  · rw [if_neg (fun e => e h1)]
    by_cases h2 : (tf b).2 = 0
    · rw [if_neg (fun e => e h2)]
      by_cases h3 : n < 0 ∨ 1000 < n
      · rw [if_pos h3]
        refine ⟨by decide, [], ?_⟩
        simp [h1, h2]
      · rw [if_neg h3] at h
        simp [h1, h2] at h
    · rw [if_pos h2]
      refine ⟨h2, List.filter (fun f => decide (f ≠ 0)) [if n < 0 ∨ 1000 < n then 1 else 0], ?_⟩
      rw [List.filter_cons_of_neg (by simp [h1]), List.filter_cons_of_pos (by simp [h2])]
  · rw [if_pos h1]
    refine ⟨h1, List.filter (fun f => decide (f ≠ 0)) [(tf b).2, if n < 0 ∨ 1000 < n then 1 else 0], ?_⟩
    rw [List.filter_cons_of_pos (by simp [h1])]

/-- The first of what was joined, where it lies. -/
theorem join_cells {w : World} {B : Nat} {v : Value} {f : Int} {r : List Int} (hf : f ≠ 0) (h : w.ownsRow B 30 1 v (f :: r).length ((f :: r).map errV)) : ∃ g m c, v = .slice (some ⟨g, 0, none⟩) m c ∧ 0 < m ∧ w.cell? ⟨g, 0, none⟩ = some (.iface 26 (.int .i64 f)) := by
  rcases h.2 with ⟨_, h0⟩ | ⟨g, cap, cur, rfl, _, hh, _, _, _, ht⟩
  · simp at h0
  · refine ⟨g, _, cap, rfl, by simp, ?_⟩
    have hc : w.cell? ⟨g, 0, none⟩ = ((f :: r).map errV)[0]? := by
      rw [Lib.cell_of_heap hh, ← Array.getElem?_toList, ← ht, List.getElem?_take, if_pos (by simp)]
    rw [hc]
    simp [errV_not hf]

set_option maxRecDepth 100000 in
set_option maxHeartbeats 4000000 in
theorem diffIs_any (aa : Option Addr) (l : List Fl) (ca : Nat) (ab : Option Addr) (m : List Fl) (cb : Nat) (n : Int) (w : World) (ha : Fls w aa l) (hca : l.length ≤ ca) (h1 : l.length ≤ maxLen) (h2 : ∀ x ∈ l, x.2.length ≤ maxLen) (s1 : ∀ x ∈ l, ∀ s ∈ x.2, s.size ≤ maxLen) (hb : Fls w ab m) (hcb : m.length ≤ cb) (h3 : m.length ≤ maxLen) (h4 : ∀ x ∈ m, x.2.length ≤ maxLen) (s2 : ∀ x ∈ m, ∀ s ∈ x.2, s.size ≤ maxLen) (htl : TypeLaid w) :
    Calls Tryd.prog 5 #[.slice aa l.length ca, .slice ab m.length cb, .int .i64 n] w fun e w' => e = .returned (.bool true) ∧ Below w.heap.size w w' := by
  have hta := treeFault aa l ca w ha h1 h2 s1
  have HTB : Hid (∀ w', Below w.heap.size w w' → Calls Tryd.prog 6 #[.slice ab m.length cb] w' fun e w'' => e = .returned (.tuple #[.int .i64 (tf m).1, .int .i64 (tf m).2]) ∧ Below w'.heap.size w' w'') := fun w' h => treeFault ab m cb w' (hb.below h) h3 h4 s2
  obtain ⟨ka, hka⟩ : ∃ k, (tf l).1 = k := ⟨_, rfl⟩
  obtain ⟨kb, hkb⟩ : ∃ k, (tf m).1 = k := ⟨_, rfl⟩
  rw [hka] at hta
  rw [hkb] at HTB
  by_cases hne : nz (dfs l m n) = []
  · obtain ⟨t1, t2, n1, n2⟩ := nz_dfs.1 hne
    obtain ⟨N, rfl⟩ := Int.eq_ofNat_of_zero_le n1
    have hN : N ≤ 1000 := by omega
    rw [t1] at hta
    rw [t2] at HTB
    have HRD : Hid (∀ w', Below w.heap.size w w' → Calls Tryd.prog 19 #[.slice aa l.length ca, .slice ab m.length cb, .int .i64 N] w' fun e w'' => ∃ a' c', e = .returned (.slice a' (dfP l m N).length c') ∧ Below w'.heap.size w' w'' ∧ Chs w'' a' (dfP l m N)) := fun w' h => refDiff aa ab l m ca cb N w' (ha.below h) (hb.below h) hca t1 t2 hN
    have HPD : Hid (∀ w', Below w.heap.size w w' → Calls Tryd.prog 20 #[.slice aa l.length ca, .slice ab m.length cb, .int .i64 N] w' fun e w'' => ∃ a' c', e = .returned (.tuple #[.slice a' (dfP l m N).length c', .nilIface]) ∧ Below w'.heap.size w' w'' ∧ Chs w'' a' (dfP l m N)) := fun w' h => (diff_ok aa ab l m ca cb N w' (ha.below h) (hb.below h) hca hcb t1 t2 hN).mono fun e w'' ⟨a', c', he, hb, hc, _⟩ => ⟨a', c', he, hb, hc⟩
    have hkf := kf_dfP t1 t2 hN
    obtain ⟨p1, p2, p3⟩ := kf_max (p := dfP l m N) (by rw [hkf])
    have HPS : Hid (∀ w' a' c' a'' c'', Chs w' a' (dfP l m N) → Chs w' a'' (dfP l m N) → Calls Tryd.prog 21 #[.slice a' (dfP l m N).length c', .slice a'' (dfP l m N).length c''] w' fun e w'' => e = .returned (.bool true) ∧ Below w'.heap.size w' w'') := fun w' a' c' a'' c'' h1 h2 => patches_eq a' a'' (dfP l m N) c' c'' w' h1 h2 p1 p2 p3
    obtain ⟨P, hP⟩ : ∃ P, dfP l m N = P := ⟨_, rfl⟩
    rw [hP] at HRD HPD HPS
    obtain ⟨nl, hnl⟩ : ∃ x, l.length = x := ⟨_, rfl⟩
    obtain ⟨nm, hnm⟩ : ∃ x, m.length = x := ⟨_, rfl⟩
    obtain ⟨np, hnp⟩ : ∃ x, P.length = x := ⟨_, rfl⟩
    rw [hnl] at hta
    rw [hnm] at HTB
    rw [hnl, hnm, hnp] at HRD HPD
    rw [hnp] at HPS
    rw [hnl, hnm]
    have g1 : ¬ ((N : Int) < 0) := by omega
    have g2 : ¬ (1000 < (N : Int)) := by omega
    clear ha hb hca hcb h1 h2 h3 h4 s1 s2 hne t1 t2 n1 n2 hN hkf hP p1 p2 p3 hnl hnm hnp hka hkb htl
    go_enter Tryd.func5, Tryd.ntmps5
    go_wp2_with (go_at_call 6; refine hta.mono ?_)
    first | rintro e w1 rfl hb1 | rintro e w1 ⟨rfl, hb1⟩
    have htb := HTB.out w1 hb1
    have HB1 : Hid (Below w.heap.size w w1) := hb1
    clear hta HTB hb1
    go_wp2_with (go_at_call 6; refine htb.mono ?_)
    first | rintro e w2 rfl hb2 | rintro e w2 ⟨rfl, hb2⟩
    have hb2 := HB1.out.trans (hb2.mono HB1.out.size)
    have hrd := HRD.out w2 hb2
    have HB2 : Hid (Below w.heap.size w w2) := hb2
    clear htb hb2 HRD
    go_wp2_with (go_at_call 19; refine hrd.mono ?_)
    first | rintro e w3 a3 c3 rfl hb3 hc3 | rintro e w3 ⟨a3, c3, rfl, hb3, hc3⟩
    have hb3 := HB2.out.trans (hb3.mono HB2.out.size)
    have hpd := HPD.out w3 hb3
    have HB3 : Hid (Below w.heap.size w w3) := hb3
    have HC3 : Hid (Chs w3 a3 P) := hc3
    clear hrd hb3 hc3 HPD
    go_wp2_with (go_at_call 20; refine hpd.mono ?_)
    first | rintro e w4 a4 c4 rfl hb4 hc4 | rintro e w4 ⟨a4, c4, rfl, hb4, hc4⟩
    have hps := HPS.out w4 a4 c4 a3 c3 hc4 (HC3.out.below hb4)
    have hb4 := HB3.out.trans (hb4.mono HB3.out.size)
    have her := error_nil 0 w4
    have HB4 : Hid (Below w.heap.size w w4) := hb4
    clear hpd hb4 hc4 HPS HC3
    go_wp2_with (go_at_call 8; refine her.mono ?_)
    first | rintro e w5 rfl hw5 | rintro e w5 ⟨rfl, hw5⟩
    replace hw5 := hw5.symm
    subst hw5
    clear her
    go_wp2_with (go_at_call 21; refine hps.mono ?_)
    first | rintro e w6 rfl hb6 | rintro e w6 ⟨rfl, hb6⟩
    have hb6 := HB4.out.trans (hb6.mono HB4.out.size)
    clear hps
    go_wp2
    go_ret
    exact ⟨rfl, hb6⟩
  · obtain ⟨hf, r, hr⟩ := nz_first hne
    have HPD : Hid (∀ w', Below w.heap.size w w' → Calls Tryd.prog 20 #[.slice aa l.length ca, .slice ab m.length cb, .int .i64 n] w' fun e w'' => ∃ J g k c, e = .returned (.tuple #[.slice none 0 0, .iface 110 (.pointer (some ⟨J, 0, none⟩))]) ∧ Below w'.heap.size w' w'' ∧ w''.cell? ⟨J, 0, none⟩ = some (.slice (some ⟨g, 0, none⟩) k c) ∧ 0 < k ∧ w''.cell? ⟨g, 0, none⟩ = some (.iface 26 (.int .i64 (df1 l m n)))) := fun w' h => (diff_bad aa ab l m ca cb n w' (ha.below h) (hb.below h) h1 h2 h3 h4 hne).mono fun e w'' ⟨J, v, B, he, hb, hc, ho⟩ => by
      rw [hr] at ho
      obtain ⟨g, k, c, rfl, hk, hg⟩ := join_cells hf ho
      exact ⟨J, g, k, c, he, hb, hc, hk, hg⟩
    have HPS : Hid (∀ w', Calls Tryd.prog 21 #[.slice none 0 0, .slice none 0 0] w' fun e w'' => e = .returned (.bool true) ∧ Below w'.heap.size w' w'') := fun w' => patches_eq none none [] 0 0 w' (Chs.nil _ _) (Chs.nil _ _) (Nat.zero_le _) (fun c hc => by cases hc) (fun c hc => by cases hc)
    have HTY : Hid (∀ w', Below w.heap.size w w' → TypeLaid w') := fun w' h => htl.below h
    have HDF : Hid (df1 l m n = if (tf l).2 ≠ 0 then (tf l).2 else if (tf m).2 ≠ 0 then (tf m).2 else if n < 0 ∨ 1000 < n then 1 else 0) := rfl
    obtain ⟨f, hff⟩ : ∃ f, df1 l m n = f := ⟨_, rfl⟩
    rw [hff] at HPD HDF
    rw [hff] at hf
    obtain ⟨fa, hfa⟩ : ∃ f, (tf l).2 = f := ⟨_, rfl⟩
    obtain ⟨fb, hfb⟩ : ∃ f, (tf m).2 = f := ⟨_, rfl⟩
    rw [hfa] at hta HDF
    rw [hfb] at HTB HDF
    obtain ⟨nl, hnl⟩ : ∃ x, l.length = x := ⟨_, rfl⟩
    obtain ⟨nm, hnm⟩ : ∃ x, m.length = x := ⟨_, rfl⟩
    rw [hnl] at hta
    rw [hnm] at HTB
    rw [hnl, hnm] at HPD
    rw [hnl, hnm]
    clear ha hb hca hcb h1 h2 h3 h4 s1 s2 hne hr hff hfa hfb hnl hnm hka hkb htl
    by_cases q1 : fa = 0
    · by_cases q2 : fb = 0
      · have q3 : n < 0 ∨ 1000 < n := by
          by_cases q3 : n < 0 ∨ 1000 < n
          · exact q3
          · have := HDF.out
            rw [if_neg (fun e => e q1), if_neg (fun e => e q2), if_neg q3] at this
            exact absurd this hf
        obtain rfl : f = 1 := by rw [HDF.out, if_neg (fun e => e q1), if_neg (fun e => e q2), if_pos q3]
        subst q1 q2
        clear hf HDF
        rcases q3 with q3 | q3
        all_goals
          go_enter Tryd.func5, Tryd.ntmps5
          go_wp2_with (go_at_call 6; refine hta.mono ?_)
          rintro e w1 ⟨rfl, hb1⟩
          have htb := HTB.out w1 hb1
          have HB1 : Hid (Below w.heap.size w w1) := hb1
          clear hta HTB hb1
          go_wp2_with (go_at_call 6; refine htb.mono ?_)
          rintro e w2 ⟨rfl, hb2⟩
          have hb2 := HB1.out.trans (hb2.mono HB1.out.size)
          have hpd := HPD.out w2 hb2
          have HB2 : Hid (Below w.heap.size w w2) := hb2
          clear htb hb2 HPD
          go_wp2_with (go_at_call 20; refine hpd.mono ?_)
          rintro e w4 ⟨J, g, kk, cc, rfl, hb4, c1, c2, c3⟩
          have hb4 := HB2.out.trans (hb4.mono HB2.out.size)
          have her := error_join _ J g kk cc w4 (HTY.out w4 hb4) c1 c2 c3
          have HB4 : Hid (Below w.heap.size w w4) := hb4
          clear hpd hb4 c1 c2 c3 HTY
          go_wp2_with (go_at_call 8; refine her.mono ?_)
          rintro e w5 ⟨rfl, hb5⟩
          have hb5 := HB4.out.trans (hb5.mono HB4.out.size)
          have hps := HPS.out w5
          have HB5 : Hid (Below w.heap.size w w5) := hb5
          clear her hb5 HPS
          go_wp2_with (go_at_call 21; refine hps.mono ?_)
          rintro e w6 ⟨rfl, hb6⟩
          have hb6 := HB5.out.trans (hb6.mono HB5.out.size)
          clear hps
          go_wp2
          go_ret
          exact ⟨rfl, hb6⟩
      · obtain rfl : f = fb := by rw [HDF.out, if_neg (fun e => e q1), if_pos q2]
        subst q1
        have q4 : (f == 0) = false := by simp [q2]
        clear hf HDF
        go_enter Tryd.func5, Tryd.ntmps5
        go_wp2_with (go_at_call 6; refine hta.mono ?_)
        rintro e w1 ⟨rfl, hb1⟩
        have htb := HTB.out w1 hb1
        have HB1 : Hid (Below w.heap.size w w1) := hb1
        clear hta HTB hb1
        go_wp2_with (go_at_call 6; refine htb.mono ?_)
        rintro e w2 ⟨rfl, hb2⟩
        have hb2 := HB1.out.trans (hb2.mono HB1.out.size)
        have hpd := HPD.out w2 hb2
        have HB2 : Hid (Below w.heap.size w w2) := hb2
        clear htb hb2 HPD
        go_wp2_with (go_at_call 20; refine hpd.mono ?_)
        rintro e w4 ⟨J, g, kk, cc, rfl, hb4, c1, c2, c3⟩
        have hb4 := HB2.out.trans (hb4.mono HB2.out.size)
        have her := error_join _ J g kk cc w4 (HTY.out w4 hb4) c1 c2 c3
        have HB4 : Hid (Below w.heap.size w w4) := hb4
        clear hpd hb4 c1 c2 c3 HTY
        go_wp2_with (go_at_call 8; refine her.mono ?_)
        rintro e w5 ⟨rfl, hb5⟩
        have hb5 := HB4.out.trans (hb5.mono HB4.out.size)
        have hps := HPS.out w5
        have HB5 : Hid (Below w.heap.size w w5) := hb5
        clear her hb5 HPS
        go_wp2_with (go_at_call 21; refine hps.mono ?_)
        rintro e w6 ⟨rfl, hb6⟩
        have hb6 := HB5.out.trans (hb6.mono HB5.out.size)
        clear hps
        go_wp2
        go_ret
        exact ⟨rfl, hb6⟩
    · obtain rfl : f = fa := by rw [HDF.out, if_pos q1]
      have q4 : (f == 0) = false := by simp [q1]
      clear hf HDF HTB
      go_enter Tryd.func5, Tryd.ntmps5
      go_wp2_with (go_at_call 6; refine hta.mono ?_)
      rintro e w2 ⟨rfl, hb2⟩
      have hpd := HPD.out w2 hb2
      have HB2 : Hid (Below w.heap.size w w2) := hb2
      clear hta hb2 HPD
      go_wp2_with (go_at_call 20; refine hpd.mono ?_)
      rintro e w4 ⟨J, g, kk, cc, rfl, hb4, c1, c2, c3⟩
      have hb4 := HB2.out.trans (hb4.mono HB2.out.size)
      have her := error_join _ J g kk cc w4 (HTY.out w4 hb4) c1 c2 c3
      have HB4 : Hid (Below w.heap.size w w4) := hb4
      clear hpd hb4 c1 c2 c3 HTY
      go_wp2_with (go_at_call 8; refine her.mono ?_)
      rintro e w5 ⟨rfl, hb5⟩
      have hb5 := HB4.out.trans (hb5.mono HB4.out.size)
      have hps := HPS.out w5
      have HB5 : Hid (Below w.heap.size w w5) := hb5
      clear her hb5 HPS
      go_wp2_with (go_at_call 21; refine hps.mono ?_)
      rintro e w6 ⟨rfl, hb6⟩
      have hb6 := HB5.out.trans (hb6.mono HB5.out.size)
      clear hps
      go_wp2
      go_ret
      exact ⟨rfl, hb6⟩

end Go.Proofs.YtmidbhikhbbpbacDoor
