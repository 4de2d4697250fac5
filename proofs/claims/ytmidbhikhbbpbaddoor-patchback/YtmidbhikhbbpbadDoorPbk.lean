/-
  The walk of the law PatchBack: any patch that was done to a tree, turned, leads back; turned twice it is itself; a patch that is refused leaves nothing.
-/
import Derived.Test.YtmidbhikhbbpbadDoorPay
import Derived.Test.YtmidbhikhbbpbadDoorRtf

namespace Go.Proofs.YtmidbhikhbbpbadDoor
open Go.RowKit Dist

set_option maxRecDepth 100000 in
theorem fact_path : pf (⟨#[97]⟩ : ByteArray).data.toList = 0 := by decide +kernel

theorem fact_kf : kf [(2, ⟨#[97]⟩, [])] = (0, 0) := by
  refine kf_of (by simp) (List.pairwise_singleton _ _) fun c hc => ?_
  rw [List.mem_singleton.1 hc]
  exact cOne_of (c := (2, ⟨#[97]⟩, [])) ⟨by decide, by decide⟩ fact_path rfl rfl

theorem fact_turn : tOfP [(2, ⟨#[97]⟩, [])] = [(3, ⟨#[97]⟩, [])] := by
  unfold tOfP
  rw [if_pos (by rw [fact_kf])]
  rfl

/-- A change without hunks in a block of its own. -/
theorem chs_new (w : World) (wh : Int) (p : ByteArray) (t : TypeId) : Chs (w.alloc (.cells #[.int .i64 wh, .string p, .slice none 0 0] t)) (some ⟨w.heap.size, 0, none⟩) [(wh, p, [])] := by
  have hh := heap_alloc_new w (.cells #[.int .i64 wh, .string p, .slice none 0 0] t)
  intro i hi
  obtain rfl : i = 0 := by simpa using hi
  exact ⟨w.heap.size, 0, none, 0, rfl, by rw [Lib.cell_of_heap hh]; rfl, by rw [Lib.cell_of_heap hh]; rfl, by rw [Lib.cell_of_heap hh]; rfl, Hks.nil _ _, Nat.le_refl _⟩

theorem trn_small {l : List Hk} (h : (hf l).2 = 0) : (trn l).length ≤ 60 ∧ ∀ x ∈ trn l, x.2.2.length ≤ 120 := by
  obtain ⟨_, h1, h2⟩ := hf_good h
  refine ⟨by simp [trn]; exact h1, fun x hx => ?_⟩
  obtain ⟨y, hy, rfl⟩ := List.mem_map.1 hx
  have := (sf_zero (h2 y hy).1).1
  simpa [tn, swm] using this

theorem tOfP_small (p : List Ch) : (tOfP p).length ≤ 16 ∧ (∀ c ∈ tOfP p, c.2.2.length ≤ 60) ∧ ∀ c ∈ tOfP p, ∀ h ∈ c.2.2, h.2.2.length ≤ 120 := by
  by_cases h : (kf p).2 = 0
  · have e : tOfP p = trP p := by unfold tOfP; rw [if_pos h]
    rw [e]
    obtain ⟨k1, _, k3⟩ := kf_zero h
    refine ⟨by unfold trP; rw [List.length_map]; exact k1, fun c hc => ?_, fun c hc => ?_⟩
    · obtain ⟨d, hd, rfl⟩ := List.mem_map.1 hc
      exact (trn_small (cOne_zero (k3 d hd)).2.2.1).1
    · obtain ⟨d, hd, rfl⟩ := List.mem_map.1 hc
      exact (trn_small (cOne_zero (k3 d hd)).2.2.1).2
  · have e : tOfP p = [] := by unfold tOfP; rw [if_neg h]
    rw [e]
    exact ⟨Nat.zero_le _, fun c hc => (by cases hc), fun c hc => (by cases hc)⟩

theorem tOfP_max (p : List Ch) : (tOfP p).length ≤ maxLen ∧ (∀ c ∈ tOfP p, c.2.2.length ≤ maxLen) ∧ ∀ c ∈ tOfP p, ∀ h ∈ c.2.2, h.2.2.length ≤ maxLen := by
  obtain ⟨h1, h2, h3⟩ := tOfP_small p
  refine ⟨by unfold maxLen; omega, fun c hc => ?_, fun c hc h hh => ?_⟩
  · have := h2 c hc; unfold maxLen; omega
  · have := h3 c hc h hh; unfold maxLen; omega

theorem apF_small (t : List Fl) (p : List Ch) : (apF t p).1.length ≤ maxLen ∧ ∀ x ∈ (apF t p).1, x.2.length ≤ maxLen := by
  by_cases h : (apF t p).2.2 = 0
  · obtain ⟨h1, h2, h3, h4, h5⟩ := apF_zero h
    obtain ⟨_, _, t3⟩ := tf_zero (l := (apR t p 0).1) (by rw [apR_tree h1 h2 h3 h4])
    rw [h5]
    refine ⟨by show (apR t p 0).1.length ≤ maxLen; unfold maxLen; omega, fun x hx => ?_⟩
    have := (fOne_small (t3 x hx)).2.1
    unfold maxLen; omega
  · rw [apF_bad h]
    exact ⟨Nat.zero_le _, fun x hx => by cases hx⟩

theorem tOfP_ok {p : List Ch} (h : (kf p).2 = 0) : (kf (tOfP p)).2 = 0 ∧ tOfP (tOfP p) = p := by
  have e : tOfP p = trP p := by unfold tOfP; rw [if_pos h]
  have hk := kf_trP h
  rw [e]
  refine ⟨by rw [hk], ?_⟩
  unfold tOfP
  rw [if_pos (by rw [hk])]
  exact trP_trP fun c hc => (cOne_zero ((kf_zero h).2.2 c hc)).1

set_option maxRecDepth 100000 in
set_option maxHeartbeats 4000000 in
theorem patchBack_any (a : Option Addr) (t : List Fl) (ca : Nat) (b : Option Addr) (p : List Ch) (cb : Nat) (w : World) (ha : Fls w a t) (hca : t.length ≤ ca) (hm : t.length ≤ maxLen) (hml : ∀ x ∈ t, x.2.length ≤ maxLen)
    (hb : Chs w b p) (gm : p.length ≤ maxLen) (gml : ∀ c ∈ p, c.2.2.length ≤ maxLen) (gms : ∀ c ∈ p, ∀ h ∈ c.2.2, h.2.2.length ≤ maxLen) :
    Calls Tryd.prog 4 #[.slice a t.length ca, .slice b p.length cb] w fun e w' => e = .returned (.bool true) ∧ Below w.heap.size w w' := by
  have hb0 := below_alloc w (.cells #[.int .i64 2, .string ⟨#[97]⟩, .slice none 0 0] 33)
  have ht0 := patchTurn (some ⟨w.heap.size, 0, none⟩) [(2, ⟨#[97]⟩, [])] 1 _ (chs_new w 2 ⟨#[97]⟩ 33) (by simp [maxLen]) (fun c hc => by rw [List.mem_singleton.1 hc]; exact Nat.zero_le _) (fun c hc h hh => by rw [List.mem_singleton.1 hc] at hh; cases hh)
  rw [fact_turn, fact_kf] at ht0
  dsimp only at ht0
  rw [errV_zero] at ht0
  have HB0 : Hid (Below w.heap.size w (w.alloc (.cells #[.int .i64 2, .string ⟨#[97]⟩, .slice none 0 0] 33))) := hb0
  have HT1 : Hid (∀ w', Below w.heap.size w w' → Calls Tryd.prog 8 #[.slice b p.length cb] w' fun e w'' => ∃ a' c', e = .returned (.tuple #[.slice a' (tOfP p).length c', errV (kf p).2]) ∧ Below w'.heap.size w' w'' ∧ Chs w'' a' (tOfP p) ∧ (tOfP p).length ≤ c') := fun w' h => patchTurn b p cb w' (hb.below h) gm gml gms
  obtain ⟨m1, m2, m3⟩ := tOfP_max p
  have HT2 : Hid (∀ w' a' c', Chs w' a' (tOfP p) → Calls Tryd.prog 8 #[.slice a' (tOfP p).length c'] w' fun e w'' => ∃ a'' c'', e = .returned (.tuple #[.slice a'' (tOfP (tOfP p)).length c'', errV (kf (tOfP p)).2]) ∧ Below w'.heap.size w' w'' ∧ Chs w'' a'' (tOfP (tOfP p)) ∧ (tOfP (tOfP p)).length ≤ c'') := fun w' a' c' h => patchTurn a' (tOfP p) c' w' h m1 m2 m3
  have HAP : Hid (∀ w', Below w.heap.size w w' → Calls Tryd.prog 7 #[.slice a t.length ca, .slice b p.length cb] w' fun e w'' => ∃ a' c', e = .returned (.tuple #[.slice a' (apF t p).1.length c', .int .i64 (apF t p).2.1, errV (apF t p).2.2]) ∧ Below w'.heap.size w' w'' ∧ Fls w'' a' (apF t p).1 ∧ (apF t p).1.length ≤ c') := fun w' h => patchApply a t ca b p cb w' (ha.below h) hca hm hml (hb.below h) gm gml gms
  obtain ⟨s1, s2⟩ := apF_small t p
  have HAQ : Hid (∀ w' a' c' a'' c'', Fls w' a' (apF t p).1 → (apF t p).1.length ≤ c' → Chs w' a'' (tOfP p) → Calls Tryd.prog 7 #[.slice a' (apF t p).1.length c', .slice a'' (tOfP p).length c''] w' fun e w'' => ∃ x y, e = .returned (.tuple #[.slice x (apF (apF t p).1 (tOfP p)).1.length y, .int .i64 (apF (apF t p).1 (tOfP p)).2.1, errV (apF (apF t p).1 (tOfP p)).2.2]) ∧ Below w'.heap.size w' w'' ∧ Fls w'' x (apF (apF t p).1 (tOfP p)).1 ∧ (apF (apF t p).1 (tOfP p)).1.length ≤ y) := fun w' a' c' a'' c'' h1 h2 h3 => patchApply a' (apF t p).1 c' a'' (tOfP p) c'' w' h1 h2 s1 s2 h3 m1 m2 m3
  have HPS : Hid (∀ w' a' c', Below w.heap.size w w' → Chs w' a' p → Calls Tryd.prog 10 #[.slice a' p.length c', .slice b p.length cb] w' fun e w'' => e = .returned (.bool true) ∧ Below w'.heap.size w' w'') := fun w' a' c' h h2 => patches_eq a' b p c' cb w' h2 (hb.below h) gm gml gms
  have HTS : Hid (∀ w' a' c', Below w.heap.size w w' → Fls w' a' t → Calls Tryd.prog 9 #[.slice a' t.length c', .slice a t.length ca] w' fun e w'' => e = .returned (.bool true) ∧ Below w'.heap.size w' w'') := fun w' a' c' h h2 => trees_eq a' a t c' ca w' h2 (ha.below h) hm hml
  have K1 : Hid ((kf p).2 = 0 → (kf (tOfP p)).2 = 0 ∧ tOfP (tOfP p) = p) := tOfP_ok
  have K2 : Hid ((apF t p).2.2 ≠ 0 → (apF t p).1 = []) := apF_bad
  have K3 : Hid ((apF t p).2.2 = 0 → (kf p).2 = 0 ∧ apF (apF t p).1 (tOfP p) = (t, 0, 0)) := fun h => by
    obtain ⟨_, h2, _⟩ := apF_zero h
    have e : tOfP p = trP p := by unfold tOfP; rw [if_pos h2]
    rw [e]
    exact ⟨h2, apF_undo h⟩
  obtain ⟨nt, hnt⟩ : ∃ n, t.length = n := ⟨_, rfl⟩
  obtain ⟨np, hnp⟩ : ∃ n, p.length = n := ⟨_, rfl⟩
  obtain ⟨X, hX⟩ : ∃ X, tOfP p = X := ⟨_, rfl⟩
  obtain ⟨f, hff⟩ : ∃ f, (kf p).2 = f := ⟨_, rfl⟩
  obtain ⟨g, hg⟩ : ∃ f, (kf X).2 = f := ⟨_, rfl⟩
  obtain ⟨Y, hY⟩ : ∃ Y, tOfP X = Y := ⟨_, rfl⟩
  obtain ⟨Z, hZ⟩ : ∃ Z, apF t p = Z := ⟨_, rfl⟩
  obtain ⟨V, hV⟩ : ∃ V, apF Z.1 X = V := ⟨_, rfl⟩
  rw [hX] at HT1 HT2 HAQ K1 K3
  rw [hff] at HT1 K1 K3
  rw [hg, hY] at HT2 K1
  rw [hZ] at HAP HAQ K2 K3
  rw [hV] at HAQ K3
  rw [hnt] at HAP HTS
  rw [hnp] at HT1 HAP HPS
  rw [hnt, hnp]
  have HNP : Hid (p.length = np) := hnp
  have HNT : Hid (t.length = nt) := hnt
  clear ha hb hm hml gm gml gms hca hb0 m1 m2 m3 s1 s2 hnt hnp hX hff hg hY hZ hV
  go_enter Tryd.func4, Tryd.ntmps4
  go_wp2_with (go_at_call 8; refine ht0.mono ?_)
  rintro e w1 ⟨a1, c1, rfl, hb1, hc1, _⟩
  obtain ⟨b1, o1, rfl⟩ := hc1.addr (i := 0) (by simp)
  obtain ⟨_, _, y0, _⟩ := hc1.at (i := 0) (by simp)
  rw [Nat.zero_mul, Nat.add_zero] at y0
  replace y0 : w1.cell? ⟨b1, o1, none⟩ = some (.int .i64 3) := y0
  have hb1 := HB0.out.trans (hb1.mono HB0.out.size)
  have ht1 := HT1.out w1 hb1
  have HBB1 : Hid (Below w.heap.size w w1) := hb1
  clear ht0 HB0 HT1 hc1 hb1
  rw [List.length_singleton]
  by_cases hf0 : f = 0
  · obtain ⟨k1, k2⟩ := K1.out hf0
    subst k2
    have ht2 := HT2.out
    rw [k1, errV_zero] at ht2
    rw [hf0, errV_zero] at ht1
    have HT2' : Hid (∀ w' a' c', Chs w' a' X → Calls Tryd.prog 8 #[.slice a' X.length c'] w' fun e w'' => ∃ a'' c'', e = .returned (.tuple #[.slice a'' Y.length c'', .nilIface]) ∧ Below w'.heap.size w' w'' ∧ Chs w'' a'' Y ∧ Y.length ≤ c'') := ht2
    obtain ⟨nx, hnx⟩ : ∃ n, X.length = n := ⟨_, rfl⟩
    have HNX : Hid (X.length = nx) := hnx
    rw [hnx] at ht1
    clear ht2 HT2 K1 k1 hnx
    go_wp2_with (go_at_call 8; refine ht1.mono ?_)
    rintro e w2 ⟨a2, c2, rfl, hb2, hc2, _⟩
    have hb2 := HBB1.out.trans (hb2.mono HBB1.out.size)
    have HX2 : Hid (Chs w2 a2 X) := hc2
    have ht2 := HT2'.out w2 a2 c2 hc2
    rw [HNX.out, HNP.out] at ht2
    have HBB2 : Hid (Below w.heap.size w w2) := hb2
    clear ht1 HT2' hb2 hc2 y0
    go_wp2_with (go_at_call 8; refine ht2.mono ?_)
    rintro e w3 ⟨a3, c3, rfl, hb3, hc3, _⟩
    have HX3 : Hid (Chs w3 a2 X) := HX2.out.below hb3
    have hb3 := HBB2.out.trans (hb3.mono HBB2.out.size)
    have hps := HPS.out w3 a3 c3 hb3 hc3
    have HBB3 : Hid (Below w.heap.size w w3) := hb3
    clear ht2 hb3 hc3 HPS HX2
    go_wp2_with (go_at_call 10; refine hps.mono ?_)
    rintro e w4 ⟨rfl, hb4⟩
    have HX4 : Hid (Chs w4 a2 X) := HX3.out.below hb4
    have hb4 := HBB3.out.trans (hb4.mono HBB3.out.size)
    have hap := HAP.out w4 hb4
    have HBB4 : Hid (Below w.heap.size w w4) := hb4
    clear hps hb4 HAP HX3
    by_cases hz : Z.2.2 = 0
    · obtain ⟨_, hv⟩ := K3.out hz
      have haq := HAQ.out
      rw [hv] at haq
      rw [hz, errV_zero] at hap
      have HAQ' : Hid (∀ w' a' c' a'' c'', Fls w' a' Z.1 → Z.1.length ≤ c' → Chs w' a'' X → Calls Tryd.prog 7 #[.slice a' Z.1.length c', .slice a'' X.length c''] w' fun e w'' => ∃ x y, e = .returned (.tuple #[.slice x t.length y, .int .i64 0, .nilIface]) ∧ Below w'.heap.size w' w'' ∧ Fls w'' x t ∧ t.length ≤ y) := fun w' a' c' a'' c'' h1 h2 h3 => haq w' a' c' a'' c'' h1 h2 h3
      obtain ⟨nz, hnz⟩ : ∃ n, Z.1.length = n := ⟨_, rfl⟩
      have HNZ : Hid (Z.1.length = nz) := hnz
      obtain ⟨zk, hzk⟩ : ∃ n, Z.2.1 = n := ⟨_, rfl⟩
      rw [hnz, hzk] at hap
      clear haq HAQ K3 K2 hv hz hnz hzk
      go_wp2_with (go_at_call 7; refine hap.mono ?_)
      rintro e w5 ⟨a5, c5, rfl, hb5, hf5, hc5⟩
      have haq := HAQ'.out w5 a5 c5 a2 c2 hf5 (by rw [HNZ.out]; exact hc5) (HX4.out.below hb5)
      rw [HNZ.out, HNX.out, HNT.out] at haq
      have hb5 := HBB4.out.trans (hb5.mono HBB4.out.size)
      have HBB5 : Hid (Below w.heap.size w w5) := hb5
      clear hap HAQ' hb5 hf5 HX4
      go_wp2_with (go_at_call 7; refine haq.mono ?_)
      rintro e w6 ⟨a6, c6, rfl, hb6, hf6, hc6⟩
      have hb6 := HBB5.out.trans (hb6.mono HBB5.out.size)
      have hts := HTS.out w6 a6 c6 hb6 hf6
      have HBB6 : Hid (Below w.heap.size w w6) := hb6
      clear haq hb6 hf6 HTS
      go_wp2_with (go_at_call 9; refine hts.mono ?_)
      rintro e w7 ⟨rfl, hb7⟩
      have hb7 := HBB6.out.trans (hb7.mono HBB6.out.size)
      clear hts
      go_wp2
      go_ret
      exact ⟨rfl, hb7⟩
    · have hz1 := K2.out hz
      rw [errV_not hz, hz1] at hap
      obtain ⟨zk, hzk⟩ : ∃ n, Z.2.1 = n := ⟨_, rfl⟩
      obtain ⟨zf, hzf⟩ : ∃ n, Z.2.2 = n := ⟨_, rfl⟩
      rw [hzf, hzk, List.length_nil] at hap
      clear HAQ K3 K2 hz hz1 hzk hzf HTS
      go_wp2_with (go_at_call 7; refine hap.mono ?_)
      rintro e w5 ⟨a5, c5, rfl, hb5, hf5, hc5⟩
      have hb5 := HBB4.out.trans (hb5.mono HBB4.out.size)
      clear hap hf5
      go_wp2
      go_ret
      exact ⟨rfl, hb5⟩
  · have hz : Z.2.2 ≠ 0 := fun e => hf0 (K3.out e).1
    have hz1 := K2.out hz
    rw [errV_not hf0] at ht1
    obtain ⟨nx, hnx⟩ : ∃ n, X.length = n := ⟨_, rfl⟩
    obtain ⟨ny, hny⟩ : ∃ n, Y.length = n := ⟨_, rfl⟩
    rw [hnx] at ht1 HT2
    rw [hny] at HT2
    have HZ : Hid (Z.2.2 ≠ 0) := hz
    have HZ1 : Hid (Z.1 = []) := hz1
    obtain ⟨ge, hge⟩ : ∃ v, errV g = v := ⟨_, rfl⟩
    rw [hge] at HT2
    clear K1 K2 K3 hz hz1 HAQ hnx hny HPS hge
    go_wp2_with (go_at_call 8; refine ht1.mono ?_)
    rintro e w2 ⟨a2, c2, rfl, hb2, hc2, _⟩
    have hb2 := HBB1.out.trans (hb2.mono HBB1.out.size)
    have ht2 := HT2.out w2 a2 c2 hc2
    have HBB2 : Hid (Below w.heap.size w w2) := hb2
    clear ht1 HT2 hb2 hc2 y0
    go_wp2_with (go_at_call 8; refine ht2.mono ?_)
    rintro e w3 ⟨a3, c3, rfl, hb3, hc3, _⟩
    have hb3 := HBB2.out.trans (hb3.mono HBB2.out.size)
    have hap := HAP.out w3 hb3
    have HBB3 : Hid (Below w.heap.size w w3) := hb3
    rw [errV_not HZ.out, HZ1.out, List.length_nil] at hap
    obtain ⟨zk, hzk⟩ : ∃ n, Z.2.1 = n := ⟨_, rfl⟩
    obtain ⟨zf, hzf⟩ : ∃ n, Z.2.2 = n := ⟨_, rfl⟩
    rw [hzf, hzk] at hap
    clear ht2 hb3 hc3 HAP hzk hzf HTS
    go_wp2_with (go_at_call 7; refine hap.mono ?_)
    rintro e w5 ⟨a5, c5, rfl, hb5, hf5, hc5⟩
    have hb5 := HBB3.out.trans (hb5.mono HBB3.out.size)
    clear hap hf5
    go_wp2
    go_ret
    exact ⟨rfl, hb5⟩

end Go.Proofs.YtmidbhikhbbpbadDoor
