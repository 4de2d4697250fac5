/-
  The walk of tree.Put: the tree with a file, in the place of one of its path.
-/
import Derived.Test.YtlmibninfpebiacDoorGpd

namespace Go.Proofs.YtlmibninfpebiacDoor
open Go.RowKit

/-- A file in a block of its own. -/
theorem fls_one {w : World} {p : ByteArray} {am : Option Addr} {ss : List ByteArray} {cm : Nat} (t : TypeId) (h : Strs w am ss) (hc : ss.length ≤ cm) : Fls (w.alloc (.cells #[.string p, .slice am ss.length cm] t)) (some ⟨w.heap.size, 0, none⟩) [(p, ss)] := by
  intro i hi
  obtain rfl : i = 0 := by simpa using hi
  have hblk := heap_alloc_new w (.cells #[.string p, .slice am ss.length cm] t)
  have hbl := below_alloc w (.cells #[.string p, .slice am ss.length cm] t)
  exact ⟨_, 0, am, cm, rfl, by rw [Lib.cell_of_heap hblk]; rfl, by rw [Lib.cell_of_heap hblk]; rfl, h.below hbl, hc⟩

theorem put_flat {l : List Fl} (h : Ris l) (f : Fl) (en : Nat) (he : (eqs l f.1 ≠ [] ∧ en = pl l f.1 + 1) ∨ (eqs l f.1 = [] ∧ en = pl l f.1)) : [l.take (pl l f.1), [f], l.drop en].flatten = putM l f ∧ en ≤ l.length := by
  rcases he with ⟨h1, rfl⟩ | ⟨h1, rfl⟩
  · obtain ⟨hd, hlt, _⟩ := h.drop_more h1
    refine ⟨?_, hlt⟩
    rw [h.take, hd]; unfold putM; simp
  · refine ⟨?_, pl_le _ _⟩
    rw [h.take, h.drop, h1]; unfold putM; simp

set_option maxRecDepth 100000 in
set_option maxHeartbeats 1000000 in
theorem put_tree (a : Option Addr) (l : List Fl) (ca : Nat) (p : ByteArray) (am : Option Addr) (q cm : Nat) (w : World) (ha : Fls w a l) (hm : l.length ≤ maxLen) (hms : ∀ x ∈ l, x.2.length ≤ maxLen) (h1 : (tf l).2 ≠ 0) :
    Calls Tryd.prog 17 #[.slice a l.length ca, .agg #[.string p, .slice am q cm]] w fun e w' => e = .returned (.tuple #[.slice none 0 0, .iface 26 (.int .i64 (tf l).2)]) ∧ Below w.heap.size w w' := by
  have hb0 := below_alloc w (.cells #[.string p, .slice am q cm] 25)
  have hck := treeCheck a l ca _ (ha.below hb0) hm hms
  rw [errV_not h1] at hck
  have HB0 : Hid (Below w.heap.size w (w.alloc (.cells #[.string p, .slice am q cm] 25))) := hb0
  obtain ⟨n, hn⟩ : ∃ n, l.length = n := ⟨_, rfl⟩
  obtain ⟨t, ht⟩ : ∃ t, (tf l).1 = t := ⟨_, rfl⟩
  obtain ⟨f, hf⟩ : ∃ f, (tf l).2 = f := ⟨_, rfl⟩
  rw [hn, ht, hf] at hck
  rw [hn, hf]
  clear ha hm hms h1 hn ht hf hb0
  go_enter Tryd.func17, Tryd.ntmps17
  go_wp2_with (go_at_call 6; refine hck.mono ?_)
  rintro e w1 ⟨rfl, hb1⟩
  have hb1 := HB0.out.trans (hb1.mono HB0.out.size)
  clear hck HB0
  go_wp2
  go_ret2
  exact ⟨rfl, hb1⟩

set_option maxRecDepth 100000 in
set_option maxHeartbeats 1000000 in
theorem put_file (a : Option Addr) (l : List Fl) (ca : Nat) (p : ByteArray) (am : Option Addr) (ss : List ByteArray) (cm : Nat) (w : World) (ha : Fls w a l) (hm : l.length ≤ maxLen) (hms : ∀ x ∈ l, x.2.length ≤ maxLen) (hst : Strs w am ss) (hss : ss.length ≤ maxLen) (h1 : (tf l).2 = 0) (h2 : fOne (p, ss) ≠ 0) :
    Calls Tryd.prog 17 #[.slice a l.length ca, .agg #[.string p, .slice am ss.length cm]] w fun e w' => e = .returned (.tuple #[.slice none 0 0, .iface 26 (.int .i64 (fOne (p, ss)))]) ∧ Below w.heap.size w w' := by
  have hb0 := below_alloc w (.cells #[.string p, .slice am ss.length cm] 25)
  have hck := treeCheck a l ca _ (ha.below hb0) hm hms
  rw [h1, errV_zero] at hck
  have HCF := fun w' h => checkFile p am ss cm w' (hst.below (w' := w') h) hss
  rw [errV_not h2] at HCF
  have HB0 : Hid (Below w.heap.size w (w.alloc (.cells #[.string p, .slice am ss.length cm] 25))) := hb0
  obtain ⟨n, hn⟩ : ∃ n, l.length = n := ⟨_, rfl⟩
  obtain ⟨q, hq⟩ : ∃ q, ss.length = q := ⟨_, rfl⟩
  obtain ⟨t, ht⟩ : ∃ t, (tf l).1 = t := ⟨_, rfl⟩
  obtain ⟨f, hf⟩ : ∃ f, fOne (p, ss) = f := ⟨_, rfl⟩
  rw [hn, ht, hq] at hck
  rw [hf, hq] at HCF
  rw [hq] at HB0
  rw [hn, hf, hq]
  clear ha hm hms h1 hn ht hf hb0 hst hss h2 hq
  go_enter Tryd.func17, Tryd.ntmps17
  go_wp2_with (go_at_call 6; refine hck.mono ?_)
  rintro e w1 ⟨rfl, hb1⟩
  obtain ⟨d0, d1⟩ := cells2_later hb1
  have hb1 := HB0.out.trans (hb1.mono HB0.out.size)
  have hcf := HCF w1 hb1
  clear hck HB0 HCF
  go_wp2_with (go_at_call 18; refine hcf.mono ?_)
  rintro e w2 ⟨rfl, hb2⟩
  have hb2 := hb1.trans (hb2.mono hb1.size)
  clear hcf hb1
  go_wp2
  go_ret2
  exact ⟨rfl, hb2⟩

set_option maxRecDepth 100000 in
set_option maxHeartbeats 8000000 in
theorem put_ok (a : Option Addr) (l : List Fl) (ca : Nat) (p : ByteArray) (am : Option Addr) (ss : List ByteArray) (cm : Nat) (w : World) (ha : Fls w a l) (hca : l.length ≤ ca) (hst : Strs w am ss) (hsc : ss.length ≤ cm) (h1 : (tf l).2 = 0) (h2 : fOne (p, ss) = 0) :
    Calls Tryd.prog 17 #[.slice a l.length ca, .agg #[.string p, .slice am ss.length cm]] w fun e w' => ∃ g c, e = .returned (.tuple #[.slice g (ul l (p, ss)).length c, errV (uf l (p, ss))]) ∧ Fls w' g (ul l (p, ss)) ∧ (ul l (p, ss)).length ≤ c ∧ Below w.heap.size w w' := by
  obtain ⟨t1, t2, t3⟩ := tf_zero h1
  have hb0 := below_alloc w (.cells #[.string p, .slice am ss.length cm] 25)
  have hck := treeCheck a l ca _ (ha.below hb0) (by unfold maxLen; omega) (fun x hx => by have := (fOne_small (t3 x hx)).2.1; unfold maxLen; omega)
  rw [h1, errV_zero] at hck
  have HCF := fun w' h => checkFile p am ss cm w' (hst.below (w' := w') h) (by have := (fOne_small h2).2.1; simp only at this; unfold maxLen; omega)
  rw [h2, errV_zero] at HCF
  have HPL := fun w' h => placeOf a l ca p w' (ha.below (w' := w') h) t2 (by omega)
  have HHA := fun w' h => hasAt a l ca (pl l p) p w' (ha.below (w' := w') h)
  rw [hasPl t2] at HHA
  have hplen := t2.put_length (p, ss)
  have HCP := fun w a' c (h : Fls w a' (putM l (p, ss))) (hl : (putM l (p, ss)).length ≤ 8) => copyFiles a' (putM l (p, ss)) c w h (by omega) (fun x hx => by
    rcases mem_putM hx with rfl | hx
    · exact fOne_small h2
    · exact fOne_small (t3 x hx))
  have HFR := fun w (h : Fls w a l) => h.front hca (pl l p)
  have HRE := fun w en (h : Fls w a l) => h.rest hca en
  have HPF := fun en he => put_flat t2 (p, ss) en he
  have hl1 : (l.take (pl l p)).length = pl l p := by rw [List.length_take]; have := pl_le l p; omega
  have hl2 : ∀ en, (l.drop en).length = l.length - en := fun en => List.length_drop
  have hl3 : ([(p, ss)] : List Fl).length = 1 := rfl
  have HCC := fun (w1 : World) en (he : _) (h : Fls w1 a l) (hs : Strs w1 am ss) => concatF _ _ 3 _ (fts_three (w1.alloc (.cells #[.string p, .slice am ss.length cm] 25)) (fa a ca 0) (some ⟨w1.heap.size, 0, none⟩) (fa a ca en) (l.take (pl l p)) [(p, ss)] (l.drop en) ca 1 (ca - en) 22 ((HFR _ h).below (below_alloc _ _)) (fls_one _ hs hsc) ((HRE _ en h).below (below_alloc _ _))) (by rw [(HPF en he).1]; by_cases e : eqs l p = [] <;> simp [hplen, e] <;> omega) (by simp)
  have HUF : Hid (¬ 8 < (putM l (p, ss)).length → uf l (p, ss) = 0) := fun h => uf_of h1 h2 (fun ⟨e1, e2⟩ => h (by rw [hplen.2 e1]; omega))
  have HUN : Hid (8 < (putM l (p, ss)).length → uf l (p, ss) = 3) := fun h => uf_full h1 h2 (by
    by_cases e : eqs l p = []
    · rw [hplen.2 e] at h; exact ⟨e, by omega⟩
    · rw [hplen.1 e] at h; omega)
  have UL1 : Hid (uf l (p, ss) = 0 → ul l (p, ss) = putM l (p, ss)) := ul_of
  have UL2 : Hid (uf l (p, ss) ≠ 0 → ul l (p, ss) = []) := ul_not
  have HA : Hid (Fls w a l) := ha
  have HST : Hid (Strs w am ss) := hst
  have HB0 : Hid (Below w.heap.size w (w.alloc (.cells #[.string p, .slice am ss.length cm] 25))) := hb0
  have hkl := pl_le l p
  have hs1 := fun w => run_files_to a l.length ca (pl l p) (by omega) w (pl l p) rfl
  by_cases h3 : eqs l p = []
  case' pos =>
    rw [decide_eq_true h3] at HHA
    have hs2 := fun w => run_files_from a l.length ca (pl l p) hkl w (pl l p : Int) rfl
    have HC := fun w1 h hs => HCC w1 (pl l p) (.inr ⟨h3, rfl⟩) h hs
    have hfl := (HPF (pl l p) (.inr ⟨h3, rfl⟩)).1
    have hwr : IntKind.i64.wrap (pl l p : Int) = (pl l p : Int) := by rw [IntKind.wrap_i64]; omega
    simp only [hfl, hl1, hl2, hl3] at HC
    obtain ⟨en, hen⟩ : ∃ en, pl l p = en := ⟨_, rfl⟩
    have hs3 : ∀ w, (Instr.slice 22 (.slice a l.length ca) (some (.int .i64 (pl l p : Int))) none none).run Tryd.prog w = .ok (.slice (fa a ca en) (l.length - en) (ca - en)) w := by rw [← hen]; exact hs2
    have HD : ∀ w1, Fls w1 a l → Strs w1 am ss → Calls Tryd.prog 23 #[.slice (some ⟨(w1.alloc (.cells #[.string p, .slice am ss.length cm] 25)).heap.size, 0, none⟩) 3 3] ((w1.alloc (.cells #[.string p, .slice am ss.length cm] 25)).alloc (.cells #[.slice (fa a ca 0) (pl l p) ca, .slice (some ⟨w1.heap.size, 0, none⟩) 1 1, .slice (fa a ca en) (l.length - en) (ca - en)] 22)) fun e w' => ∃ a' cap, e = .returned (.slice a' (putM l (p, ss)).length cap) ∧ Fls w' a' (putM l (p, ss)) ∧ Below w1.heap.size w1 w' := fun w1 h hs => by
      rw [← hen]
      exact (HC w1 h hs).mono fun e w' ⟨a', c', he, hf, hb⟩ => ⟨a', c', he, hf, (below_alloc w1 _).trans (((below_alloc _ _).trans (hb.mono (below_alloc _ _).size)).mono (below_alloc w1 _).size)⟩
    clear hs2 HC hen
  case' neg =>
    rw [decide_eq_false h3] at HHA
    have hs2 := fun w => run_files_from a l.length ca (pl l p + 1) (HPF (pl l p + 1) (.inl ⟨h3, rfl⟩)).2 w ((pl l p : Int) + 1) (by omega)
    have HC := fun w1 h hs => HCC w1 (pl l p + 1) (.inl ⟨h3, rfl⟩) h hs
    have hfl := (HPF (pl l p + 1) (.inl ⟨h3, rfl⟩)).1
    have hwr : IntKind.i64.wrap ((pl l p : Int) + 1) = (pl l p : Int) + 1 := by rw [IntKind.wrap_i64]; omega
    simp only [hfl, hl1, hl2, hl3] at HC
    obtain ⟨en, hen⟩ : ∃ en, pl l p + 1 = en := ⟨_, rfl⟩
    have hs3 : ∀ w, (Instr.slice 22 (.slice a l.length ca) (some (.int .i64 ((pl l p : Int) + 1))) none none).run Tryd.prog w = .ok (.slice (fa a ca en) (l.length - en) (ca - en)) w := by rw [← hen]; exact hs2
    have HD : ∀ w1, Fls w1 a l → Strs w1 am ss → Calls Tryd.prog 23 #[.slice (some ⟨(w1.alloc (.cells #[.string p, .slice am ss.length cm] 25)).heap.size, 0, none⟩) 3 3] ((w1.alloc (.cells #[.string p, .slice am ss.length cm] 25)).alloc (.cells #[.slice (fa a ca 0) (pl l p) ca, .slice (some ⟨w1.heap.size, 0, none⟩) 1 1, .slice (fa a ca en) (l.length - en) (ca - en)] 22)) fun e w' => ∃ a' cap, e = .returned (.slice a' (putM l (p, ss)).length cap) ∧ Fls w' a' (putM l (p, ss)) ∧ Below w1.heap.size w1 w' := fun w1 h hs => by
      rw [← hen]
      exact (HC w1 h hs).mono fun e w' ⟨a', c', he, hf, hb⟩ => ⟨a', c', he, hf, (below_alloc w1 _).trans (((below_alloc _ _).trans (hb.mono (below_alloc _ _).size)).mono (below_alloc w1 _).size)⟩
    clear hs2 HC hen
  all_goals
    obtain ⟨T, hT⟩ : ∃ T, putM l (p, ss) = T := ⟨_, rfl⟩
    obtain ⟨n, hn⟩ : ∃ n, l.length = n := ⟨_, rfl⟩
    obtain ⟨k, hk⟩ : ∃ k, pl l p = k := ⟨_, rfl⟩
    obtain ⟨q, hq⟩ : ∃ q, ss.length = q := ⟨_, rfl⟩
    obtain ⟨t, ht⟩ : ∃ t, (tf l).1 = t := ⟨_, rfl⟩
    rw [hT] at HD HCP HUF HUN UL1
    rw [hk] at HD HPL HHA hs1 hs3 hwr hkl
    rw [hn] at hck HD HPL HHA hs1 hs3 t1 hkl ⊢
    rw [hq] at hck HD HCF HB0 ⊢
    rw [ht] at hck
    obtain ⟨m, hm⟩ : ∃ m, T.length = m := ⟨_, rfl⟩
    rw [hm] at HD HCP HUF HUN
    have HM : Hid (T.length = m) := hm
    have hm9 : m ≤ 9 := by
      rw [← hm, ← hT]
      by_cases e : eqs l p = []
      · rw [hplen.2 e]; omega
      · rw [hplen.1 e]; omega
    clear ha hst hca hsc h1 h2 t2 t3 hb0 HFR HRE HPF hl1 hl2 hl3 HCC h3 hfl hT hn hk hq ht hm hplen
    go_enter Tryd.func17, Tryd.ntmps17
    go_wp2_with (go_at_call 6; refine hck.mono ?_)
    rintro e w1 ⟨rfl, hb1⟩
    obtain ⟨d0, d1⟩ := cells2_later hb1
    have hb1 := HB0.out.trans (hb1.mono HB0.out.size)
    have hcf := HCF w1 hb1
    clear hck HB0 HCF
    go_wp2_with (go_at_call 18; refine hcf.mono ?_)
    rintro e w2 ⟨rfl, hb2⟩
    replace d0 := cell_later hb2 d0
    replace d1 := cell_later hb2 d1
    have hb2 := hb1.trans (hb2.mono hb1.size)
    have hpl := HPL w2 hb2
    clear hcf HPL hb1
    go_wp2_with (go_at_call 25; refine hpl.mono ?_)
    rintro e w3 ⟨rfl, hb3⟩
    replace d0 := cell_later hb3 d0
    replace d1 := cell_later hb3 d1
    have hb3 := hb2.trans (hb3.mono hb2.size)
    have hha := HHA w3 hb3
    clear hpl HHA hb2
    go_wp2_with (go_at_call 26; refine hha.mono ?_)
    rintro e w4 ⟨rfl, rfl⟩
    have hdr : Below w4.heap.size w4 w4.drew := ⟨rfl, rfl, rfl, Nat.le_refl _, fun _ _ => rfl⟩
    have hcc := HD w4.drew ((HA.out.below hb3).below hdr) ((HST.out.below hb3).below hdr)
    rw [World.size_alloc] at hcc
    change Calls _ _ #[.slice (some ⟨w4.heap.size + 1, 0, none⟩) 3 3] (World.drew ((w4.alloc (.cells #[.string p, .slice am q cm] 25)).alloc (.cells #[.slice (fa a ca 0) k ca, .slice (some ⟨w4.heap.size, 0, none⟩) 1 1, .slice (fa a ca en) (n - en) (ca - en)] 22))) _ at hcc
    have HB3 : Hid (Below w.heap.size w w4.drew) := hb3.trans (hdr.mono hb3.size)
    clear hha HD hdr hb3
    go_wp2
    go_region_with (go_at_call 23; refine hcc.mono ?_; rintro e w5 ⟨a5, c5, rfl, hf5, hb5⟩)
    all_goals
      have hb5 := HB3.out.trans (hb5.mono HB3.out.size)
      clear hcc HB3 d0 d1 hs1 hs3
      by_cases h8 : 8 < m
      · have HG : Hid (uf l (p, ss) = 3) := HUN.out h8
        go_wp2
        go_ret2
        refine ⟨none, 0, ?_, ?_, ?_, hb5⟩
        · rw [UL2.out (by rw [HG.out]; decide), HG.out]; rfl
        · rw [UL2.out (by rw [HG.out]; decide)]; exact Fls.nil _ _
        · rw [UL2.out (by rw [HG.out]; decide)]; exact Nat.le_refl _
      · have HG : Hid (uf l (p, ss) = 0) := HUF.out h8
        have hcp := HCP w5 a5 c5 hf5 (by omega)
        clear HCP hf5
        go_wp2_with (go_at_call 22; refine hcp.mono ?_)
        rintro e w6 ⟨rfl, hb6, hf6⟩
        have hb6 := hb5.trans (hb6.mono hb5.size)
        clear hcp hb5
        go_wp2
        go_ret2
        refine ⟨some ⟨w5.heap.size, 0, none⟩, m, ?_, ?_, ?_, hb6⟩
        · rw [UL1.out HG.out, HG.out, HM.out]; rfl
        · rw [UL1.out HG.out]; exact hf6
        · rw [UL1.out HG.out, HM.out]; exact Nat.le_refl _

theorem putOf (a : Option Addr) (l : List Fl) (ca : Nat) (p : ByteArray) (am : Option Addr) (ss : List ByteArray) (cm : Nat) (w : World) (ha : Fls w a l) (hca : l.length ≤ ca) (hm : l.length ≤ maxLen) (hms : ∀ x ∈ l, x.2.length ≤ maxLen) (hst : Strs w am ss) (hss : ss.length ≤ maxLen) (hsc : ss.length ≤ cm) :
    Calls Tryd.prog 17 #[.slice a l.length ca, .agg #[.string p, .slice am ss.length cm]] w fun e w' => ∃ g c, e = .returned (.tuple #[.slice g (ul l (p, ss)).length c, errV (uf l (p, ss))]) ∧ Fls w' g (ul l (p, ss)) ∧ (ul l (p, ss)).length ≤ c ∧ Below w.heap.size w w' := by
  by_cases h1 : (tf l).2 = 0
  · by_cases h2 : fOne (p, ss) = 0
    · exact put_ok a l ca p am ss cm w ha hca hst hsc h1 h2
    · refine (put_file a l ca p am ss cm w ha hm hms hst hss h1 h2).mono fun e w' ⟨he, hb⟩ => ?_
      have hu := uf_file (f := (p, ss)) h1 h2
      have hne : uf l (p, ss) ≠ 0 := by rw [hu]; exact h2
      rw [ul_not hne, errV_not hne, hu]
      exact ⟨none, 0, he, Fls.nil _ _, Nat.le_refl _, hb⟩
  · refine (put_tree a l ca p am ss.length cm w ha hm hms h1).mono fun e w' ⟨he, hb⟩ => ?_
    have hu := uf_tree (f := (p, ss)) h1
    have hne : uf l (p, ss) ≠ 0 := by rw [hu]; exact h1
    rw [ul_not hne, errV_not hne, hu]
    exact ⟨none, 0, he, Fls.nil _ _, Nat.le_refl _, hb⟩

end Go.Proofs.YtlmibninfpebiacDoor
