/-
  Walk of unified.Parse: a text as hunks.
-/
import Derived.Test.YtjgdicghmkfohacGreatDoorUpa

namespace Go.Proofs.YtjgdicghmkfohacGreatDoor
open Go.RowKit Dist

/-- A row of hunks whose marks lie anywhere but in it. -/
def Cps (w : World) (B g cp : Nat) (l : List Uk) : Prop := ∃ xs : List Value, w.ownsRow B 42 3 (.slice (some ⟨g, 0, none⟩) l.length cp) l.length xs ∧ ∀ i, i < l.length → ∃ am cm, xs[i * 3]? = some (.int .i64 (l.getD i (0, 0, [])).1) ∧ xs[i * 3 + 1]? = some (.int .i64 (l.getD i (0, 0, [])).2.1) ∧ xs[i * 3 + 2]? = some (.slice am (l.getD i (0, 0, [])).2.2.length cm) ∧ Mks w am (l.getD i (0, 0, [])).2.2 ∧ (l.getD i (0, 0, [])).2.2.length ≤ cm ∧ ∀ b off, am = some ⟨b, off, none⟩ → b ≠ g

theorem Cps.below {w w' : World} {B g cp : Nat} {l : List Uk} (h : Cps w B g cp l) (hb : Below w.heap.size w w') : Cps w' B g cp l := by
  obtain ⟨xs, h1, h2⟩ := h
  refine ⟨xs, own_later h1 hb, fun i hi => ?_⟩
  obtain ⟨am, cm, a1, a2, a3, a4, a5, a6⟩ := h2 i hi
  exact ⟨am, cm, a1, a2, a3, a4.below hb, a5, a6⟩

theorem Cps.hks {w : World} {B g cp : Nat} {l : List Uk} (h : Cps w B g cp l) : Hks w (some ⟨g, 0, none⟩) l ∧ l.length ≤ cp := by
  obtain ⟨xs, h1, h2⟩ := h
  refine ⟨fun i hi => ?_, ?_⟩
  · obtain ⟨am, cm, a1, a2, a3, a4, a5, a6⟩ := h2 i hi
    refine ⟨g, 0, am, cm, rfl, ?_, ?_, ?_, a4, a5⟩
    · rw [Nat.zero_add, h1.cellAt _ (by omega)]; exact a1
    · rw [Nat.zero_add, h1.cellAt _ (by omega)]; exact a2
    · rw [Nat.zero_add, h1.cellAt _ (by omega)]; exact a3
  · rcases h1.2 with ⟨h', _⟩ | ⟨g', cap', cur, h', _, _, hle, _⟩
    · simp at h'
    · simp only [Value.slice.injEq, Option.some.injEq, Addr.mk.injEq, and_true, true_and] at h'
      omega

theorem Rcl.cps {w : World} {B : Nat} {v : Value} {l : List Uk} (h : Rcl w B v l) : (l = [] ∧ v = .slice none 0 0) ∨ ∃ g cp, v = .slice (some ⟨g, 0, none⟩) l.length cp ∧ B ≤ g ∧ Cps w B g cp l := by
  obtain ⟨xs, h1, h2, h3⟩ := h
  have h1' := h1
  rcases h1.2 with ⟨rfl, h0⟩ | ⟨g, cap, cur, rfl, hB, hgg, _⟩
  · exact .inl ⟨List.length_eq_zero_iff.1 h0, rfl⟩
  · refine .inr ⟨g, cap, rfl, hB, xs, h1', fun i hi => ?_⟩
    obtain ⟨vm, a1, a2, a3, a4, a5⟩ := h3 i hi
    obtain ⟨am, cm, rfl, hmk⟩ := mks_of_own a4
    refine ⟨am, cm, a1, a2, a3, hmk, ?_, fun b off e => ?_⟩
    · rcases a4.2 with ⟨e, e0⟩ | ⟨g', cap', cur', e, _, _, hle, _⟩
      · omega
      · simp only [Value.slice.injEq] at e; omega
    · subst e
      obtain ⟨c2, f2, hk2⟩ := own_type a4 (g := b) rfl
      intro e
      rw [e, hgg] at hk2
      simp at hk2

/-- Hunks that have been read, as they lie in memory. -/
theorem Rcl.lie {w : World} {B : Nat} {v : Value} {l : List Uk} (h : Rcl w B v l) : ∃ a cp, v = .slice a l.length cp ∧ Hks w a l ∧ l.length ≤ cp := by
  rcases h.cps with ⟨rfl, rfl⟩ | ⟨g, cp, rfl, _, h⟩
  · exact ⟨none, 0, rfl, Hks.nil _ _, Nat.le_refl _⟩
  · exact ⟨_, cp, rfl, h.hks.1, h.hks.2⟩

set_option maxRecDepth 100000 in
set_option maxHeartbeats 1000000 in
theorem parse_any (s : ByteArray) (w : World) (hg : Gs w) (hs : s.size ≤ maxLen) :
    Calls Tryz.prog 11 #[.string s] w fun e w' => ∃ a cap, e = .returned (.tuple #[.slice a (psr s.data.toList).1.length cap, .int .i64 (psr s.data.toList).2.1, errV (psr s.data.toList).2.2]) ∧ Hks w' a (psr s.data.toList).1 ∧ (psr s.data.toList).1.length ≤ cap ∧ Below w.heap.size w w' := by
  unfold maxLen at hs
  by_cases hl : 400000 < s.size
  · rw [psr_long (by rw [← Lib.size_eq]; exact hl)]
    clear hg
    go_enter Tryz.func11, Tryz.ntmps11
    go_wp2
    go_ret3
    exact ⟨none, 0, rfl, Hks.nil _ _, Nat.le_refl _, Below.refl _ _⟩
  have hsp := splitAll s w (by omega)
  have HL : Hid (¬ 400000 < s.data.toList.length) := by show ¬ 400000 < s.data.toList.length; rw [← Lib.size_eq]; exact hl
  have HBAD : Hid (∀ i, rdl ([], 0, 0) (parts 10 s.data.toList).1 0 = (i, none) → psr s.data.toList = ([], i, 5)) := fun i h => psr_bad HL.out h
  have HOPEN : Hid (∀ i st, rdl ([], 0, 0) (parts 10 s.data.toList).1 0 = (i, some st) → ¬ ((parts 10 s.data.toList).2 = [] ∧ st.2.1 = 0 ∧ st.2.2 = 0) → psr s.data.toList = ([], i, 5)) := fun i st h1 h => psr_open HL.out h1 h
  have HP1 : Hid (∀ i l, rdl ([], 0, 0) (parts 10 s.data.toList).1 0 = (i, some (l, 0, 0)) → (parts 10 s.data.toList).2 = [] → (hf l).2 ≠ 0 → psr s.data.toList = ([], 0, (hf l).2)) := fun i l h1 h2 h => psr_fault HL.out h1 h2 h
  have HP2 : Hid (∀ i l, rdl ([], 0, 0) (parts 10 s.data.toList).1 0 = (i, some (l, 0, 0)) → (parts 10 s.data.toList).2 = [] → (hf l).2 = 0 → psr s.data.toList = (l, 0, 0)) := fun i l h1 h2 h => psr_ok HL.out h1 h2 h
  have HTX : Hid (∀ x ∈ (parts 10 s.data.toList).1, x.length ≤ 400000) := fun x hx => by
    have h1 := parts_mem (List.mem_append_left [(parts 10 s.data.toList).2] hx)
    have h2 := HL.out
    omega
  obtain ⟨P, hP⟩ : ∃ P, psr s.data.toList = P := ⟨_, rfl⟩
  rw [hP] at HBAD HOPEN HP1 HP2
  rw [hP]
  have HG : Hid (Gs w) := hg
  obtain ⟨B, hB⟩ : ∃ B, w.heap.size = B := ⟨_, rfl⟩
  have HB : Hid (w.heap.size = B) := hB
  rw [hB] at hsp ⊢
  clear hB hP hg
  go_enter Tryz.func11, Tryz.ntmps11
  go_wp2_with (go_at_call 34; refine hsp.mono ?_)
  rintro e w1 ⟨ps, rfl, hps, hb, hst⟩
  obtain ⟨n, x, hn, hx, hxl, hpt, hpl, hns⟩ := pieces_of hps
  have hc : w1.cell? ⟨B, n, none⟩ = some (.string x) := by
    obtain ⟨b, off, e, hc⟩ := hst n (by omega)
    simp at e
    obtain ⟨rfl, rfl⟩ := e
    rw [Nat.zero_add, hx] at hc
    exact hc
  have hrd := readAny _ (ps.take n) ps.length w1 (hst.upto n) (HG.out.below (by rw [HB.out]; exact hb)) (by omega) (fun y hy => by
    have h1 := HTX.out y.data.toList (by rw [← hpt]; exact List.mem_map.2 ⟨y, hy, rfl⟩)
    rw [← Lib.size_eq] at h1; exact h1)
  obtain ⟨ls, hls⟩ : ∃ ls, (parts 10 s.data.toList).1 = ls := ⟨_, rfl⟩
  have hll : ls.length = n := by rw [← hls, ← hpt, bts_length]; exact hpl
  rw [hpl, hpt, hls] at hrd
  rw [hls] at HBAD HOPEN HP1 HP2
  rw [← hxl] at HOPEN HP1 HP2
  have HLL : Hid (ls.length = n) := hll
  have HB1 : Hid (Below B w w1) := hb
  have hBw1 : B ≤ w1.heap.size := by have := hb.size; have := HB.out; omega
  have HXD : Hid (x.data.toList = x.toList) := (Lib.toList_data x).symm
  rw [hn] at hrd ⊢
  clear hps hx hxl hn hst hpt hpl hls hll hsp hb
  go_wp2_with (go_at_call 35; refine hrd.mono ?_)
  rintro e w2 ⟨⟨v, k, ⟨l, b2, a2⟩, rfl, hrun, hstop, hcl⟩, hb2⟩
  obtain ⟨F, hF⟩ : ∃ F, decide (b2 = 0 ∧ a2 = 0) = F := ⟨_, rfl⟩
  rw [show decide ((l, b2, a2).2.1 = 0 ∧ (l, b2, a2).2.2 = 0) = F from hF]
  have HF0 : Hid (decide (b2 = 0 ∧ a2 = 0) = F) := hF
  have hc2 := cell_later hb2 hc
  have HB2 : Hid (Below B w w2) := HB1.out.trans (hb2.mono hBw1)
  have hkn : k ≤ n := by have := hrun.1; have := HLL.out; omega
  have HRUN : Hid (Run ls k (l, b2, a2)) := hrun
  rw [HLL.out] at hstop
  have HOK : Hid (Okr (l, b2, a2) k) := hrun.ok
  clear hrd hc hb2 HB1 hBw1 hrun hF
  by_cases hlt : k < n
  · have HE : Hid (P = ([], k, 5)) := HBAD.out k (HRUN.out.bad (by rw [HLL.out]; exact hlt) (hstop hlt))
    have hlti : (k : Int) < n := by omega
    clear hcl hstop HBAD HOPEN HP1 HP2
    go_wp2
    go_ret3
    rw [HE.out]
    exact ⟨none, 0, rfl, Hks.nil _ _, Nat.le_refl _, HB2.out⟩
  obtain rfl : k = n := by omega
  have HALL : Hid (rdl ([], 0, 0) ls 0 = (k, some (l, b2, a2))) := by
    have h1 := HRUN.out
    rw [← HLL.out] at h1
    show rdl ([], 0, 0) ls 0 = (k, some (l, b2, a2))
    rw [← HLL.out]; exact h1.all
  clear HBAD HRUN hstop hlt hkn
  cases hx0 : x.toList.isEmpty with
  | false =>
    have HE : Hid (P = ([], k, 5)) := HOPEN.out k _ HALL.out (fun h => by rw [HXD.out] at h; rw [h.1] at hx0; cases hx0)
    clear hcl HOPEN HP1 HP2
    go_wp2
    go_ret3
    rw [HE.out]
    exact ⟨none, 0, rfl, Hks.nil _ _, Nat.le_refl _, HB2.out⟩
  | true =>
    have hxe : x.data.toList = [] := by rw [HXD.out]; simpa using hx0
    by_cases hba : b2 = 0 ∧ a2 = 0
    · obtain ⟨rfl, rfl⟩ := hba
      have PF1 : Hid ((hf l).2 ≠ 0 → P = ([], 0, (hf l).2)) := HP1.out _ l HALL.out hxe
      have PF2 : Hid ((hf l).2 = 0 → P = (l, 0, 0)) := HP2.out _ l HALL.out hxe
      obtain rfl : true = F := by have := HF0.out; simpa using this
      obtain ⟨a, cp, rfl, hks, hcp⟩ := hcl.lie
      have hll := HOK.out.2.2.2.1
      have hml := HOK.out.2.2.2.2
      simp only at hll hml
      have hck := hunkCheck a l cp w2 hks (by unfold maxLen; omega) (fun h hh => by have := (hml h hh).2.2.2.2; unfold maxLen; omega)
      have HKS : Hid (Hks w2 a l) := hks
      have HCP : Hid (l.length ≤ cp) := hcp
      obtain ⟨q, hq⟩ : ∃ q, l.length = q := ⟨_, rfl⟩
      have HQ : Hid (l.length = q) := hq
      rw [hq] at hck ⊢
      have hBw2 : B ≤ w2.heap.size := by have := HB2.out.size; have := HB.out; omega
      clear HP1 HP2 HOPEN hcl hks hcp hq hll hml HALL hxe HF0
      by_cases hf0 : (hf l).2 = 0
      · have HE : Hid (P = (l, 0, 0)) := PF2.out hf0
        rw [hf0, errV_zero] at hck
        obtain ⟨q0, hq0⟩ : ∃ q, (hf l).1 = q := ⟨_, rfl⟩
        rw [hq0] at hck
        clear hf0 hq0 PF1 PF2
        go_wp2_with (go_at_call 26; refine hck.mono ?_)
        rintro e w3 ⟨rfl, hb3⟩
        have HKS3 : Hid (Hks w3 a l) := HKS.out.below hb3
        have hb3 := HB2.out.trans (hb3.mono hBw2)
        clear hck HB2
        go_wp2
        go_ret3
        rw [HE.out]
        exact ⟨a, cp, by rw [HQ.out]; rfl, HKS3.out, HCP.out, hb3⟩
      · have HE : Hid (P = ([], 0, (hf l).2)) := PF1.out hf0
        have HF : Hid ((hf l).2 ≠ 0) := hf0
        rw [errV_not hf0] at hck
        obtain ⟨q0, hq0⟩ : ∃ q, (hf l).1 = q := ⟨_, rfl⟩
        obtain ⟨f0, hf0'⟩ : ∃ q, (hf l).2 = q := ⟨_, rfl⟩
        rw [hq0, hf0'] at hck
        rw [hf0'] at HE HF
        clear hf0 hq0 hf0' PF1 PF2
        go_wp2_with (go_at_call 26; refine hck.mono ?_)
        rintro e w3 ⟨rfl, hb3⟩
        have hb3 := HB2.out.trans (hb3.mono hBw2)
        clear hck HB2
        go_wp2
        go_ret3
        rw [HE.out]
        dsimp only
        rw [errV_not HF.out]
        exact ⟨none, 0, rfl, Hks.nil _ _, Nat.le_refl _, hb3⟩
    · have HE : Hid (P = ([], k, 5)) := HOPEN.out k _ HALL.out (fun h => hba h.2)
      obtain rfl : false = F := by rw [← HF0.out]; simpa using hba
      clear hcl HOPEN HP1 HP2 hba hxe HF0
      go_wp2
      go_ret3
      rw [HE.out]
      exact ⟨none, 0, rfl, Hks.nil _ _, Nat.le_refl _, HB2.out⟩

end Go.Proofs.YtjgdicghmkfohacGreatDoor
