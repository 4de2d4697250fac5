/-
  Walk of unified.Parse: a text as hunks.
-/
import Derived.Test.YtkelcjfblekhpacGreatDoorUpa

namespace Go.Proofs.YtkelcjfblekhpacGreatDoor
open Go.RowKit Dist

theorem Mks.setOther {w : World} {a : Option Addr} {ms : List (Int × ByteArray)} (h : Mks w a ms) {g i : Nat} (hne : ∀ b off, a = some ⟨b, off, none⟩ → b ≠ g) (x : Value) : Mks (w.setCell ⟨g, i, none⟩ x) a ms := by
  intro j hj
  obtain ⟨b, off, rfl, h1, h2⟩ := h j hj
  have hb := hne b off rfl
  refine ⟨b, off, rfl, ?_, ?_⟩
  · rw [World.cell?_setCell_other]
    · exact h1
    · intro e; have := congrArg Addr.block e; simp only at this; exact hb this.symm
  · rw [World.cell?_setCell_other]
    · exact h2
    · intro e; have := congrArg Addr.block e; simp only at this; exact hb this.symm

/-- A row of hunks whose marks lie anywhere but in it. -/
def Cps (w : World) (B g cp : Nat) (l : List Uk) : Prop := ∃ xs : List Value, w.ownsRow B 42 3 (.slice (some ⟨g, 0, none⟩) l.length cp) l.length xs ∧ ∀ i, i < l.length → ∃ am cm, xs[i * 3]? = some (.int .i64 (l.getD i (0, 0, [])).1) ∧ xs[i * 3 + 1]? = some (.int .i64 (l.getD i (0, 0, [])).2.1) ∧ xs[i * 3 + 2]? = some (.slice am (l.getD i (0, 0, [])).2.2.length cm) ∧ Mks w am (l.getD i (0, 0, [])).2.2 ∧ (l.getD i (0, 0, [])).2.2.length ≤ cm ∧ ∀ b off, am = some ⟨b, off, none⟩ → b ≠ g

theorem Cps.below {w w' : World} {B g cp : Nat} {l : List Uk} (h : Cps w B g cp l) (hb : Below w.heap.size w w') : Cps w' B g cp l := by
  obtain ⟨xs, h1, h2⟩ := h
  refine ⟨xs, own_later h1 hb, fun i hi => ?_⟩
  obtain ⟨am, cm, a1, a2, a3, a4, a5, a6⟩ := h2 i hi
  exact ⟨am, cm, a1, a2, a3, a4.below hb, a5, a6⟩

theorem Cps.put {w : World} {B g cp : Nat} {l : List Uk} (h : Cps w B g cp l) {k X : Nat} (hk : k < l.length) (hX : X ≠ g) (hm : Mks w (some ⟨X, 0, none⟩) (l.getD k (0, 0, [])).2.2) : Cps (w.setCell ⟨g, k * 3 + 2, none⟩ (.slice (some ⟨X, 0, none⟩) (l.getD k (0, 0, [])).2.2.length (l.getD k (0, 0, [])).2.2.length)) B g cp l := by
  obtain ⟨xs, h1, h2⟩ := h
  have hx := h1.1
  refine ⟨_, (h1.stored (k * 3 + 2) _).1, fun i hi => ?_⟩
  obtain ⟨am, cm, a1, a2, a3, a4, a5, a6⟩ := h2 i hi
  rw [List.getElem?_set_ne (by omega), List.getElem?_set_ne (by omega)]
  by_cases e : i = k
  · subst e
    refine ⟨some ⟨X, 0, none⟩, _, a1, a2, by rw [List.getElem?_set_self (by omega)], hm.setOther (fun b off e => ?_) _, Nat.le_refl _, fun b off e => ?_⟩
    · simp only [Option.some.injEq, Addr.mk.injEq, and_true] at e; omega
    · simp only [Option.some.injEq, Addr.mk.injEq, and_true] at e; omega
  · rw [List.getElem?_set_ne (by omega)]
    exact ⟨am, cm, a1, a2, a3, a4.setOther a6 _, a5, a6⟩

theorem Cps.hks {w : World} {B g cp : Nat} {l : List Uk} (h : Cps w B g cp l) : Hks w (some ⟨g, 0, none⟩) l ∧ l.length ≤ cp := by
  obtain ⟨xs, h1, h2⟩ := h
  refine ⟨fun i hi => ?_, ?_⟩
  · obtain ⟨am, cm, a1, a2, a3, a4, a5, a6⟩ := h2 i hi
    refine ⟨g, 0, am, cm, rfl, ?_, ?_, ?_, a4, a5⟩
    · rw [Nat.zero_add, h1.cellAt _ (by omega)]; exact a1
    · rw [Nat.zero_add, h1.cellAt _ (by omega)]; exact a2
    · rw [Nat.zero_add, h1.cellAt _ (by omega)]; exact a3
  · rcases h1.2 with ⟨h', _⟩ | ⟨g', cap', cur, h', _, _, hle, _⟩
    · simp at h'
    · simp only [Value.slice.injEq, Option.some.injEq, Addr.mk.injEq, and_true, true_and] at h'
      omega

theorem Rcl.cps {w : World} {B : Nat} {v : Value} {l : List Uk} (h : Rcl w B v l) : (l = [] ∧ v = .slice none 0 0) ∨ ∃ g cp, v = .slice (some ⟨g, 0, none⟩) l.length cp ∧ B ≤ g ∧ Cps w B g cp l := by
  obtain ⟨xs, h1, h2, h3⟩ := h
  have h1' := h1
  rcases h1.2 with ⟨rfl, h0⟩ | ⟨g, cap, cur, rfl, hB, hgg, _⟩
  · exact .inl ⟨List.length_eq_zero_iff.1 h0, rfl⟩
  · refine .inr ⟨g, cap, rfl, hB, xs, h1', fun i hi => ?_⟩
    obtain ⟨vm, a1, a2, a3, a4, a5⟩ := h3 i hi
    obtain ⟨am, cm, rfl, hmk⟩ := mks_of_own a4
    refine ⟨am, cm, a1, a2, a3, hmk, ?_, fun b off e => ?_⟩
    · rcases a4.2 with ⟨e, e0⟩ | ⟨g', cap', cur', e, _, _, hle, _⟩
      · omega
      · simp only [Value.slice.injEq] at e; omega
    · subst e
      obtain ⟨c2, f2, hk2⟩ := own_type a4 (g := b) rfl
      intro e
      rw [e, hgg] at hk2
      simp at hk2

set_option maxRecDepth 100000 in
set_option maxHeartbeats 1000000 in
theorem parse_any (s : ByteArray) (w : World) (hg : Gs w) (hs : s.size ≤ maxLen) :
    Calls Tryz.prog 10 #[.string s] w fun e w' => ∃ a cap, e = .returned (.tuple #[.slice a (psr s.data.toList).1.length cap, .int .i64 (psr s.data.toList).2.1, errV (psr s.data.toList).2.2]) ∧ Hks w' a (psr s.data.toList).1 ∧ (psr s.data.toList).1.length ≤ cap ∧ Below w.heap.size w w' := by
  unfold maxLen at hs
  by_cases hl : 400000 < s.size
  · rw [psr_long (by rw [← Lib.size_eq]; exact hl)]
    clear hg
    go_enter Tryz.func10, Tryz.ntmps10
    go_wp2
    go_ret3
    exact ⟨none, 0, rfl, Hks.nil _ _, Nat.le_refl _, Below.refl _ _⟩
  have hrd := readAny s w hg (by omega)
  have HL : Hid (¬ 400000 < s.data.toList.length) := by show ¬ 400000 < s.data.toList.length; rw [← Lib.size_eq]; exact hl
  have HP1 : Hid (∀ i l, rdl ([], 0, 0) (parts 10 s.data.toList).1 0 = (i, some (l, 0, 0)) → (parts 10 s.data.toList).2 = [] → (hf l).2 ≠ 0 → psr s.data.toList = ([], 0, (hf l).2)) := fun i l h1 h2 h => psr_fault HL.out h1 h2 h
  have HP2 : Hid (∀ i l, rdl ([], 0, 0) (parts 10 s.data.toList).1 0 = (i, some (l, 0, 0)) → (parts 10 s.data.toList).2 = [] → (hf l).2 = 0 → psr s.data.toList = (l, 0, 0)) := fun i l h1 h2 h => psr_ok HL.out h1 h2 h
  obtain ⟨P, hP⟩ : ∃ P, psr s.data.toList = P := ⟨_, rfl⟩
  rw [hP] at HP1 HP2 hrd
  rw [hP]
  obtain ⟨B, hB⟩ : ∃ B, w.heap.size = B := ⟨_, rfl⟩
  have HB : Hid (w.heap.size = B) := hB
  rw [hB] at hrd ⊢
  clear hg hB hP
  go_enter Tryz.func10, Tryz.ntmps10
  go_wp2_with (go_at_call 26; refine hrd.mono ?_)
  rintro e w1 ⟨hb1, ⟨i, rfl, hp⟩ | ⟨v, l, i, rfl, hcl, hrl, hlz, hll, hml⟩⟩
  · have HP : Hid (P = ([], i, 5)) := hp
    clear hrd hp
    go_wp2
    go_ret3
    rw [HP.out]
    exact ⟨none, 0, rfl, Hks.nil _ _, Nat.le_refl _, hb1⟩
  replace HP1 := HP1.out i l hrl hlz
  replace HP2 := HP2.out i l hrl hlz
  have HP1 : Hid ((hf l).2 ≠ 0 → P = ([], 0, (hf l).2)) := HP1
  have HP2 : Hid ((hf l).2 = 0 → P = (l, 0, 0)) := HP2
  rename_i HP1' HP2'
  clear hrd hrl hlz HP1' HP2'
  obtain ⟨n, hn⟩ : ∃ n, l.length = n := ⟨_, rfl⟩
  have HN : Hid (l.length = n) := hn
  obtain ⟨a, cp, rfl, hks⟩ : ∃ a cp, v = .slice a n cp ∧ Hks w1 a l := by
    rcases hcl.cps with ⟨rfl, rfl⟩ | ⟨g, cp, rfl, _, h⟩
    · exact ⟨none, 0, by rw [← hn]; rfl, Hks.nil _ _⟩
    · exact ⟨_, cp, by rw [hn], h.hks.1⟩
  have HCL : Hid (Rcl w1 B (.slice a n cp) l) := hcl
  have hck := hunkCheck a l cp w1 hks (by unfold maxLen; omega) (fun h hh => by have := hml h hh; unfold maxLen; omega)
  rw [hn] at hck hll
  have HB1 : Hid (Below B w w1) := hb1
  have hBw1 : B ≤ w1.heap.size := by have := hb1.size; have := HB.out; omega
  clear hcl hn hml hks hb1
  by_cases hf0 : (hf l).2 = 0
  · have HE : Hid (P = (l, 0, 0)) := HP2.out hf0
    have HRD : Hid (∀ x ∈ l, Rd x ∧ 0 < chg x.2.2 ∧ sf x.2.2 = 0) := hf_rd hf0
    rw [hf0, errV_zero] at hck
    obtain ⟨q0, hq0⟩ : ∃ q, (hf l).1 = q := ⟨_, rfl⟩
    rw [hq0] at hck
    clear hf0 hq0 HP1 HP2
    go_wp2_with (go_at_call 18; refine hck.mono ?_)
    rintro e w2 ⟨rfl, hb2⟩
    have HB2 : Hid (Below B w w2) := HB1.out.trans (hb2.mono hBw1)
    rcases HCL.out.cps with ⟨h, hv⟩ | ⟨g, cp', hv, hBg, hcp⟩
    · have hn := HN.out
      rw [h] at hn
      simp at hn
      subst hn
      simp only [Value.slice.injEq] at hv
      obtain ⟨rfl, _, rfl⟩ := hv
      have HLE : Hid (l = []) := h
      clear hck hb2 HCL HB1 h
      go_wp2
      go_loopw [35] (fun i wr => i = .int .i64 0 ∧ Below B w wr) (fun _ _ => 0)
      case atStart => exact ⟨rfl, HB2.out⟩
      case round =>
        obtain ⟨rfl, hbl⟩ := hrel
        go_wp2
        go_ret3
        rw [HE.out, HLE.out]
        exact ⟨none, 0, rfl, Hks.nil _ _, Nat.le_refl _, hbl⟩
    simp only [Value.slice.injEq] at hv
    obtain ⟨rfl, _, rfl⟩ := hv
    have HX : Hid (Cps w2 B g cp l) := hcp.below hb2
    clear hck hb2 HCL HB1 hcp
    go_wp2
    go_loopw [35] (fun i wr => ∃ k : Nat, k ≤ n ∧ i = .int .i64 k ∧ Below B w wr ∧ Cps wr B g cp l) (fun i _ => n - (intOf i).toNat)
    case atStart => exact ⟨0, Nat.zero_le _, rfl, HB2.out, HX.out⟩
    case round =>
      obtain ⟨k, hk, rfl, hbl, hcp⟩ := hrel
      clear HX HB2
      by_cases hlt : k < n
      · have hkl : k < l.length := by rw [HN.out]; exact hlt
        have HCP : Hid (Cps wr B g cp l) := hcp
        obtain ⟨xs, h1, h2⟩ := hcp
        obtain ⟨am, cm, a1, a2, a3, a4, a5, a6⟩ := h2 k hkl
        have hc := h1.cellAt (k * 3 + 2) (by omega)
        rw [a3] at hc
        have hrl := (h1.lt g rfl).2
        obtain ⟨r1, _, r3⟩ := HRD.out _ (mem_getD3 hkl)
        obtain ⟨r3, r4⟩ := sf_zero r3
        have hco := copyOf am _ cm wr a4 r3 (fun m hm => by have := (lf_zero (r4 m hm).2).2; rw [Lib.size_eq]; exact this)
        have HKL : Hid (k < l.length) := hkl
        obtain ⟨q, hq⟩ : ∃ q, (l.getD k (0, 0, [])).2.2.length = q := ⟨_, rfl⟩
        have HQ : Hid ((l.getD k (0, 0, [])).2.2.length = q) := hq
        rw [hq] at hc hco r3
        clear h1 h2 a1 a2 a3 a4 a5 a6 r1 r4 hkl hq
        go_wp2_with (go_at_call 27; refine hco.mono ?_)
        rintro e w3 ⟨rfl, hb3, hm3⟩
        have hcp3 := HCP.out.below hb3
        have hmk3 : Mks w3 (some ⟨wr.heap.size, 0, none⟩) (l.getD k (0, 0, [])).2.2 := by
          rw [← HQ.out] at hm3
          exact hm3.mks fun j hj => ⟨trivial, rfl⟩
        have hput := hcp3.put HKL.out (X := wr.heap.size) (by omega) hmk3
        rw [HQ.out] at hput
        have HPUT : Hid (Cps (w3.setCell ⟨g, k * 3 + 2, none⟩ (.slice (some ⟨wr.heap.size, 0, none⟩) q q)) B g cp l) := hput
        have hc3 := cell_later hb3 hc
        have hf3 : w3.frozen? ⟨g, k * 3 + 2, none⟩ = false := by
          obtain ⟨xs, h1, _⟩ := hcp3
          exact h1.frozenAt _
        have hb3 := hbl.trans (hb3.mono (by have := hbl.size; have := HB.out; omega))
        clear hco hcp3 hmk3 hput hm3 hc
        go_wp2
        go_roundw
        case rel => exact ⟨k + 1, by omega, by go_num, hb3.setCell (show B ≤ g from hBg) _, HPUT.out⟩
        case measure => simp [intOf]; omega
      · obtain rfl : k = n := by omega
        go_wp2
        go_ret3
        rw [HE.out]
        refine ⟨_, cp, ?_, hcp.hks.1, hcp.hks.2, hbl⟩
        dsimp only
        rw [HN.out]; rfl
  · have HE : Hid (P = ([], 0, (hf l).2)) := HP1.out hf0
    have HF : Hid ((hf l).2 ≠ 0) := hf0
    rw [errV_not hf0] at hck
    obtain ⟨q0, hq0⟩ : ∃ q, (hf l).1 = q := ⟨_, rfl⟩
    obtain ⟨f0, hf0'⟩ : ∃ q, (hf l).2 = q := ⟨_, rfl⟩
    rw [hq0, hf0'] at hck
    rw [hf0'] at HE HF
    clear hf0 hq0 hf0' HP1 HP2
    go_wp2_with (go_at_call 18; refine hck.mono ?_)
    rintro e w2 ⟨rfl, hb2⟩
    have hb2 := HB1.out.trans (hb2.mono hBw1)
    clear hck HCL
    go_wp2
    go_ret3
    rw [HE.out]
    dsimp only
    rw [errV_not HF.out]
    exact ⟨none, 0, rfl, Hks.nil _ _, Nat.le_refl _, hb2⟩

end Go.Proofs.YtkelcjfblekhpacGreatDoor
