/-
  Walks of patch.do and patch.Apply: what a change makes of a file; a patch done to a tree. Walk of patch.Apply: a patch done to a tree.
-/
import Derived.Test.YtnkdmgekpajfhadGreatDoorXbc
import Derived.Test.YtnkdmgekpajfhadGreatDoorXd
import Derived.Test.YtnkdmgekpajfhadGreatDoorXbd

namespace Go.Proofs.YtnkdmgekpajfhadGreatDoor
open Go.RowKit Go.Shelf Go.Lib Dist

theorem opt_length (p : ByteArray) (o : Option (List ByteArray)) : (opt p o).length ≤ 1 := by cases o <;> simp [opt]

theorem cp_make {c : Ch} {x : Option (List ByteArray)} (h1 : c.1 = 2) (h2 : x ≠ none) : chg1 c x = (6, none) := by unfold chg1; rw [if_pos ⟨h1, h2⟩]
theorem cp_none {c : Ch} (h1 : c.1 ≠ 2) : chg1 c none = (4, none) := by unfold chg1; rw [if_neg (fun h => h1 h.1), if_pos ⟨h1, rfl⟩]
theorem cp_bad {c : Ch} {x : Option (List ByteArray)} (h1 : c.1 = 2 ↔ x = none) (h2 : (stF (x.getD []) c.2.2).2 ≠ 0) : chg1 c x = ((stF (x.getD []) c.2.2).2, none) := by
  unfold chg1
  rw [if_neg (fun h => h.2 (h1.1 h.1)), if_neg (fun h => h.1 (h1.2 h.2)), if_pos h2]
theorem cp_put {c : Ch} {x : Option (List ByteArray)} (h1 : c.1 = 2 ↔ x = none) (h2 : (stF (x.getD []) c.2.2).2 = 0) (h3 : c.1 ≠ 3) : chg1 c x = (0, some (sR (x.getD []) c.2.2)) := by
  unfold chg1
  rw [if_neg (fun h => h.2 (h1.1 h.1)), if_neg (fun h => h.1 (h1.2 h.2)), if_neg (fun h => h h2), if_pos h3]
theorem cp_left {c : Ch} {x : Option (List ByteArray)} (h1 : c.1 = 2 ↔ x = none) (h2 : (stF (x.getD []) c.2.2).2 = 0) (h3 : c.1 = 3) (h4 : sR (x.getD []) c.2.2 ≠ []) : chg1 c x = (6, none) := by
  unfold chg1
  rw [if_neg (fun h => h.2 (h1.1 h.1)), if_neg (fun h => h.1 (h1.2 h.2)), if_neg (fun h => h h2), if_neg (fun h => h h3), if_pos h4]
theorem cp_wiped {c : Ch} {x : Option (List ByteArray)} (h1 : c.1 = 2 ↔ x = none) (h2 : (stF (x.getD []) c.2.2).2 = 0) (h3 : c.1 = 3) (h4 : sR (x.getD []) c.2.2 = []) : chg1 c x = (0, none) := by
  unfold chg1
  rw [if_neg (fun h => h.2 (h1.1 h.1)), if_neg (fun h => h.1 (h1.2 h.2)), if_neg (fun h => h h2), if_neg (fun h => h h3), if_neg (fun h => h h4)]

theorem fls_one {w : World} {p : ByteArray} {a : Option Addr} {ss : List ByteArray} {cm : Nat} {t : TypeId} (h : Strs w a ss) (hc : ss.length ≤ cm) : Fls (w.alloc (.cells #[.string p, .slice a ss.length cm] t)) (some ⟨w.heap.size, 0, none⟩) [(p, ss)] := by
  have hb := below_alloc w (.cells #[.string p, .slice a ss.length cm] t)
  have hh := heap_alloc_new w (.cells #[.string p, .slice a ss.length cm] t)
  intro i hi
  obtain rfl : i = 0 := by simpa using hi
  exact ⟨w.heap.size, 0, a, cm, rfl, by rw [Lib.cell_of_heap hh]; rfl, by rw [Lib.cell_of_heap hh]; rfl, h.below hb, hc⟩

set_option maxRecDepth 100000 in
set_option maxHeartbeats 2000000 in
theorem doOf (ao : Option Addr) (own : List Fl) (co : Nat) (wh : Int) (p : ByteArray) (ah : Option Addr) (hs : List Hk) (ch : Nat) (w : World) (ho : Fls w ao own) (h1 : own.length ≤ 1) (hh : Hks w ah hs) (hw : 1 ≤ wh ∧ wh ≤ 3) (hf0 : (hf hs).2 = 0) (hl : ∀ x ∈ own, lsf (bts x.2) = 0) :
    Calls Tryz.prog 97 #[.slice ao own.length co, .agg #[.int .i64 wh, .string p, .slice ah hs.length ch]] w fun e w' => ∃ a' c', e = .returned (.tuple #[.slice a' (opt p (chg1 (wh, p, hs) (own.head?.map (·.2))).2).length c', errV (chg1 (wh, p, hs) (own.head?.map (·.2))).1]) ∧ Below w.heap.size w w' ∧ Fls w' a' (opt p (chg1 (wh, p, hs) (own.head?.map (·.2))).2) := by
  have HB0 : Hid (Below w.heap.size w (w.alloc (.cells #[.int .i64 wh, .string p, .slice ah hs.length ch] 40))) := below_alloc w _
  obtain ⟨_, hs60, hsall⟩ := hf_good hf0
  have hsm : ∀ h ∈ hs, h.2.2.length ≤ maxLen := fun h hh => by
    have := (sf_zero (hsall h hh).1).1
    unfold maxLen; omega
  obtain ⟨x, hx⟩ : ∃ x, own.head?.map (·.2) = x := ⟨_, rfl⟩
  rw [hx]
  cases own with
  | nil =>
    obtain rfl : x = none := by rw [← hx]; rfl
    rw [List.length_nil]
    by_cases h2 : wh = 2
    · have hst := strictAny none ah [] hs 0 ch _ (fun i hi => absurd hi (Nat.not_lt_zero _)) (hh.below HB0.out) (Nat.zero_le _) (by unfold maxLen; omega) hsm (Nat.le_refl _)
      by_cases h3 : (stF [] hs).2 = 0
      · have hso : stO [] hs = sR [] hs := stO_ok h3
        rw [h3, errV_zero, hso] at hst
        have he := cp_put (c := (wh, p, hs)) (x := none) ⟨fun _ => rfl, fun _ => h2⟩ h3 (by show wh ≠ 3; omega)
        change chg1 (wh, p, hs) none = (0, some (sR [] hs)) at he
        rw [he]
        obtain ⟨R, hR⟩ : ∃ R, sR [] hs = R := ⟨_, rfl⟩
        rw [hR] at hst ⊢
        obtain ⟨n, hn⟩ : ∃ n, hs.length = n := ⟨_, rfl⟩
        obtain ⟨m, hm⟩ : ∃ m, R.length = m := ⟨_, rfl⟩
        obtain ⟨k0, hk0⟩ : ∃ k, (stF [] hs).1 = k := ⟨_, rfl⟩
        rw [hn] at hst HB0
        rw [hk0, hm] at hst
        rw [hn]
        have HM : Hid (R.length = m) := hm
        subst h2
        clear ho h1 hh hw hf0 hl hs60 hsall hsm hx h3 hso he hR hn hk0 hm
        go_enter Tryz.func97, Tryz.ntmps97
        go_wp2_with (go_at_call 125; refine hst.mono ?_)
        rintro e w1 ⟨a1, c1, rfl, hb1, hs1, hc1⟩
        obtain ⟨d0, d1, d2⟩ := cells_later hb1
        have hb1 := HB0.out.trans (hb1.mono HB0.out.size)
        have hfl := fls_one (p := p) (t := 83) hs1 (cm := c1) (by rw [HM.out]; exact hc1)
        have hbx := hb1.alloc hb1.size (.cells #[.string p, .slice a1 m c1] 83)
        rw [HM.out] at hfl
        have HFL : Hid (Fls (w1.alloc (.cells #[.string p, .slice a1 m c1] 83)) (some ⟨w1.heap.size, 0, none⟩) [(p, R)]) := hfl
        have HBX : Hid (Below w.heap.size w (w1.alloc (.cells #[.string p, .slice a1 m c1] 83))) := hbx
        clear hst hb1 hfl hbx hs1 HB0
        go_wp2
        go_ret2
        exact ⟨_, _, rfl, HBX.out, HFL.out⟩
      · have hso : stO [] hs = [] := stO_bad h3
        rw [errV_not h3, hso] at hst
        have he := cp_bad (c := (wh, p, hs)) (x := none) ⟨fun _ => rfl, fun _ => h2⟩ h3
        change chg1 (wh, p, hs) none = ((stF [] hs).2, none) at he
        rw [he]
        dsimp only
        rw [errV_not h3]
        obtain ⟨f, hff⟩ : ∃ f, (stF [] hs).2 = f := ⟨_, rfl⟩
        obtain ⟨n, hn⟩ : ∃ n, hs.length = n := ⟨_, rfl⟩
        obtain ⟨k0, hk0⟩ : ∃ k, (stF [] hs).1 = k := ⟨_, rfl⟩
        rw [hn] at hst HB0
        rw [hk0, hff] at hst
        rw [hn, hff]
        subst h2
        clear ho h1 hh hw hf0 hl hs60 hsall hsm hx h3 hso he hn hk0 hff
        go_enter Tryz.func97, Tryz.ntmps97
        go_wp2_with (go_at_call 125; refine hst.mono ?_)
        rintro e w1 ⟨a1, c1, rfl, hb1, hs1, hc1⟩
        have hb1 := HB0.out.trans (hb1.mono HB0.out.size)
        clear hst HB0
        go_wp2
        go_ret2
        exact ⟨none, 0, rfl, hb1, Fls.nil _ _⟩
    · have he := cp_none (c := (wh, p, hs)) h2
      rw [he]
      dsimp only
      obtain ⟨n, hn⟩ : ∃ n, hs.length = n := ⟨_, rfl⟩
      rw [hn] at HB0 ⊢
      clear ho h1 hh hw hf0 hl hs60 hsall hsm hx he hn
      go_enter Tryz.func97, Tryz.ntmps97
      go_wp2
      go_ret2
      exact ⟨none, 0, rfl, HB0.out, Fls.nil _ _⟩
  | cons y r =>
    have hr : r = [] := by
      cases r with
      | nil => rfl
      | cons z r => simp at h1
    subst hr
    obtain rfl : x = some y.2 := by rw [← hx]; rfl
    rw [List.length_singleton]
    have hly := hl y (by simp)
    obtain ⟨b, off, am, cm, rfl, y1, y2, y3, y4⟩ := ho 0 (by simp)
    have e0 : ([y] : List Fl).getD 0 fz = y := rfl
    rw [e0] at y1 y2 y3 y4
    rw [Nat.zero_mul, Nat.add_zero] at y1 y2
    have hlen := lsf_len hly
    by_cases h2 : wh = 2
    · have he := cp_make (c := (wh, p, hs)) (x := some y.2) h2 (by simp)
      rw [he]
      dsimp only
      obtain ⟨n, hn⟩ : ∃ n, hs.length = n := ⟨_, rfl⟩
      rw [hn] at HB0 ⊢
      subst h2
      clear ho h1 hh hw hf0 hl hs60 hsall hsm hx he hn hlen hly y1 y2 y3 y4 e0
      go_enter Tryz.func97, Tryz.ntmps97
      go_wp2
      go_ret2
      exact ⟨none, 0, rfl, HB0.out, Fls.nil _ _⟩
    · replace y2 := cell_later HB0.out y2
      have hiff : wh = 2 ↔ some y.2 = none := ⟨fun e => absurd e h2, fun e => by cases e⟩
      have hst := strictAny am ah y.2 hs cm ch _ (y3.below HB0.out) (hh.below HB0.out) (by unfold maxLen; omega) (by unfold maxLen; omega) hsm y4
      by_cases h3 : (stF y.2 hs).2 = 0
      · have hso : stO y.2 hs = sR y.2 hs := stO_ok h3
        rw [h3, errV_zero, hso] at hst
        have HC : Hid (∀ R, sR y.2 hs = R → (wh ≠ 3 → chg1 (wh, p, hs) (some y.2) = (0, some R)) ∧ (wh = 3 → R ≠ [] → chg1 (wh, p, hs) (some y.2) = (6, none)) ∧ (wh = 3 → R = [] → chg1 (wh, p, hs) (some y.2) = (0, none))) := fun R hR => by
          subst hR
          exact ⟨fun h => cp_put (c := (wh, p, hs)) (x := some y.2) hiff h3 h, fun h h4 => cp_left (c := (wh, p, hs)) (x := some y.2) hiff h3 h h4, fun h h4 => cp_wiped (c := (wh, p, hs)) (x := some y.2) hiff h3 h h4⟩
        obtain ⟨R, hR⟩ : ∃ R, sR y.2 hs = R := ⟨_, rfl⟩
        have HC1 := HC.out R hR
        rw [hR] at hst
        obtain ⟨G, hG⟩ : ∃ G, chg1 (wh, p, hs) (some y.2) = G := ⟨_, rfl⟩
        rw [hG] at HC1 ⊢
        obtain ⟨g1, g2, g3⟩ := HC1
        obtain ⟨n, hn⟩ : ∃ n, hs.length = n := ⟨_, rfl⟩
        obtain ⟨m, hm⟩ : ∃ m, R.length = m := ⟨_, rfl⟩
        obtain ⟨v, hv⟩ : ∃ v, y.2.length = v := ⟨_, rfl⟩
        obtain ⟨k0, hk0⟩ : ∃ k, (stF y.2 hs).1 = k := ⟨_, rfl⟩
        rw [hn] at hst HB0 y2
        rw [hk0, hm, hv] at hst
        rw [hv] at y2
        rw [hn]
        have HM : Hid (R.length = m) := hm
        have G1 : Hid (wh ≠ 3 → G = (0, some R)) := g1
        have G2 : Hid (wh = 3 → m ≠ 0 → G = (6, none)) := fun h h4 => g2 h (fun e => h4 (by rw [← hm, e]; rfl))
        have G3 : Hid (wh = 3 → m = 0 → G = (0, none)) := fun h h4 => g3 h (List.length_eq_zero_iff.1 (by omega))
        clear ho h1 hh hw hf0 hl hs60 hsall hsm hx h3 hso hR hn hk0 hm hG g1 g2 g3 HC hv hlen hly y1 y3 y4 e0 hiff
        by_cases h3 : wh = 3
        · by_cases h4 : m = 0
          · rw [G3.out h3 h4]
            dsimp only
            subst h3 h4
            clear G1 G2 G3
            go_enter Tryz.func97, Tryz.ntmps97
            go_wp2_with (go_at_call 125; refine hst.mono ?_)
            rintro e w1 ⟨a1, c1, rfl, hb1, hs1, hc1⟩
            obtain ⟨d0, d1, d2⟩ := cells_later hb1
            have hb1 := HB0.out.trans (hb1.mono HB0.out.size)
            clear hst HB0
            go_wp2
            go_ret2
            exact ⟨none, 0, rfl, hb1, Fls.nil _ _⟩
          · rw [G2.out h3 h4]
            dsimp only
            have h5 : (0 : Int) < m := by omega
            subst h3
            clear G1 G2 G3 h4
            go_enter Tryz.func97, Tryz.ntmps97
            go_wp2_with (go_at_call 125; refine hst.mono ?_)
            rintro e w1 ⟨a1, c1, rfl, hb1, hs1, hc1⟩
            obtain ⟨d0, d1, d2⟩ := cells_later hb1
            have hb1 := HB0.out.trans (hb1.mono HB0.out.size)
            clear hst HB0
            go_wp2
            go_ret2
            exact ⟨none, 0, rfl, hb1, Fls.nil _ _⟩
        · rw [G1.out h3]
          clear G1 G2 G3
          go_enter Tryz.func97, Tryz.ntmps97
          go_wp2_with (go_at_call 125; refine hst.mono ?_)
          rintro e w1 ⟨a1, c1, rfl, hb1, hs1, hc1⟩
          obtain ⟨d0, d1, d2⟩ := cells_later hb1
          have hb1 := HB0.out.trans (hb1.mono HB0.out.size)
          have hfl := fls_one (p := p) (t := 83) hs1 (cm := c1) (by rw [HM.out]; exact hc1)
          have hbx := hb1.alloc hb1.size (.cells #[.string p, .slice a1 m c1] 83)
          rw [HM.out] at hfl
          have HFL : Hid (Fls (w1.alloc (.cells #[.string p, .slice a1 m c1] 83)) (some ⟨w1.heap.size, 0, none⟩) [(p, R)]) := hfl
          have HBX : Hid (Below w.heap.size w (w1.alloc (.cells #[.string p, .slice a1 m c1] 83))) := hbx
          clear hst hb1 hfl hbx hs1 HB0
          go_wp2
          go_ret2
          exact ⟨_, _, rfl, HBX.out, HFL.out⟩
      · have hso : stO y.2 hs = [] := stO_bad h3
        rw [errV_not h3, hso] at hst
        have he := cp_bad (c := (wh, p, hs)) (x := some y.2) hiff h3
        change chg1 (wh, p, hs) (some y.2) = ((stF y.2 hs).2, none) at he
        rw [he]
        dsimp only
        rw [errV_not h3]
        obtain ⟨f, hff⟩ : ∃ f, (stF y.2 hs).2 = f := ⟨_, rfl⟩
        obtain ⟨n, hn⟩ : ∃ n, hs.length = n := ⟨_, rfl⟩
        obtain ⟨v, hv⟩ : ∃ v, y.2.length = v := ⟨_, rfl⟩
        obtain ⟨k0, hk0⟩ : ∃ k, (stF y.2 hs).1 = k := ⟨_, rfl⟩
        rw [hn] at hst HB0 y2
        rw [hk0, hff, hv] at hst
        rw [hv] at y2
        rw [hn, hff]
        clear ho h1 hh hw hf0 hl hs60 hsall hsm hx h3 hso he hn hk0 hff hv hlen hly y1 y3 y4 e0 hiff
        go_enter Tryz.func97, Tryz.ntmps97
        go_wp2_with (go_at_call 125; refine hst.mono ?_)
        rintro e w1 ⟨a1, c1, rfl, hb1, hs1, hc1⟩
        have hb1 := HB0.out.trans (hb1.mono HB0.out.size)
        clear hst HB0
        go_wp2
        go_ret2
        exact ⟨none, 0, rfl, hb1, Fls.nil _ _⟩

end Go.Proofs.YtnkdmgekpajfhadGreatDoor

namespace Go.Proofs.YtnkdmgekpajfhadGreatDoor
open Go.RowKit Go.Shelf Go.Lib Dist

/-- How far a patch has been done: what lies behind, what is to come. -/
structure Apw (t : List Fl) (p : List Ch) (out rest : List Fl) (k : Nat) : Prop where
  same : apG out rest (p.drop k) k = apG [] t p 0
  ris : Ris rest
  okO : ∀ x ∈ out, fOne x = 0
  okR : ∀ x ∈ rest, fOne x = 0
  len : out.length + rest.length ≤ 8 + k

theorem Apw.start {t : List Fl} {p : List Ch} (h : (tf t).2 = 0) : Apw t p [] t 0 := by
  obtain ⟨h1, h2, h3⟩ := tf_zero h
  exact ⟨rfl, h2, fun x hx => (by cases hx), h3, by rw [List.length_nil]; omega⟩

theorem Apw.step {t : List Fl} {p : List Ch} {out rest : List Fl} {k : Nat} (h : Apw t p out rest k) (hk : k < p.length) (hp : pf (p.getD k cz).2.1.data.toList = 0) (hc : (chg1 (p.getD k cz) (look rest (p.getD k cz).2.1)).1 = 0) :
    Apw t p (out ++ (lo rest (p.getD k cz).2.1 ++ opt (p.getD k cz).2.1 (chg1 (p.getD k cz) (look rest (p.getD k cz).2.1)).2)) (hi rest (p.getD k cz).2.1) (k + 1) := by
  have hd : p.drop k = p.getD k cz :: p.drop (k + 1) := by
    rw [List.drop_eq_getElem_cons hk]
    simp [hk]
  have hsame := h.same
  rw [hd, apG, if_pos hc] at hsame
  refine ⟨hsame, (h.ris.lohi _).2, fun x hx => ?_, fun x hx => h.okR x (mem_hi.1 hx).1, ?_⟩
  · rcases List.mem_append.1 hx with hx | hx
    · exact h.okO x hx
    · rcases List.mem_append.1 hx with hx | hx
      · exact h.okR x (mem_lo.1 hx).1
      · have hok := chg1_okL hc
        cases ho : (chg1 (p.getD k cz) (look rest (p.getD k cz).2.1)).2 with
        | none => rw [ho] at hx; cases hx
        | some l =>
          rw [ho] at hx hok
          rw [List.mem_singleton.1 hx, fOne_lines (x := ((p.getD k cz).2.1, l)) hp]
          exact hok l rfl
  · have hl := h.len
    have hs := (split_lens h.ris (p.getD k cz).2.1).1
    have ho := opt_length (p.getD k cz).2.1 (chg1 (p.getD k cz) (look rest (p.getD k cz).2.1)).2
    have e1 : (lo rest (p.getD k cz).2.1).length = pl rest (p.getD k cz).2.1 := rfl
    rw [List.length_append, List.length_append, e1]
    omega

theorem Apw.bad {t : List Fl} {p : List Ch} {out rest : List Fl} {k : Nat} (h : Apw t p out rest k) (hk : k < p.length) (hc : (chg1 (p.getD k cz) (look rest (p.getD k cz).2.1)).1 ≠ 0) :
    apG [] t p 0 = ([], k, (chg1 (p.getD k cz) (look rest (p.getD k cz).2.1)).1) := by
  have hd : p.drop k = p.getD k cz :: p.drop (k + 1) := by
    rw [List.drop_eq_getElem_cons hk]
    simp [hk]
  have hsame := h.same
  rw [hd, apG, if_neg hc] at hsame
  exact hsame.symm

theorem Apw.done {t : List Fl} {p : List Ch} {out rest : List Fl} (h : Apw t p out rest p.length) : apG [] t p 0 = (out ++ rest, 0, 0) := by
  have hsame := h.same
  rw [List.drop_length, apG] at hsame
  exact hsame.symm

theorem apF_go {t : List Fl} {p : List Ch} (h1 : (tf t).2 = 0) (h2 : (kf p).2 = 0) : apF t p = if (apG [] t p 0).2.2 ≠ 0 then ([], (apG [] t p 0).2.1, (apG [] t p 0).2.2) else if 8 < (apG [] t p 0).1.length then ([], 0, 3) else ((apG [] t p 0).1, 0, 0) := by
  have := apG_apR (p := p) (out := []) (t := t) (k := 0) (kf_zero h2).2.1 (fun x hx => by cases hx)
  unfold apF
  rw [if_neg (fun e => e h1), if_neg (fun e => e h2), this, List.nil_append]

set_option maxRecDepth 100000 in
set_option maxHeartbeats 4000000 in
theorem patchApply (a : Option Addr) (t : List Fl) (ca : Nat) (b : Option Addr) (p : List Ch) (cb : Nat) (w : World) (ha : Fls w a t) (hca : t.length ≤ ca) (hm : t.length ≤ maxLen) (hml : ∀ x ∈ t, x.2.length ≤ maxLen)
    (hb : Chs w b p) (gm : p.length ≤ maxLen) (gml : ∀ c ∈ p, c.2.2.length ≤ maxLen) (gms : ∀ c ∈ p, ∀ h ∈ c.2.2, h.2.2.length ≤ maxLen) :
    Calls Tryz.prog 65 #[.slice a t.length ca, .slice b p.length cb] w fun e w' => ∃ a' c', e = .returned (.tuple #[.slice a' (apF t p).1.length c', .int .i64 (apF t p).2.1, errV (apF t p).2.2]) ∧ Below w.heap.size w w' ∧ Fls w' a' (apF t p).1 ∧ (apF t p).1.length ≤ c' := by
  have htc := treeCheck a t ca w ha hm hml
  have HPC : Hid (∀ w', Below w.heap.size w w' → Calls Tryz.prog 25 #[.slice b p.length cb] w' fun e w'' => e = .returned (.tuple #[.int .i64 (kf p).1, errV (kf p).2]) ∧ Below w'.heap.size w' w'') := fun w' h => patchCheck b p cb w' (hb.below h) gm gml gms
  by_cases h1 : (tf t).2 = 0
  · by_cases h2 : (kf p).2 = 0
    · have hgo := apF_go h1 h2
      rw [h1, errV_zero] at htc
      rw [h2, errV_zero] at HPC
      obtain ⟨R, hR⟩ : ∃ R, apF t p = R := ⟨_, rfl⟩
      rw [hR] at hgo ⊢
      obtain ⟨_, _, hone⟩ := kf_zero h2
      have h16 := (kf_zero h2).1
      have hst := Apw.start (p := p) h1
      have HGO : Hid (R = if (apG [] t p 0).2.2 ≠ 0 then ([], (apG [] t p 0).2.1, (apG [] t p 0).2.2) else if 8 < (apG [] t p 0).1.length then ([], 0, 3) else ((apG [] t p 0).1, 0, 0)) := hgo
      obtain ⟨n, hn⟩ : ∃ n, p.length = n := ⟨_, rfl⟩
      obtain ⟨m, hm'⟩ : ∃ m, t.length = m := ⟨_, rfl⟩
      obtain ⟨k1, hk1⟩ : ∃ k, (tf t).1 = k := ⟨_, rfl⟩
      obtain ⟨k2, hk2⟩ : ∃ k, (kf p).1 = k := ⟨_, rfl⟩
      rw [hk1, hm'] at htc
      rw [hk2, hn] at HPC
      rw [hm', hn]
      rw [hn] at h16
      have HN : Hid (p.length = n) := hn
      have HM : Hid (t.length = m) := hm'
      have HONE : Hid (∀ c ∈ p, cOne c = 0) := hone
      have HA : Hid (Fls w a t) := ha
      have HBP : Hid (Chs w b p) := hb
      have HST : Hid (Apw t p [] t 0) := hst
      have HCA : Hid (m ≤ ca) := by show m ≤ ca; omega
      clear ha hb hn hm' hone hst hgo hm hml gm gml gms hca h1 h2 hk1 hk2 hR
      go_enter Tryz.func65, Tryz.ntmps65
      go_wp2_with (go_at_call 95; refine htc.mono ?_)
      rintro e w1 ⟨rfl, hb1⟩
      have hpc := HPC.out w1 hb1
      clear htc HPC
      go_wp2_with (go_at_call 25; refine hpc.mono ?_)
      rintro e w2 ⟨rfl, hb2⟩
      have hb2 := hb1.trans (hb2.mono hb1.size)
      clear hpc hb1
      have HB2 : Hid (Below w.heap.size w w2) := hb2
      have HA2 : Hid (Fls w2 a t) := HA.out.below hb2
      have HBP2 : Hid (Chs w2 b p) := HBP.out.below hb2
      clear HA HBP hb2
      go_wp2
      obtain ⟨B, hB⟩ : ∃ B, w2.heap.size = B := ⟨_, rfl⟩
      have HB : Hid (w2.heap.size = B) := hB
      clear hB
      go_loopw [0, 11, 38] (fun v0 v11 i w3 => ∃ k : Nat, k ≤ n ∧ i = .int .i64 k ∧ Below B w2 w3 ∧ ∃ out rest ar cr ao co, v0 = .slice ar rest.length cr ∧ v11 = .slice ao out.length co ∧ rest.length ≤ cr ∧ Fls w3 ar rest ∧ Fls w3 ao out ∧ Apw t p out rest k) (fun _ _ i _ => n - (intOf i).toNat)
      case atStart =>
        refine ⟨0, Nat.zero_le _, rfl, Below.refl _ _, [], t, a, ca, none, 0, ?_, rfl, ?_, HA2.out, Fls.nil _ _, HST.out⟩
        · rw [HM.out]
        · rw [HM.out]; exact HCA.out
      case round =>
        obtain ⟨k, hk, rfl, hbl, out, rest, ar, cr, ao, co, rfl, rfl, hcr, hfr, hfo, hap⟩ := hrel
        by_cases hlt : k < n
        · have hb := HBP2.out
          have hkl : k < p.length := by rw [HN.out]; exact hlt
          obtain ⟨bb, off, rfl⟩ := hb.addr hkl
          obtain ⟨ah, ch, hc0, hc1, hc2, hhs, _⟩ := hb.at hkl
          clear hb
          have hb' : Below w2.heap.size w2 wr := by rw [HB.out]; exact hbl
          replace hc0 := cell_later hb' hc0
          replace hc1 := cell_later hb' hc1
          replace hc2 := cell_later hb' hc2
          replace hhs := hhs.below hb'
          have ho := HONE.out _ (mem_getDc hkl)
          obtain ⟨o1, o2, o3, o4⟩ := cOne_zero ho
          have hstep := hap.step hkl o2
          have hbad := hap.bad hkl
          obtain ⟨wh, hw⟩ : ∃ x, (p.getD k cz).1 = x := ⟨_, rfl⟩
          obtain ⟨q, hq⟩ : ∃ q, (p.getD k cz).2.1 = q := ⟨_, rfl⟩
          obtain ⟨hs, hhs'⟩ : ∃ hs, (p.getD k cz).2.2 = hs := ⟨_, rfl⟩
          rw [getD_etac p k hw hq hhs'] at hstep hbad
          rw [hw] at hc0 o1
          rw [hq] at hc1 o2
          rw [hhs'] at hc2 hhs o3
          change (chg1 (wh, q, hs) (look rest q)).1 = 0 → Apw t p (out ++ (lo rest q ++ opt q (chg1 (wh, q, hs) (look rest q)).2)) (hi rest q) (k + 1) at hstep
          change (chg1 (wh, q, hs) (look rest q)).1 ≠ 0 → apG [] t p 0 = ([], k, (chg1 (wh, q, hs) (look rest q)).1) at hbad
          have hris := hap.ris
          have hlen := hap.len
          have hrl : rest.length ≤ 24 := by omega
          have hol : out.length ≤ 24 := by omega
          have hb0 := below_alloc wr (.cells #[.int .i64 wh, .string q, .slice ah hs.length ch] 40)
          have hsp := splitOf ar rest cr q _ (hfr.below hb0) hris (by omega) hcr
          have hse := split_lens hris q
          have HDO : Hid (∀ w4 a2 c2, Below wr.heap.size wr w4 → Fls w4 a2 (eqs rest q) → Calls Tryz.prog 97 #[.slice a2 (eqs rest q).length c2, .agg #[.int .i64 wh, .string q, .slice ah hs.length ch]] w4 fun e w' => ∃ a' c', e = .returned (.tuple #[.slice a' (opt q (chg1 (wh, q, hs) (look rest q)).2).length c', errV (chg1 (wh, q, hs) (look rest q)).1]) ∧ Below w4.heap.size w4 w' ∧ Fls w' a' (opt q (chg1 (wh, q, hs) (look rest q)).2)) := fun w4 a2 c2 hb4 hf4 => by
            have := doOf a2 (eqs rest q) c2 wh q ah hs ch w4 hf4 hse.2 (hhs.below hb4) o1 o3 (fun x hx => (fOne_zero (hap.okR x (mem_eqs.1 hx).1)).2)
            exact this
          have HCO : Hid (∀ w4 a1 c1 a3 c3 DN, DN.length ≤ 1 → Fls w4 ao out → Fls w4 a1 (lo rest q) → Fls w4 a3 DN → Calls Tryz.prog 98 #[.slice (some ⟨w4.heap.size, 0, none⟩) 3 3] (w4.alloc (.cells #[.slice ao out.length co, .slice a1 (lo rest q).length c1, .slice a3 DN.length c3] 41)) fun e w' => ∃ a' cap, e = .returned (.slice a' (out ++ (lo rest q ++ DN)).length cap) ∧ Fls w' a' (out ++ (lo rest q ++ DN)) ∧ Below w4.heap.size w4 w') := fun w4 a1 c1 a3 c3 DN h1 f1 f2 f3 => by
            have h := concatF _ [out, lo rest q, DN] 3 _ (ftc_three w4 ao a1 a3 out (lo rest q) DN co c1 c3 41 f1 f2 f3) (by
              have e1 : (lo rest q).length = pl rest q := rfl
              have := pl_le rest q
              simp
              omega) (by simp)
            have e : [out, lo rest q, DN].flatten = out ++ (lo rest q ++ DN) := by simp
            rw [e] at h
            refine h.mono fun e w' ⟨a', cap, g1, g2, g3⟩ => ⟨a', cap, g1, g2, ?_⟩
            have hba := below_alloc w4 (.cells #[.slice ao out.length co, .slice a1 (lo rest q).length c1, .slice a3 DN.length c3] 41)
            exact hba.trans (g3.mono hba.size)
          have HFO : Hid (Fls wr ao out) := hfo
          have HBL : Hid (Below B w2 wr) := hbl
          have HSZ : Hid (B ≤ wr.heap.size) := by show B ≤ wr.heap.size; have := hbl.size; have := HB.out; omega
          have HB0 : Hid (Below wr.heap.size wr (wr.alloc (.cells #[.int .i64 wh, .string q, .slice ah hs.length ch] 40))) := hb0
          have HEQ : Hid ((eqs rest q).length ≤ 1) := hse.2
          obtain ⟨C, hC⟩ : ∃ C, chg1 (wh, q, hs) (look rest q) = C := ⟨_, rfl⟩
          rw [hC] at hstep hbad HDO
          obtain ⟨f, DO, hfd⟩ : ∃ f DO, C = (f, DO) := ⟨_, _, rfl⟩
          subst hfd
          obtain ⟨DN, hDN⟩ : ∃ DN, opt q DO = DN := ⟨_, rfl⟩
          simp only [hDN] at hstep hbad HDO
          have HDL : Hid (DN.length ≤ 1) := by show DN.length ≤ 1; rw [← hDN]; exact opt_length _ _
          have HSTEP : Hid (f = 0 → Apw t p (out ++ (lo rest q ++ DN)) (hi rest q) (k + 1)) := hstep
          have HBAD : Hid (f ≠ 0 → apG [] t p 0 = ([], k, f)) := hbad
          obtain ⟨nr, hnr⟩ : ∃ x, rest.length = x := ⟨_, rfl⟩
          obtain ⟨nh, hnh⟩ : ∃ x, hs.length = x := ⟨_, rfl⟩
          obtain ⟨L, hL⟩ : ∃ L, lo rest q = L := ⟨_, rfl⟩
          obtain ⟨E, hE⟩ : ∃ E, eqs rest q = E := ⟨_, rfl⟩
          obtain ⟨H, hH⟩ : ∃ H, hi rest q = H := ⟨_, rfl⟩
          rw [hL, hE, hH] at hsp
          rw [hE] at HDO HEQ
          rw [hL] at HCO HSTEP
          rw [hH] at HSTEP
          rw [hnr, hnh] at hsp
          rw [hnh] at hc2 HDO HB0
          rw [hnr]
          clear hhs hap hstep hbad hris hlen hse hfr hfo hbl hw hq hhs' o1 o2 o3 o4 ho hb0 hb' hkl hC hDN hnr hnh hL hE hH hcr
          obtain ⟨no, hno⟩ : ∃ x, out.length = x := ⟨_, rfl⟩
          rw [hno]
          have HNO : Hid (out.length = no) := hno
          clear hno
          go_wp2_with (go_at_call 96; refine hsp.mono ?_)
          rintro e w4 ⟨a1, c1, a2, c2, a3, c3, rfl, hb4, f1, f2, f3, hc3⟩
          obtain ⟨d0, d1, d2⟩ := cells_later hb4
          have hb4 := HB0.out.trans (hb4.mono HB0.out.size)
          have hdo := HDO.out w4 a2 c2 hb4 f2
          have HF1 : Hid (Fls w4 a1 L) := f1
          have HF3 : Hid (Fls w4 a3 H) := f3
          have HC3 : Hid (H.length ≤ c3) := hc3
          have HB4 : Hid (Below wr.heap.size wr w4) := hb4
          obtain ⟨nL, hnL⟩ : ∃ x, L.length = x := ⟨_, rfl⟩
          obtain ⟨nE, hnE⟩ : ∃ x, E.length = x := ⟨_, rfl⟩
          obtain ⟨nH, hnH⟩ : ∃ x, H.length = x := ⟨_, rfl⟩
          obtain ⟨nD, hnD⟩ : ∃ x, DN.length = x := ⟨_, rfl⟩
          rw [hnE, hnD] at hdo
          rw [hnL, hnE, hnH]
          have HNL : Hid (L.length = nL) := hnL
          have HNH : Hid (H.length = nH) := hnH
          have HND : Hid (DN.length = nD) := hnD
          clear hsp f1 f2 f3 hc3 hb4 HB0 HDO hnL hnE hnH hnD hc0 hc1 hc2
          by_cases hf : f = 0
          · have hst := HSTEP.out hf
            rw [hf, errV_zero] at hdo
            have HAP : Hid (Apw t p (out ++ (L ++ DN)) H (k + 1)) := hst
            clear hst HSTEP HBAD hf
            go_wp2_with (go_at_call 97; refine hdo.mono ?_)
            rintro e w5 ⟨a5, c5, rfl, hb5, f5⟩
            have hco := HCO.out w5 a1 c1 a5 c5 DN HDL.out ((HFO.out.below HB4.out).below hb5) (HF1.out.below hb5) f5
            have HF3' : Hid (Fls w5 a3 H) := HF3.out.below hb5
            have hb5 := HB4.out.trans (hb5.mono HB4.out.size)
            have HB5 : Hid (Below B w2 w5) := HBL.out.trans (hb5.mono HSZ.out)
            have HS5 : Hid (B ≤ w5.heap.size) := by show B ≤ w5.heap.size; have := hb5.size; have := HSZ.out; omega
            rw [HNO.out, HNL.out, HND.out] at hco
            clear hdo HCO HF1 HF3 hb5 f5 d0 d1 d2
            go_wp2_with (go_at_call 98; refine hco.mono ?_)
            rintro e w6 ⟨a6, c6, rfl, f6, hb6⟩
            have F6 : Hid (Fls w6 a6 (out ++ (L ++ DN))) := f6
            have HB6 : Hid (Below B w2 w6) := HB5.out.trans (hb6.mono HS5.out)
            have HF3'' : Hid (Fls w6 a3 H) := HF3'.out.below hb6
            clear hco f6 hb6
            go_wp2
            go_roundw
            case rel => exact ⟨k + 1, by omega, by go_num, HB6.out, out ++ (L ++ DN), H, a3, c3, a6, c6, by rw [HNH.out], by simp, HC3.out, HF3''.out, F6.out, HAP.out⟩
            case measure => simp [intOf]; omega
          · have hbd := HBAD.out hf
            rw [errV_not hf] at hdo
            have HR : Hid (R = ([], k, f)) := by
              show R = ([], k, f)
              rw [HGO.out, hbd]
              exact if_pos hf
            have HF : Hid (f ≠ 0) := hf
            clear hbd HSTEP HBAD hf HCO
            go_wp2_with (go_at_call 97; refine hdo.mono ?_)
            rintro e w5 ⟨a5, c5, rfl, hb5, f5⟩
            have hb5 := HB4.out.trans (hb5.mono HB4.out.size)
            have hb5 := HBL.out.trans (hb5.mono HSZ.out)
            have HBX : Hid (Below w.heap.size w w5) := HB2.out.trans (hb5.mono (by have := HB.out; have := HB2.out.size; omega))
            clear hdo hb5 f5
            go_wp2
            go_ret3
            refine ⟨none, 0, ?_, HBX.out, ?_, ?_⟩
            · rw [HR.out, errV_not HF.out]; rfl
            · rw [HR.out]; exact Fls.nil _ _
            · rw [HR.out]; exact Nat.le_refl _
        · obtain rfl : k = n := by omega
          have hdn : apG [] t p 0 = (out ++ rest, 0, 0) := by
            have h := hap
            rw [← HN.out] at h
            exact h.done
          have hlen := hap.len
          have hR : R = if 8 < (out ++ rest).length then ([], 0, 3) else (out ++ rest, 0, 0) := by
            rw [HGO.out, hdn]
            exact if_neg (fun e => e rfl)
          have hco := concatF _ [out, rest] 2 _ (ftc_two wr ao ar out rest co cr 41 hfo hfr) (by simp; omega) (by simp)
          have e : [out, rest].flatten = out ++ rest := by simp
          rw [e] at hco
          have hba := below_alloc wr (.cells #[.slice ao out.length co, .slice ar rest.length cr] 41)
          have HCP : Hid (∀ w4 a4 c4, Fls w4 a4 (out ++ rest) → Calls Tryz.prog 99 #[.slice a4 (out ++ rest).length c4] w4 fun e w' => e = .returned (.slice (some ⟨w4.heap.size, 0, none⟩) (out ++ rest).length (out ++ rest).length) ∧ Below w4.heap.size w4 w' ∧ Fls w' (some ⟨w4.heap.size, 0, none⟩) (out ++ rest)) := fun w4 a4 c4 hf4 => copyFiles a4 (out ++ rest) c4 w4 hf4 (by rw [List.length_append]; omega) (fun x hx => by
            rcases List.mem_append.1 hx with hx | hx
            · exact fOne_small (hap.okO x hx)
            · exact fOne_small (hap.okR x hx))
          have HBA : Hid (Below w.heap.size w (wr.alloc (.cells #[.slice ao out.length co, .slice ar rest.length cr] 41))) := by
            have h1 := hbl.trans (hba.mono (by have := hbl.size; have := HB.out; omega))
            exact HB2.out.trans (h1.mono (by have := HB.out; have := HB2.out.size; omega))
          obtain ⟨T, hT⟩ : ∃ T, out ++ rest = T := ⟨_, rfl⟩
          rw [hT] at hR hco HCP
          obtain ⟨no, hno⟩ : ∃ x, out.length = x := ⟨_, rfl⟩
          obtain ⟨nr, hnr⟩ : ∃ x, rest.length = x := ⟨_, rfl⟩
          obtain ⟨nt, hnt⟩ : ∃ x, T.length = x := ⟨_, rfl⟩
          have hnt2 : nt = no + nr := by rw [← hnt, ← hT, List.length_append, hno, hnr]
          have hnl : nt ≤ 24 := by omega
          rw [hno, hnr] at hco HBA
          rw [hnt] at hco HCP hR
          have HNT : Hid (T.length = nt) := hnt
          have HRR : Hid (R = if 8 < nt then ([], 0, 3) else (T, 0, 0)) := hR
          rw [hno, hnr]
          clear hnt2 hap hdn hlen hR hfo hfr hba hbl hT hno hnr hnt e hcr
          go_wp2_with (go_at_call 98; refine hco.mono ?_)
          rintro e w4 ⟨a4, c4, rfl, f4, hb4⟩
          have hb4 := HBA.out.trans (hb4.mono HBA.out.size)
          have hcp := HCP.out w4 a4 c4 f4
          have HB4 : Hid (Below w.heap.size w w4) := hb4
          clear hco HCP HBA f4 hb4
          by_cases h8 : 8 < (nt : Int)
          · have HR : Hid (R = ([], 0, 3)) := by show R = ([], 0, 3); rw [HRR.out]; exact if_pos (by omega)
            clear hcp
            go_wp2
            go_ret3
            refine ⟨none, 0, ?_, HB4.out, ?_, ?_⟩
            · rw [HR.out]; rfl
            · rw [HR.out]; exact Fls.nil _ _
            · rw [HR.out]; exact Nat.le_refl _
          · have HR : Hid (R = (T, 0, 0)) := by show R = (T, 0, 0); rw [HRR.out]; exact if_neg (by omega)
            go_wp2_with (go_at_call 99; refine hcp.mono ?_)
            rintro e w5 ⟨rfl, hb5, f5⟩
            have hb5 := HB4.out.trans (hb5.mono HB4.out.size)
            have HB5 : Hid (Below w.heap.size w w5) := hb5
            have HF5 : Hid (Fls w5 (some ⟨w4.heap.size, 0, none⟩) T) := f5
            clear hcp hb5 f5
            go_wp2
            go_ret3
            refine ⟨some ⟨w4.heap.size, 0, none⟩, nt, ?_, HB5.out, ?_, ?_⟩
            · rw [HR.out, ← HNT.out]; rfl
            · rw [HR.out]; exact HF5.out
            · rw [HR.out, ← HNT.out]; exact Nat.le_refl _
    · have hR : apF t p = ([], (kf p).1, (kf p).2) := by unfold apF; rw [if_neg (fun e => e h1), if_pos h2]
      rw [hR]
      dsimp only
      rw [h1, errV_zero] at htc
      rw [errV_not h2] at HPC
      rw [errV_not h2]
      obtain ⟨n, hn⟩ : ∃ n, p.length = n := ⟨_, rfl⟩
      obtain ⟨m, hm'⟩ : ∃ m, t.length = m := ⟨_, rfl⟩
      obtain ⟨k1, hk1⟩ : ∃ k, (tf t).1 = k := ⟨_, rfl⟩
      obtain ⟨k2, hk2⟩ : ∃ k, (kf p).1 = k := ⟨_, rfl⟩
      obtain ⟨f, hff⟩ : ∃ f, (kf p).2 = f := ⟨_, rfl⟩
      rw [hk1, hm'] at htc
      rw [hk2, hn, hff] at HPC
      rw [hm', hn, hk2, hff]
      clear ha hb hn hm' hm hml gm gml gms hca h1 h2 hk1 hk2 hR hff
      go_enter Tryz.func65, Tryz.ntmps65
      go_wp2_with (go_at_call 95; refine htc.mono ?_)
      rintro e w1 ⟨rfl, hb1⟩
      have hpc := HPC.out w1 hb1
      clear htc HPC
      go_wp2_with (go_at_call 25; refine hpc.mono ?_)
      rintro e w2 ⟨rfl, hb2⟩
      have hb2 := hb1.trans (hb2.mono hb1.size)
      clear hpc hb1
      go_wp2
      go_ret3
      exact ⟨none, 0, rfl, hb2, Fls.nil _ _, Nat.le_refl _⟩
  · have hR : apF t p = ([], 0, (tf t).2) := by unfold apF; rw [if_pos h1]
    rw [hR]
    dsimp only
    rw [errV_not h1] at htc
    rw [errV_not h1]
    obtain ⟨n, hn⟩ : ∃ n, p.length = n := ⟨_, rfl⟩
    obtain ⟨m, hm'⟩ : ∃ m, t.length = m := ⟨_, rfl⟩
    obtain ⟨k1, hk1⟩ : ∃ k, (tf t).1 = k := ⟨_, rfl⟩
    obtain ⟨f, hff⟩ : ∃ f, (tf t).2 = f := ⟨_, rfl⟩
    rw [hk1, hm', hff] at htc
    rw [hm', hn, hff]
    clear ha hb hn hm' hm hml gm gml gms hca h1 hk1 hR hff HPC
    go_enter Tryz.func65, Tryz.ntmps65
    go_wp2_with (go_at_call 95; refine htc.mono ?_)
    rintro e w1 ⟨rfl, hb1⟩
    clear htc
    go_wp2
    go_ret3
    exact ⟨none, 0, rfl, hb1, Fls.nil _ _, Nat.le_refl _⟩

end Go.Proofs.YtnkdmgekpajfhadGreatDoor
