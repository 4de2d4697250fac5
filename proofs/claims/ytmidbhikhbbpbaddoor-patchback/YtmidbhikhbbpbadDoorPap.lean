/-
  Walks of patch.do and patch.Apply: what a change makes of a file; a patch done to a tree.
-/
import Derived.Test.YtmidbhikhbbpbadDoorPtn
import Derived.Test.YtmidbhikhbbpbadDoorXd
import Derived.Test.YtmidbhikhbbpbadDoorPsp
namespace Go.Proofs.YtmidbhikhbbpbadDoor
open Go.RowKit Go.Shelf Go.Lib Dist

theorem opt_length (p : ByteArray) (o : Option (List ByteArray)) : (opt p o).length ≤ 1 := by cases o <;> simp [opt]

theorem cp_make {c : Ch} {x : Option (List ByteArray)} (h1 : c.1 = 2) (h2 : x ≠ none) : chg1 c x = (6, none) := by unfold chg1; rw [if_pos ⟨h1, h2⟩]
theorem cp_none {c : Ch} (h1 : c.1 ≠ 2) : chg1 c none = (4, none) := by unfold chg1; rw [if_neg (fun h => h1 h.1), if_pos ⟨h1, rfl⟩]
theorem cp_bad {c : Ch} {x : Option (List ByteArray)} (h1 : c.1 = 2 ↔ x = none) (h2 : (stF (x.getD []) c.2.2).2 ≠ 0) : chg1 c x = ((stF (x.getD []) c.2.2).2, none) := by
  unfold chg1
  rw [if_neg (fun h => h.2 (h1.1 h.1)), if_neg (fun h => h.1 (h1.2 h.2)), if_pos h2]
theorem cp_put {c : Ch} {x : Option (List ByteArray)} (h1 : c.1 = 2 ↔ x = none) (h2 : (stF (x.getD []) c.2.2).2 = 0) (h3 : c.1 ≠ 3) : chg1 c x = (0, some (sR (x.getD []) c.2.2)) := by
  unfold chg1
  rw [if_neg (fun h => h.2 (h1.1 h.1)), if_neg (fun h => h.1 (h1.2 h.2)), if_neg (fun h => h h2), if_pos h3]
theorem cp_left {c : Ch} {x : Option (List ByteArray)} (h1 : c.1 = 2 ↔ x = none) (h2 : (stF (x.getD []) c.2.2).2 = 0) (h3 : c.1 = 3) (h4 : sR (x.getD []) c.2.2 ≠ []) : chg1 c x = (6, none) := by
  unfold chg1
  rw [if_neg (fun h => h.2 (h1.1 h.1)), if_neg (fun h => h.1 (h1.2 h.2)), if_neg (fun h => h h2), if_neg (fun h => h h3), if_pos h4]
theorem cp_wiped {c : Ch} {x : Option (List ByteArray)} (h1 : c.1 = 2 ↔ x = none) (h2 : (stF (x.getD []) c.2.2).2 = 0) (h3 : c.1 = 3) (h4 : sR (x.getD []) c.2.2 = []) : chg1 c x = (0, none) := by
  unfold chg1
  rw [if_neg (fun h => h.2 (h1.1 h.1)), if_neg (fun h => h.1 (h1.2 h.2)), if_neg (fun h => h h2), if_neg (fun h => h h3), if_neg (fun h => h h4)]

theorem fls_one {w : World} {p : ByteArray} {a : Option Addr} {ss : List ByteArray} {cm : Nat} {t : TypeId} (h : Strs w a ss) (hc : ss.length ≤ cm) : Fls (w.alloc (.cells #[.string p, .slice a ss.length cm] t)) (some ⟨w.heap.size, 0, none⟩) [(p, ss)] := by
  have hb := below_alloc w (.cells #[.string p, .slice a ss.length cm] t)
  have hh := heap_alloc_new w (.cells #[.string p, .slice a ss.length cm] t)
  intro i hi
  obtain rfl : i = 0 := by simpa using hi
  exact ⟨w.heap.size, 0, a, cm, rfl, by rw [Lib.cell_of_heap hh]; rfl, by rw [Lib.cell_of_heap hh]; rfl, h.below hb, hc⟩

set_option maxRecDepth 100000 in
set_option maxHeartbeats 2000000 in
theorem doOf (ao : Option Addr) (own : List Fl) (co : Nat) (wh : Int) (p : ByteArray) (ah : Option Addr) (hs : List Hk) (ch : Nat) (w : World) (ho : Fls w ao own) (h1 : own.length ≤ 1) (hh : Hks w ah hs) (hw : 1 ≤ wh ∧ wh ≤ 3) (hf0 : (hf hs).2 = 0) (hl : ∀ x ∈ own, lsf (bts x.2) = 0) :
    Calls Tryd.prog 18 #[.slice ao own.length co, .agg #[.int .i64 wh, .string p, .slice ah hs.length ch]] w fun e w' => ∃ a' c', e = .returned (.tuple #[.slice a' (opt p (chg1 (wh, p, hs) (own.head?.map (·.2))).2).length c', errV (chg1 (wh, p, hs) (own.head?.map (·.2))).1]) ∧ Below w.heap.size w w' ∧ Fls w' a' (opt p (chg1 (wh, p, hs) (own.head?.map (·.2))).2) := by
  have HB0 : Hid (Below w.heap.size w (w.alloc (.cells #[.int .i64 wh, .string p, .slice ah hs.length ch] 33))) := below_alloc w _
  obtain ⟨_, hs60, hsall⟩ := hf_good hf0
  have hsm : ∀ h ∈ hs, h.2.2.length ≤ maxLen := fun h hh => by
    have := (sf_zero (hsall h hh).1).1
    unfold maxLen; omega
  obtain ⟨x, hx⟩ : ∃ x, own.head?.map (·.2) = x := ⟨_, rfl⟩
  rw [hx]
  cases own with
  | nil =>
    obtain rfl : x = none := by rw [← hx]; rfl
    rw [List.length_nil]
    by_cases h2 : wh = 2
    · have hst := strictAny none ah [] hs 0 ch _ (fun i hi => absurd hi (Nat.not_lt_zero _)) (hh.below HB0.out) (Nat.zero_le _) (by unfold maxLen; omega) hsm (Nat.le_refl _)
      by_cases h3 : (stF [] hs).2 = 0
      · have hso : stO [] hs = sR [] hs := stO_ok h3
        rw [h3, errV_zero, hso] at hst
        have he := cp_put (c := (wh, p, hs)) (x := none) ⟨fun _ => rfl, fun _ => h2⟩ h3 (by show wh ≠ 3; omega)
        change chg1 (wh, p, hs) none = (0, some (sR [] hs)) at he
        rw [he]
        obtain ⟨R, hR⟩ : ∃ R, sR [] hs = R := ⟨_, rfl⟩
        rw [hR] at hst ⊢
        obtain ⟨n, hn⟩ : ∃ n, hs.length = n := ⟨_, rfl⟩
        obtain ⟨m, hm⟩ : ∃ m, R.length = m := ⟨_, rfl⟩
        obtain ⟨k0, hk0⟩ : ∃ k, (stF [] hs).1 = k := ⟨_, rfl⟩
        rw [hn] at hst HB0
        rw [hk0, hm] at hst
        rw [hn]
        have HM : Hid (R.length = m) := hm
        subst h2
        clear ho h1 hh hw hf0 hl hs60 hsall hsm hx h3 hso he hR hn hk0 hm
        go_enter Tryd.func18, Tryd.ntmps18
        go_wp2_with (go_at_call 34; refine hst.mono ?_)
        rintro e w1 ⟨a1, c1, rfl, hb1, hs1, hc1⟩
        obtain ⟨d0, d1, d2⟩ := cells_later hb1
        have hb1 := HB0.out.trans (hb1.mono HB0.out.size)
        have hfl := fls_one (p := p) (t := 30) hs1 (cm := c1) (by rw [HM.out]; exact hc1)
        have hbx := hb1.alloc hb1.size (.cells #[.string p, .slice a1 m c1] 30)
        rw [HM.out] at hfl
        have HFL : Hid (Fls (w1.alloc (.cells #[.string p, .slice a1 m c1] 30)) (some ⟨w1.heap.size, 0, none⟩) [(p, R)]) := hfl
        have HBX : Hid (Below w.heap.size w (w1.alloc (.cells #[.string p, .slice a1 m c1] 30))) := hbx
        clear hst hb1 hfl hbx hs1 HB0
        go_wp2
        go_ret2
        exact ⟨_, _, rfl, HBX.out, HFL.out⟩
      · have hso : stO [] hs = [] := stO_bad h3
        rw [errV_not h3, hso] at hst
        have he := cp_bad (c := (wh, p, hs)) (x := none) ⟨fun _ => rfl, fun _ => h2⟩ h3
        change chg1 (wh, p, hs) none = ((stF [] hs).2, none) at he
        rw [he]
        dsimp only
        rw [errV_not h3]
        obtain ⟨f, hff⟩ : ∃ f, (stF [] hs).2 = f := ⟨_, rfl⟩
        obtain ⟨n, hn⟩ : ∃ n, hs.length = n := ⟨_, rfl⟩
        obtain ⟨k0, hk0⟩ : ∃ k, (stF [] hs).1 = k := ⟨_, rfl⟩
        rw [hn] at hst HB0
        rw [hk0, hff] at hst
        rw [hn, hff]
        subst h2
        clear ho h1 hh hw hf0 hl hs60 hsall hsm hx h3 hso he hn hk0 hff
        go_enter Tryd.func18, Tryd.ntmps18
        go_wp2_with (go_at_call 34; refine hst.mono ?_)
        rintro e w1 ⟨a1, c1, rfl, hb1, hs1, hc1⟩
        have hb1 := HB0.out.trans (hb1.mono HB0.out.size)
        clear hst HB0
        go_wp2
        go_ret2
        exact ⟨none, 0, rfl, hb1, Fls.nil _ _⟩
    · have he := cp_none (c := (wh, p, hs)) h2
      rw [he]
      dsimp only
      obtain ⟨n, hn⟩ : ∃ n, hs.length = n := ⟨_, rfl⟩
      rw [hn] at HB0 ⊢
      clear ho h1 hh hw hf0 hl hs60 hsall hsm hx he hn
      go_enter Tryd.func18, Tryd.ntmps18
      go_wp2
      go_ret2
      exact ⟨none, 0, rfl, HB0.out, Fls.nil _ _⟩
  | cons y r =>
    have hr : r = [] := by
      cases r with
      | nil => rfl
      | cons z r => simp at h1
    subst hr
    obtain rfl : x = some y.2 := by rw [← hx]; rfl
    rw [List.length_singleton]
    have hly := hl y (by simp)
    obtain ⟨b, off, am, cm, rfl, y1, y2, y3, y4⟩ := ho 0 (by simp)
    have e0 : ([y] : List Fl).getD 0 fz = y := rfl
    rw [e0] at y1 y2 y3 y4
    rw [Nat.zero_mul, Nat.add_zero] at y1 y2
    have hlen := lsf_len hly
    by_cases h2 : wh = 2
    · have he := cp_make (c := (wh, p, hs)) (x := some y.2) h2 (by simp)
      rw [he]
      dsimp only
      obtain ⟨n, hn⟩ : ∃ n, hs.length = n := ⟨_, rfl⟩
      rw [hn] at HB0 ⊢
      subst h2
      clear ho h1 hh hw hf0 hl hs60 hsall hsm hx he hn hlen hly y1 y2 y3 y4 e0
      go_enter Tryd.func18, Tryd.ntmps18
      go_wp2
      go_ret2
      exact ⟨none, 0, rfl, HB0.out, Fls.nil _ _⟩
    · replace y2 := cell_later HB0.out y2
      have hiff : wh = 2 ↔ some y.2 = none := ⟨fun e => absurd e h2, fun e => by cases e⟩
      have hst := strictAny am ah y.2 hs cm ch _ (y3.below HB0.out) (hh.below HB0.out) (by unfold maxLen; omega) (by unfold maxLen; omega) hsm y4
      by_cases h3 : (stF y.2 hs).2 = 0
      · have hso : stO y.2 hs = sR y.2 hs := stO_ok h3
        rw [h3, errV_zero, hso] at hst
        have HC : Hid (∀ R, sR y.2 hs = R → (wh ≠ 3 → chg1 (wh, p, hs) (some y.2) = (0, some R)) ∧ (wh = 3 → R ≠ [] → chg1 (wh, p, hs) (some y.2) = (6, none)) ∧ (wh = 3 → R = [] → chg1 (wh, p, hs) (some y.2) = (0, none))) := fun R hR => by
          subst hR
          exact ⟨fun h => cp_put (c := (wh, p, hs)) (x := some y.2) hiff h3 h, fun h h4 => cp_left (c := (wh, p, hs)) (x := some y.2) hiff h3 h h4, fun h h4 => cp_wiped (c := (wh, p, hs)) (x := some y.2) hiff h3 h h4⟩
        obtain ⟨R, hR⟩ : ∃ R, sR y.2 hs = R := ⟨_, rfl⟩
        have HC1 := HC.out R hR
        rw [hR] at hst
        obtain ⟨G, hG⟩ : ∃ G, chg1 (wh, p, hs) (some y.2) = G := ⟨_, rfl⟩
        rw [hG] at HC1 ⊢
        obtain ⟨g1, g2, g3⟩ := HC1
        obtain ⟨n, hn⟩ : ∃ n, hs.length = n := ⟨_, rfl⟩
        obtain ⟨m, hm⟩ : ∃ m, R.length = m := ⟨_, rfl⟩
        obtain ⟨v, hv⟩ : ∃ v, y.2.length = v := ⟨_, rfl⟩
        obtain ⟨k0, hk0⟩ : ∃ k, (stF y.2 hs).1 = k := ⟨_, rfl⟩
        rw [hn] at hst HB0 y2
        rw [hk0, hm, hv] at hst
        rw [hv] at y2
        rw [hn]
        have HM : Hid (R.length = m) := hm
        have G1 : Hid (wh ≠ 3 → G = (0, some R)) := g1
        have G2 : Hid (wh = 3 → m ≠ 0 → G = (6, none)) := fun h h4 => g2 h (fun e => h4 (by rw [← hm, e]; rfl))
        have G3 : Hid (wh = 3 → m = 0 → G = (0, none)) := fun h h4 => g3 h (List.length_eq_zero_iff.1 (by omega))
        clear ho h1 hh hw hf0 hl hs60 hsall hsm hx h3 hso hR hn hk0 hm hG g1 g2 g3 HC hv hlen hly y1 y3 y4 e0 hiff
        by_cases h3 : wh = 3
        · by_cases h4 : m = 0
          · rw [G3.out h3 h4]
            dsimp only
            subst h3 h4
            clear G1 G2 G3
            go_enter Tryd.func18, Tryd.ntmps18
            go_wp2_with (go_at_call 34; refine hst.mono ?_)
            rintro e w1 ⟨a1, c1, rfl, hb1, hs1, hc1⟩
            obtain ⟨d0, d1, d2⟩ := cells_later hb1
            have hb1 := HB0.out.trans (hb1.mono HB0.out.size)
            clear hst HB0
            go_wp2
            go_ret2
            exact ⟨none, 0, rfl, hb1, Fls.nil _ _⟩
          · rw [G2.out h3 h4]
            dsimp only
            have h5 : (0 : Int) < m := by omega
            subst h3
            clear G1 G2 G3 h4
            go_enter Tryd.func18, Tryd.ntmps18
            go_wp2_with (go_at_call 34; refine hst.mono ?_)
            rintro e w1 ⟨a1, c1, rfl, hb1, hs1, hc1⟩
            obtain ⟨d0, d1, d2⟩ := cells_later hb1
            have hb1 := HB0.out.trans (hb1.mono HB0.out.size)
            clear hst HB0
            go_wp2
            go_ret2
            exact ⟨none, 0, rfl, hb1, Fls.nil _ _⟩
        · rw [G1.out h3]
          clear G1 G2 G3
          go_enter Tryd.func18, Tryd.ntmps18
          go_wp2_with (go_at_call 34; refine hst.mono ?_)
          rintro e w1 ⟨a1, c1, rfl, hb1, hs1, hc1⟩
          obtain ⟨d0, d1, d2⟩ := cells_later hb1
          have hb1 := HB0.out.trans (hb1.mono HB0.out.size)
          have hfl := fls_one (p := p) (t := 30) hs1 (cm := c1) (by rw [HM.out]; exact hc1)
          have hbx := hb1.alloc hb1.size (.cells #[.string p, .slice a1 m c1] 30)
          rw [HM.out] at hfl
          have HFL : Hid (Fls (w1.alloc (.cells #[.string p, .slice a1 m c1] 30)) (some ⟨w1.heap.size, 0, none⟩) [(p, R)]) := hfl
          have HBX : Hid (Below w.heap.size w (w1.alloc (.cells #[.string p, .slice a1 m c1] 30))) := hbx
          clear hst hb1 hfl hbx hs1 HB0
          go_wp2
          go_ret2
          exact ⟨_, _, rfl, HBX.out, HFL.out⟩
      · have hso : stO y.2 hs = [] := stO_bad h3
        rw [errV_not h3, hso] at hst
        have he := cp_bad (c := (wh, p, hs)) (x := some y.2) hiff h3
        change chg1 (wh, p, hs) (some y.2) = ((stF y.2 hs).2, none) at he
        rw [he]
        dsimp only
        rw [errV_not h3]
        obtain ⟨f, hff⟩ : ∃ f, (stF y.2 hs).2 = f := ⟨_, rfl⟩
        obtain ⟨n, hn⟩ : ∃ n, hs.length = n := ⟨_, rfl⟩
        obtain ⟨v, hv⟩ : ∃ v, y.2.length = v := ⟨_, rfl⟩
        obtain ⟨k0, hk0⟩ : ∃ k, (stF y.2 hs).1 = k := ⟨_, rfl⟩
        rw [hn] at hst HB0 y2
        rw [hk0, hff, hv] at hst
        rw [hv] at y2
        rw [hn, hff]
        clear ho h1 hh hw hf0 hl hs60 hsall hsm hx h3 hso he hn hk0 hff hv hlen hly y1 y3 y4 e0 hiff
        go_enter Tryd.func18, Tryd.ntmps18
        go_wp2_with (go_at_call 34; refine hst.mono ?_)
        rintro e w1 ⟨a1, c1, rfl, hb1, hs1, hc1⟩
        have hb1 := HB0.out.trans (hb1.mono HB0.out.size)
        clear hst HB0
        go_wp2
        go_ret2
        exact ⟨none, 0, rfl, hb1, Fls.nil _ _⟩

end Go.Proofs.YtmidbhikhbbpbadDoor
