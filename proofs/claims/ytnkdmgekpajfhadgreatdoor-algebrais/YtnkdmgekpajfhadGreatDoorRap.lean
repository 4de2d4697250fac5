/-
  The walk of the document's ApplyOf: a patch done to a tree.
-/
import Derived.Test.YtnkdmgekpajfhadGreatDoorXd
import Derived.Test.YtnkdmgekpajfhadGreatDoorRkf
import Derived.Test.YtnkdmgekpajfhadGreatDoorXt
import Derived.Test.YtnkdmgekpajfhadGreatDoorRefB

namespace Go.Proofs.YtnkdmgekpajfhadGreatDoor
open Go.RowKit Dist

theorem plc_look {t : List Fl} (h : Ris t) (q : ByteArray) : plc t q = match look t q with | none => -1 | some _ => (pl t q : Int) := by
  rw [h.plc]
  cases e : look t q with
  | none => rw [if_pos (look_none.1 e)]
  | some l => rw [if_neg (fun e2 => by rw [look_none.2 e2] at e; cases e)]

theorem look_at {t : List Fl} (h : Ris t) {q : ByteArray} {xs : List ByteArray} (e : look t q = some xs) : pl t q < t.length ∧ (t.getD (pl t q) fz).2 = xs ∧ t.take (pl t q) ++ t.drop (pl t q + 1) = dropM t q := by
  have hne : eqs t q ≠ [] := fun e2 => by rw [look_none.2 e2] at e; cases e
  obtain ⟨h1, h2, _, h4⟩ := h.drop_more hne
  refine ⟨h2, ?_, by rw [h.take, h1]; rfl⟩
  unfold look at e
  rw [h4] at e
  simpa using e

/-- What holds while a patch is done: the tree so far, and how far. -/
def Apg (t : List Fl) (p : List Ch) (k : Nat) (T : List Fl) : Prop :=
  apR t p 0 = apR T (p.drop k) k ∧ Ris T ∧ T.length ≤ 8 + k ∧ ∀ x ∈ T, lsf (bts x.2) = 0

theorem Apg.start {t : List Fl} {p : List Ch} (h : (tf t).2 = 0) : Apg t p 0 t := by
  obtain ⟨h1, h2, h3⟩ := tf_zero h
  exact ⟨rfl, h2, by omega, fun x hx => (fOne_zero (h3 x hx)).2⟩

theorem Apg.bad {t T : List Fl} {p : List Ch} {k : Nat} (h : Apg t p k T) (ht : (tf t).2 = 0) (hp : (kf p).2 = 0) (hk : k < p.length) {e : Int} (he : (chg1 (p.getD k cz) (look T (p.getD k cz).2.1)).1 = e) (hz : e ≠ 0) : apF t p = ([], k, e) := by
  have e1 : p.drop k = p.getD k cz :: p.drop (k + 1) := by
    rw [List.drop_eq_getElem_cons hk]; simp [hk]
  have e2 : apR t p 0 = ([], k, e) := by
    rw [h.1, e1, apR, if_neg (by rw [he]; exact hz), he]
  unfold apF
  rw [if_neg (fun x => x ht), if_neg (fun x => x hp), e2, if_pos hz]

theorem Apg.good {t T : List Fl} {p : List Ch} {k : Nat} (h : Apg t p k T) (hk : k < p.length) {y : Option (List ByteArray)} (he : chg1 (p.getD k cz) (look T (p.getD k cz).2.1) = (0, y)) : Apg t p (k + 1) (setM T (p.getD k cz).2.1 y) := by
  have e1 : p.drop k = p.getD k cz :: p.drop (k + 1) := by
    rw [List.drop_eq_getElem_cons hk]; simp [hk]
  obtain ⟨h1, h2, h3, h4⟩ := h
  have hok : okL y := by
    have := chg1_okL (c := p.getD k cz) (x := look T (p.getD k cz).2.1) (by rw [he])
    rw [he] at this; exact this
  refine ⟨?_, setM_ris h2 _ _, ?_, fun x hx => ?_⟩
  · rw [h1, e1, apR, he, if_pos rfl]
  · cases y with
    | none => have := h2.drop_length (p.getD k cz).2.1; show (dropM T _).length ≤ _; omega
    | some l =>
      obtain ⟨p1, p2⟩ := h2.put_length ((p.getD k cz).2.1, l)
      show (putM T _).length ≤ _
      by_cases e : eqs T (p.getD k cz).2.1 = []
      · rw [p2 e]; omega
      · rw [p1 e]; omega
  · have hl := (setM_ris h2 (p.getD k cz).2.1 y).look_mem hx
    rw [look_set h2] at hl
    by_cases e : x.1 = (p.getD k cz).2.1
    · rw [if_pos e] at hl; exact hok _ hl
    · rw [if_neg e] at hl; exact h4 _ (look_some hl)

theorem Apg.done {t T : List Fl} {p : List Ch} (h : Apg t p p.length T) (ht : (tf t).2 = 0) (hp : (kf p).2 = 0) : (8 < T.length → apF t p = ([], 0, 3)) ∧ (¬ 8 < T.length → apF t p = (T, 0, 0)) := by
  have e : apR t p 0 = (T, 0, 0) := by rw [h.1, List.drop_length]; rfl
  unfold apF
  rw [if_neg (fun x => x ht), if_neg (fun x => x hp), e, if_neg (fun x => x rfl)]
  exact ⟨fun h => by rw [if_pos h], fun h => by rw [if_neg h]⟩

theorem chg1_clash {c : Ch} {x : Option (List ByteArray)} (h : c.1 = 2) (hx : x ≠ none) : (chg1 c x).1 = 6 := by unfold chg1; rw [if_pos ⟨h, hx⟩]
theorem chg1_gone {c : Ch} (h : c.1 ≠ 2) : (chg1 c none).1 = 4 := by unfold chg1; rw [if_neg (fun e => h e.1), if_pos ⟨h, rfl⟩]
theorem chg1_bad {c : Ch} {x : Option (List ByteArray)} (h : c.1 = 2 ↔ x = none) (hf : (stF (x.getD []) c.2.2).2 ≠ 0) : (chg1 c x).1 = (stF (x.getD []) c.2.2).2 := by
  unfold chg1
  rw [if_neg (fun e => e.2 (h.1 e.1)), if_neg (fun e => e.1 (h.2 e.2)), if_pos hf]
theorem chg1_left {c : Ch} {x : Option (List ByteArray)} (h : c.1 = 3) (hx : x ≠ none) (hf : (stF (x.getD []) c.2.2).2 = 0) (hs : sR (x.getD []) c.2.2 ≠ []) : (chg1 c x).1 = 6 := by
  unfold chg1
  rw [if_neg (fun e => by omega), if_neg (fun e => hx e.2), if_neg (fun e => e hf), if_neg (fun e => e h), if_pos hs]
set_option maxRecDepth 100000 in
set_option maxHeartbeats 8000000 in
theorem applyRefC (a : Option Addr) (t : List Fl) (ca : Nat) (la : Option Addr) (p : List Ch) (cl : Nat) (w : World) (ha : Fls w a t) (hca : t.length ≤ ca) (hm : t.length ≤ maxLen) (hms : ∀ x ∈ t, x.2.length ≤ maxLen) (hts : ∀ x ∈ t, ∀ s ∈ x.2, s.size ≤ maxLen)
    (hl : Chs w la p) (hn : p.length ≤ maxLen) (hml : ∀ c ∈ p, c.2.2.length ≤ maxLen) (hmk : ∀ c ∈ p, ∀ h ∈ c.2.2, h.2.2.length ≤ maxLen) (htk : ∀ c ∈ p, ∀ h ∈ c.2.2, ∀ m ∈ h.2.2, m.2.size ≤ maxLen) :
    Calls Tryz.prog 36 #[.slice a t.length ca, .slice la p.length cl] w fun e w' => ∃ g c, e = .returned (.tuple #[.slice g (apF t p).1.length c, .int .i64 (apF t p).2.1, .int .i64 (apF t p).2.2]) ∧ Fls w' g (apF t p).1 ∧ (apF t p).1.length ≤ c ∧ Below w.heap.size w w' := by
  have htf := treeFault a t ca w ha hm hms hts
  have HKF := fun w' h => patchFault la p cl w' (hl.below (w' := w') h) hn hml hmk htk
  obtain ⟨nt, hnt⟩ : ∃ n, t.length = n := ⟨_, rfl⟩
  obtain ⟨n, hnn⟩ : ∃ n, p.length = n := ⟨_, rfl⟩
  rw [hnt] at htf
  rw [hnn] at HKF
  by_cases h1 : (tf t).2 = 0
  case' neg =>
    have e1 : apF t p = ([], 0, (tf t).2) := by unfold apF; rw [if_pos h1]
    rw [e1, hnt, hnn]
    obtain ⟨f0, hf0⟩ : ∃ f, (tf t).1 = f := ⟨_, rfl⟩
    obtain ⟨f, hf⟩ : ∃ f, (tf t).2 = f := ⟨_, rfl⟩
    rw [hf] at htf h1 ⊢
    rw [hf0] at htf
    have hz : (f != 0) = true := by simpa using h1
    clear ha hca hm hms hts hl hn hml hmk htk HKF e1 hf hf0 hnt hnn h1
    go_enter Tryz.func36, Tryz.ntmps36
    go_wp2_with (go_at_call 61; refine htf.mono ?_)
    rintro e w1 ⟨rfl, hb1⟩
    clear htf
    go_wp2
    exact bodyPost_ret (v := .tuple #[.slice none 0 0, .int .i64 0, .int .i64 f]) (by simp [results, Tryz.results36, go_sem]) rfl ⟨none, 0, rfl, Fls.nil _ _, Nat.le_refl _, hb1⟩
  case' pos =>
    by_cases h2 : (kf p).2 = 0
    case' neg =>
      have e1 : apF t p = ([], (kf p).1, (kf p).2) := by unfold apF; rw [if_neg (fun e => e h1), if_pos h2]
      rw [e1, hnt, hnn]
      rw [h1] at htf
      obtain ⟨f0, hf0⟩ : ∃ f, (tf t).1 = f := ⟨_, rfl⟩
      obtain ⟨f1, hf1⟩ : ∃ f, (kf p).1 = f := ⟨_, rfl⟩
      obtain ⟨f, hf⟩ : ∃ f, (kf p).2 = f := ⟨_, rfl⟩
      rw [hf0] at htf
      rw [hf, hf1] at HKF ⊢
      rw [hf] at h2
      have hz : (f != 0) = true := by simpa using h2
      clear ha hca hm hms hts hl hn hml hmk htk e1 hf hf0 hf1 hnt hnn h1 h2
      go_enter Tryz.func36, Tryz.ntmps36
      go_wp2_with (go_at_call 61; refine htf.mono ?_)
      rintro e w1 ⟨rfl, hb1⟩
      have hkf := HKF w1 hb1
      clear htf HKF
      go_wp2_with (go_at_call 6; refine hkf.mono ?_)
      rintro e w2 ⟨rfl, hb2⟩
      have hb2 := hb1.trans (hb2.mono hb1.size)
      clear hkf hb1
      go_wp2
      exact bodyPost_ret (v := .tuple #[.slice none 0 0, .int .i64 f1, .int .i64 f]) (by simp [results, Tryz.results36, go_sem]) rfl ⟨none, 0, rfl, Fls.nil _ _, Nat.le_refl _, hb2⟩
    case' pos =>
      obtain ⟨k16, _, kone⟩ := kf_zero h2
      rw [h1] at htf
      rw [h2] at HKF
      obtain ⟨f0, hf0⟩ : ∃ f, (tf t).1 = f := ⟨_, rfl⟩
      obtain ⟨f1, hf1⟩ : ∃ f, (kf p).1 = f := ⟨_, rfl⟩
      rw [hf0] at htf
      rw [hf1] at HKF
      have H1 : Hid ((tf t).2 = 0) := h1
      have H2 : Hid ((kf p).2 = 0) := h2
      have HONE : Hid (∀ c ∈ p, cOne c = 0) := kone
      have HA : Hid (Fls w a t) := ha
      have HCA : Hid (t.length ≤ ca) := hca
      have HL : Hid (Chs w la p) := hl
      have HML : Hid (∀ c ∈ p, c.2.2.length ≤ maxLen) := hml
      have HMK : Hid (∀ c ∈ p, ∀ h ∈ c.2.2, h.2.2.length ≤ maxLen) := hmk
      have HTK : Hid (∀ c ∈ p, ∀ h ∈ c.2.2, ∀ m ∈ h.2.2, m.2.size ≤ maxLen) := htk
      have HN : Hid (p.length = n) := hnn
      have HNT : Hid (t.length = nt) := hnt
      rw [hnn] at k16
      rw [hnt, hnn]
      obtain ⟨R, hR⟩ : ∃ R, apF t p = R := ⟨_, rfl⟩
      have HR : Hid (apF t p = R) := hR
      rw [hR]
      clear ha hca hm hms hts hl hn hml hmk htk hf0 hf1 hnt hnn h1 h2 kone hR
      obtain ⟨B, hB⟩ : ∃ B, w.heap.size = B := ⟨_, rfl⟩
      have HB : Hid (w.heap.size = B) := hB
      rw [hB]
      rw [hB] at HKF
      clear hB
      go_enter Tryz.func36, Tryz.ntmps36
      go_wp2_with (go_at_call 61; refine htf.mono ?_)
      rintro e w1 ⟨rfl, hb1⟩
      rw [HB.out] at hb1
      have hkf := HKF w1 hb1
      clear htf HKF
      go_wp2_with (go_at_call 6; refine hkf.mono ?_)
      rintro e w2 ⟨rfl, hb2⟩
      have HB2 : Hid (Below B w w2) := hb1.trans (hb2.mono (by have := hb1.size; have := HB.out; omega))
      clear hkf hb1 hb2
      go_wp2
      go_loopw [10, 11] (fun v i wx => ∃ (k : Nat) (T : List Fl) (g : Option Addr) (c : Nat), k ≤ n ∧ i = .int .i64 k ∧ v = .slice g T.length c ∧ Fls wx g T ∧ T.length ≤ c ∧ Below B w wx ∧ Apg t p k T) (fun _ i _ => n - (intOf i).toNat)
      case atStart => exact ⟨0, t, a, ca, Nat.zero_le _, rfl, by rw [HNT.out], HA.out.below (by rw [HB.out]; exact HB2.out), HCA.out, HB2.out, Apg.start H1.out⟩
      case round =>
        obtain ⟨k, T, g, cT, hk, rfl, rfl, hfT, hcT, hbl, hap⟩ := hrel
        have HAP : Hid (Apg t p k T) := hap
        have HRT : Hid (Ris T) := hap.2.1
        have hT24 := hap.2.2.1
        have HTL : Hid (∀ x ∈ T, lsf (bts x.2) = 0) := hap.2.2.2
        have hszB : B ≤ wr.heap.size := by have := hbl.size; have := HB.out; omega
        have HFT : Hid (Fls wr g T) := hfT
        have HCT : Hid (T.length ≤ cT) := hcT
        have HBL : Hid (Below B w wr) := hbl
        obtain ⟨m, hm⟩ : ∃ m, T.length = m := ⟨_, rfl⟩
        have HM : Hid (T.length = m) := hm
        rw [hm] at hT24 ⊢
        clear hap hfT hcT hbl hm
        by_cases hlt : k < n
        case' neg =>
          obtain rfl : k = n := by omega
          have hd := HAP.out
          rw [← HN.out] at hd
          obtain ⟨D1, D2⟩ := hd.done H1.out H2.out
          rw [HM.out, HR.out] at D1 D2
          have HD1 : Hid (8 < m → R = ([], 0, 3)) := D1
          have HD2 : Hid (¬ 8 < m → R = (T, 0, 0)) := D2
          clear hd D1 D2
          by_cases h8 : 8 < (m : Int)
          · have e := HD1.out (by omega)
            go_wp2
            refine bodyPost_ret (v := .tuple #[.slice none 0 0, .int .i64 0, .int .i64 3]) (by simp [results, Tryz.results36, go_sem]) rfl ⟨none, 0, ?_, ?_, ?_, HBL.out⟩
            · rw [e]; rfl
            · rw [e]; exact Fls.nil _ _
            · rw [e]; exact Nat.le_refl _
          · have e : Hid (R = (T, 0, 0)) := HD2.out (by omega)
            go_wp2
            refine bodyPost_ret (v := .tuple #[.slice g m cT, .int .i64 0, .int .i64 0]) (by simp [results, Tryz.results36, go_sem]) rfl ⟨g, cT, ?_, ?_, ?_, HBL.out⟩
            · rw [e.out]; show _ = Ending.returned (.tuple #[.slice g T.length cT, _, _]); rw [HM.out]; rfl
            · rw [e.out]; exact HFT.out
            · rw [e.out]; exact HCT.out
        case' pos =>
          have hl := HL.out
          have hkl : k < p.length := by rw [HN.out]; exact hlt
          obtain ⟨b, off, rfl⟩ := hl.addr hkl
          obtain ⟨ah, ch, hc0, hc1, hc2, hks, _⟩ := hl.at hkl
          have hb' : Below w.heap.size w wr := by rw [HB.out]; exact HBL.out
          replace hc0 := cell_later hb' hc0
          replace hc1 := cell_later hb' hc1
          replace hc2 := cell_later hb' hc2
          replace hks := hks.below hb'
          have hmem := mem_getDc hkl
          obtain ⟨w13, _, whf, _⟩ := cOne_zero (HONE.out _ hmem)
          have m1 := HML.out _ hmem
          have m2 := HMK.out _ hmem
          have m3 := HTK.out _ hmem
          have B1 : Hid (∀ e, (chg1 (p.getD k cz) (look T (p.getD k cz).2.1)).1 = e → e ≠ 0 → apF t p = ([], k, e)) := fun e h1 h2 => HAP.out.bad H1.out H2.out hkl h1 h2
          have B2 : Hid (∀ y, chg1 (p.getD k cz) (look T (p.getD k cz).2.1) = (0, y) → Apg t p (k + 1) (setM T (p.getD k cz).2.1 y)) := fun y h => HAP.out.good hkl h
          obtain ⟨wh, hwh⟩ : ∃ x, (p.getD k cz).1 = x := ⟨_, rfl⟩
          obtain ⟨q, hq⟩ : ∃ x, (p.getD k cz).2.1 = x := ⟨_, rfl⟩
          obtain ⟨hs, hhs⟩ : ∃ x, (p.getD k cz).2.2 = x := ⟨_, rfl⟩
          rw [getD_etac p k hwh hq hhs, HR.out] at B1
          rw [getD_etac p k hwh hq hhs] at B2
          rw [hwh] at hc0 w13
          rw [hq] at hc1
          rw [hhs] at hc2 hks whf m1 m2 m3
          have hb0 := below_alloc wr (.cells #[.int .i64 wh, .string q, .slice ah hs.length ch] 40)
          obtain ⟨d0, d1, d2⟩ := cells_later (Below.refl (wr.alloc (.cells #[.int .i64 wh, .string q, .slice ah hs.length ch] 40)).heap.size (wr.alloc (.cells #[.int .i64 wh, .string q, .slice ah hs.length ch] 40)))
          have hpc := placeRef g T cT q _ (HFT.out.below hb0) (by rw [HM.out]; unfold maxLen; omega)
          rw [plc_look HRT.out, HM.out] at hpc
          have HST := fun xs w' ax cx (h : Below wr.heap.size wr w') (hx : Strs w' ax xs) (h1 : lsf (bts xs) = 0) (h2 : xs.length ≤ cx) => refStrict ax ah xs hs cx ch w' hx (hks.below h) (by have := lsf_len h1; unfold maxLen; omega) (fun s hs' => by have := (lf_zero ((lsf_zero h1).2 s.data.toList (List.mem_map.2 ⟨s, hs', rfl⟩))).2; rw [Lib.size_eq]; unfold maxLen; omega) m1 m2 m3 h2
          have HBA : Hid (Below wr.heap.size wr (wr.alloc (.cells #[.int .i64 wh, .string q, .slice ah hs.length ch] 40))) := hb0
          obtain ⟨z, hz⟩ : ∃ x, hs.length = x := ⟨_, rfl⟩
          rw [hz] at hc2 hpc HST HBA d0 d1 d2
          clear hl hkl hb' hks hmem m1 m2 m3 hwh hq hhs hb0 hz whf
          have hbA : Below B w (wr.alloc (.cells #[.int .i64 wh, .string q, .slice ah z ch] 40)) := HBL.out.trans (HBA.out.mono hszB)
          have HBW : Hid (Below B w (wr.alloc (.cells #[.int .i64 wh, .string q, .slice ah z ch] 40))) := hbA
          clear hbA
          have hwh : wh = 1 ∨ wh = 2 ∨ wh = 3 := by omega
          clear w13
          obtain ⟨x, hx⟩ : ∃ x, look T q = x := ⟨_, rfl⟩
          rw [hx] at hpc B1 B2
          cases x with
          | none =>
            simp only at hpc
            by_cases h2 : wh = 2
            case' neg =>
              have HG : Hid (R = ([], k, 4)) := B1.out 4 (chg1_gone (c := (wh, q, hs)) h2) (by decide)
              have hw : (wh == 2) = false := by simpa using h2
              have hw' : (wh != 2) = true := by simpa using h2
              clear B1 B2 HST h2 hwh
              go_wp2_with (go_at_call 38; refine hpc.mono ?_; rintro e w' ⟨rfl, hw⟩; rw [hw]; clear hw w')
              refine bodyPost_ret (v := .tuple #[.slice none 0 0, .int .i64 k, .int .i64 4]) (by simp [results, Tryz.results36, go_sem]) rfl ⟨none, 0, ?_, ?_, ?_, HBW.out⟩
              · rw [HG.out]; rfl
              · rw [HG.out]; exact Fls.nil _ _
              · rw [HG.out]; exact Nat.le_refl _
            case' pos =>
              subst h2
              have hst := HST [] _ none 0 HBA.out (fun _ hi => absurd hi (Nat.not_lt_zero _)) rfl (Nat.le_refl _)
              have C1 : Hid ((stF [] hs).2 ≠ 0 → R = ([], k, (stF [] hs).2)) := fun h => B1.out _ (chg1_bad (c := (2, q, hs)) (x := none) ⟨fun _ => rfl, fun _ => rfl⟩ h) h
              have C2 : Hid ((stF [] hs).2 = 0 → Apg t p (k + 1) (putM T (q, stO [] hs))) := fun h => by
                have := B2.out _ (chg1_of (c := (2, q, hs)) (x := none) ⟨fun _ => rfl, fun _ => rfl⟩ h (fun e => by simp at e))
                rw [if_neg (by simp)] at this
                rw [stO_ok h]; exact this
              have HPU := fun w' am cm (h : Below wr.heap.size wr w') (hs' : Strs w' am (stO [] hs)) (hc : (stO [] hs).length ≤ cm) => putRefC g T cT q am (stO [] hs) cm w' (HFT.out.below h) HRT.out (by rw [HM.out]; omega) hs' hc
              obtain ⟨L, hL⟩ : ∃ x, stO [] hs = x := ⟨_, rfl⟩
              obtain ⟨e0, he0⟩ : ∃ x, (stF [] hs).1 = x := ⟨_, rfl⟩
              obtain ⟨f, hf⟩ : ∃ x, (stF [] hs).2 = x := ⟨_, rfl⟩
              rw [hL] at hst C2 HPU
              rw [he0, hf] at hst
              rw [hf] at C1 C2
              rw [HM.out] at HPU
              obtain ⟨zl, hzl⟩ : ∃ x, L.length = x := ⟨_, rfl⟩
              have HZL : Hid (L.length = zl) := hzl
              rw [hzl] at hst HPU
              simp only [List.length_nil] at hst
              clear B1 B2 HST hL he0 hf hzl hwh
              by_cases h0 : f = 0
              case' neg =>
                have HG : Hid (R = ([], k, f)) := C1.out h0
                have hz : (f != 0) = true := by simpa using h0
                clear C1 C2 HPU h0
                go_wp2_with (first | (go_at_call 38; refine hpc.mono ?_; rintro e w' ⟨rfl, hw⟩; rw [hw]; clear hw w') | (go_at_call 62; refine hst.mono ?_; rintro e w3 ⟨a3, c3, rfl, hb3, _, _⟩; have hb4 := HBW.out.trans (hb3.mono (by have := HBW.out.size; have := HB.out; omega))))
                refine bodyPost_ret (v := .tuple #[.slice none 0 0, .int .i64 k, .int .i64 f]) (by simp [results, Tryz.results36, go_sem]) rfl ⟨none, 0, ?_, ?_, ?_, hb4⟩
                · rw [HG.out]; rfl
                · rw [HG.out]; exact Fls.nil _ _
                · rw [HG.out]; exact Nat.le_refl _
              case' pos =>
                subst h0
                have HNX : Hid (Apg t p (k + 1) (putM T (q, L))) := C2.out rfl
                obtain ⟨P, hP⟩ : ∃ x, putM T (q, L) = x := ⟨_, rfl⟩
                rw [hP] at HNX HPU
                obtain ⟨zp, hzp⟩ : ∃ x, P.length = x := ⟨_, rfl⟩
                have HZP : Hid (P.length = zp) := hzp
                rw [hzp] at HPU
                clear C1 C2 hP hzp
                go_wp2_with (first | (go_at_call 38; refine hpc.mono ?_; rintro e w' ⟨rfl, hw⟩; rw [hw]; clear hw w') | (go_at_call 62; refine hst.mono ?_; rintro e w3 ⟨a3, c3, rfl, hb3, hs3, hc3⟩; obtain ⟨y0, y1, y2⟩ := cells_later hb3; have hb5 := HBA.out.trans (hb3.mono HBA.out.size); have hb4 := HBW.out.trans (hb3.mono (by have := HBW.out.size; have := HB.out; omega)); have hpu := HPU w3 a3 c3 hb5 hs3 hc3; clear hst HPU d0 d1 d2) | (go_at_call 37; refine hpu.mono ?_; rintro e w6 ⟨g6, c6, rfl, hf6, hc6, hb6⟩; have hb7 := hb4.trans (hb6.mono (by have := hb4.size; have := HB.out; omega))))
                go_roundw
                case rel => exact ⟨k + 1, P, g6, c6, by omega, by go_num, by rw [HZP.out], hf6, by rw [HZP.out]; exact hc6, hb7, HNX.out⟩
                case measure => simp [intOf]; omega
          | some xs =>
            obtain ⟨j1, j2, j3⟩ := look_at HRT.out hx
            have hok := HTL.out _ (look_some hx)
            simp only at hpc hok
            obtain ⟨bg, og, rfl⟩ := HFT.out.addr j1
            obtain ⟨ax, cx, _, y1, y2, y3⟩ := HFT.out.at j1
            rw [j2] at y1 y2 y3
            by_cases h2 : wh = 2
            case' pos =>
              subst h2
              have HG : Hid (R = ([], k, 6)) := B1.out 6 (chg1_clash (c := (2, q, hs)) rfl (by simp)) (by decide)
              obtain ⟨jj, hjj⟩ : ∃ x, pl T q = x := ⟨_, rfl⟩
              rw [hjj] at hpc
              clear B1 B2 HST hwh j1 j2 j3 hok y1 y2 y3 hjj hx
              go_wp2_with (go_at_call 38; refine hpc.mono ?_; rintro e w' ⟨rfl, hw⟩; rw [hw]; clear hw w')
              refine bodyPost_ret (v := .tuple #[.slice none 0 0, .int .i64 k, .int .i64 6]) (by simp [results, Tryz.results36, go_sem]) rfl ⟨none, 0, ?_, ?_, ?_, HBW.out⟩
              · rw [HG.out]; rfl
              · rw [HG.out]; exact Fls.nil _ _
              · rw [HG.out]; exact Nat.le_refl _
            case' neg =>
              have hst := HST xs _ ax cx HBA.out (y2.below HBA.out) hok y3
              have z1 := cell_later HBA.out y1
              have hiff : (wh, q, hs).1 = 2 ↔ some xs = none := ⟨fun e => absurd e h2, fun e => by cases e⟩
              have C1 : Hid ((stF xs hs).2 ≠ 0 → R = ([], k, (stF xs hs).2)) := fun h => B1.out _ (chg1_bad (c := (wh, q, hs)) (x := some xs) hiff h) h
              have C2 : Hid (wh = 1 → (stF xs hs).2 = 0 → Apg t p (k + 1) (putM T (q, stO xs hs))) := fun e h => by
                have := B2.out _ (chg1_of (c := (wh, q, hs)) (x := some xs) hiff h (fun e2 => by simp at e2; omega))
                rw [if_neg (by simp; omega)] at this
                rw [stO_ok h]; exact this
              have C3 : Hid (wh = 3 → (stF xs hs).2 = 0 → stO xs hs ≠ [] → R = ([], k, 6)) := fun e h hn => B1.out 6 (chg1_left (c := (wh, q, hs)) (x := some xs) e (by simp) h (by rw [stO_ok h] at hn; exact hn)) (by decide)
              have C4 : Hid (wh = 3 → (stF xs hs).2 = 0 → stO xs hs = [] → Apg t p (k + 1) (dropM T q)) := fun e h hn => by
                have := B2.out _ (chg1_of (c := (wh, q, hs)) (x := some xs) hiff h (fun _ => by rw [stO_ok h] at hn; exact hn))
                rw [if_pos (show (wh, q, hs).1 = 3 from e)] at this
                exact this
              have HPU := fun w' am cm (h : Below wr.heap.size wr w') (hs' : Strs w' am (stO xs hs)) (hc : (stO xs hs).length ≤ cm) => putRefC (some ⟨bg, og, none⟩) T cT q am (stO xs hs) cm w' (HFT.out.below h) HRT.out (by rw [HM.out]; omega) hs' hc
              have HDR := fun w' (h : Below wr.heap.size wr w') => dropRefC (some ⟨bg, og, none⟩) T cT (pl T q) w' (HFT.out.below h) HCT.out (by rw [HM.out]; omega) j1
              rw [j3] at HDR
              obtain ⟨L, hL⟩ : ∃ x, stO xs hs = x := ⟨_, rfl⟩
              obtain ⟨e0, he0⟩ : ∃ x, (stF xs hs).1 = x := ⟨_, rfl⟩
              obtain ⟨f, hf⟩ : ∃ x, (stF xs hs).2 = x := ⟨_, rfl⟩
              obtain ⟨zx, hzx⟩ : ∃ x, xs.length = x := ⟨_, rfl⟩
              obtain ⟨jj, hjj⟩ : ∃ x, pl T q = x := ⟨_, rfl⟩
              rw [hL] at hst C2 C3 C4 HPU
              rw [he0, hf] at hst
              rw [hf] at C1 C2 C3 C4
              rw [hzx] at hst z1
              rw [hjj] at hpc HDR z1 j1
              rw [HM.out] at HPU HDR j1
              obtain ⟨zl, hzl⟩ : ∃ x, L.length = x := ⟨_, rfl⟩
              have HZL : Hid (L.length = zl) := hzl
              rw [hzl] at hst HPU
              have hjm : (jj : Int) < m := by omega
              have hw : (wh == 2) = false := by simpa using h2
              have hw' : (wh != 2) = true := by simpa using h2
              clear B1 B2 HST hL he0 hf hzl hjj hzx j2 j3 hok y1 y2 y3 hx hiff
              by_cases h0 : f = 0
              case' neg =>
                have HG : Hid (R = ([], k, f)) := C1.out h0
                have hz : (f != 0) = true := by simpa using h0
                clear C1 C2 C3 C4 HPU HDR h0
                go_wp2_with (first | (go_at_call 38; refine hpc.mono ?_; rintro e w' ⟨rfl, hw⟩; rw [hw]; clear hw w') | (go_at_call 62; refine hst.mono ?_; rintro e w3 ⟨a3, c3, rfl, hb3, _, _⟩; have hb4 := HBW.out.trans (hb3.mono (by have := HBW.out.size; have := HB.out; omega))))
                refine bodyPost_ret (v := .tuple #[.slice none 0 0, .int .i64 k, .int .i64 f]) (by simp [results, Tryz.results36, go_sem]) rfl ⟨none, 0, ?_, ?_, ?_, hb4⟩
                · rw [HG.out]; rfl
                · rw [HG.out]; exact Fls.nil _ _
                · rw [HG.out]; exact Nat.le_refl _
              case' pos =>
                subst h0
                by_cases h3 : wh = 3
                case' neg =>
                  obtain rfl : wh = 1 := by omega
                  have HNX : Hid (Apg t p (k + 1) (putM T (q, L))) := C2.out rfl rfl
                  obtain ⟨P, hP⟩ : ∃ x, putM T (q, L) = x := ⟨_, rfl⟩
                  rw [hP] at HNX HPU
                  obtain ⟨zp, hzp⟩ : ∃ x, P.length = x := ⟨_, rfl⟩
                  have HZP : Hid (P.length = zp) := hzp
                  rw [hzp] at HPU
                  clear C1 C2 C3 C4 HDR hP hzp h3 h2 hwh hw hw'
                  go_wp2_with (first | (go_at_call 38; refine hpc.mono ?_; rintro e w' ⟨rfl, hw⟩; rw [hw]; clear hw w') | (go_at_call 62; refine hst.mono ?_; rintro e w3 ⟨a3, c3, rfl, hb3, hs3, hc3⟩; obtain ⟨y0, y1, y2⟩ := cells_later hb3; have hb5 := HBA.out.trans (hb3.mono HBA.out.size); have hb4 := HBW.out.trans (hb3.mono (by have := HBW.out.size; have := HB.out; omega)); have hpu := HPU w3 a3 c3 hb5 hs3 hc3; clear hst HPU d0 d1 d2 z1) | (go_at_call 37; refine hpu.mono ?_; rintro e w6 ⟨g6, c6, rfl, hf6, hc6, hb6⟩; have hb7 := hb4.trans (hb6.mono (by have := hb4.size; have := HB.out; omega))))
                  go_roundw
                  case rel => exact ⟨k + 1, P, g6, c6, by omega, by go_num, by rw [HZP.out], hf6, by rw [HZP.out]; exact hc6, hb7, HNX.out⟩
                  case measure => simp [intOf]; omega
                case' pos =>
                  subst h3
                  by_cases hLe : L = []
                  case' neg =>
                    have HG : Hid (R = ([], k, 6)) := C3.out rfl rfl hLe
                    have hpos : 0 < (zl : Int) := by have := List.length_pos_iff.2 hLe; rw [HZL.out] at this; omega
                    clear C1 C2 C3 C4 HPU HDR hLe h2 hwh hw hw'
                    go_wp2_with (first | (go_at_call 38; refine hpc.mono ?_; rintro e w' ⟨rfl, hw⟩; rw [hw]; clear hw w') | (go_at_call 62; refine hst.mono ?_; rintro e w3 ⟨a3, c3, rfl, hb3, _, _⟩; obtain ⟨y0, y1, y2⟩ := cells_later hb3; have hb4 := HBW.out.trans (hb3.mono (by have := HBW.out.size; have := HB.out; omega)); clear hst d0 d1 d2 z1))
                  refine bodyPost_ret (v := .tuple #[.slice none 0 0, .int .i64 k, .int .i64 6]) (by simp [results, Tryz.results36, go_sem]) rfl ⟨none, 0, ?_, ?_, ?_, hb4⟩
                  · rw [HG.out]; rfl
                  · rw [HG.out]; exact Fls.nil _ _
                  · rw [HG.out]; exact Nat.le_refl _
                case' pos =>
                  subst hLe
                  obtain rfl : zl = 0 := by rw [← HZL.out]; rfl
                  have HNX : Hid (Apg t p (k + 1) (dropM T q)) := C4.out rfl rfl rfl
                  obtain ⟨P, hP⟩ : ∃ x, dropM T q = x := ⟨_, rfl⟩
                  rw [hP] at HNX HDR
                  obtain ⟨zp, hzp⟩ : ∃ x, P.length = x := ⟨_, rfl⟩
                  have HZP : Hid (P.length = zp) := hzp
                  rw [hzp] at HDR
                  clear C1 C2 C3 C4 HPU hP hzp h2 hwh hw hw'
                  go_wp2_with (first | (go_at_call 38; refine hpc.mono ?_; rintro e w' ⟨rfl, hw⟩; rw [hw]; clear hw w') | (go_at_call 62; refine hst.mono ?_; rintro e w3 ⟨a3, c3, rfl, hb3, hs3, hc3⟩; obtain ⟨y0, y1, y2⟩ := cells_later hb3; have hb5 := HBA.out.trans (hb3.mono HBA.out.size); have hb4 := HBW.out.trans (hb3.mono (by have := HBW.out.size; have := HB.out; omega)); have hdr := HDR w3 hb5; clear hst HDR d0 d1 d2 z1) | (go_at_call 63; refine hdr.mono ?_; rintro e w6 ⟨g6, c6, rfl, hf6, hc6, hb6⟩; have hb7 := hb4.trans (hb6.mono (by have := hb4.size; have := HB.out; omega))))
                  go_roundw
                  case rel => exact ⟨k + 1, P, g6, c6, by omega, by go_num, by rw [HZP.out], hf6, by rw [HZP.out]; exact hc6, hb7, HNX.out⟩
                  case measure => simp [intOf]; omega

end Go.Proofs.YtnkdmgekpajfhadGreatDoor
