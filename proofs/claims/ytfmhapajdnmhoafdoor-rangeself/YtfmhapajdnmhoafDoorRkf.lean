/-
  The walk of the document's PatchFault: the first fault of a patch.
-/
import Derived.Test.YtfmhapajdnmhoafDoorChs
import Derived.Test.YtfmhapajdnmhoafDoorXb
import Derived.Test.YtfmhapajdnmhoafDoorRefH
import Derived.Laws.Cover1
namespace Go.Proofs.YtfmhapajdnmhoafDoor
open Go.RowKit Dist

theorem cOne_range {c : Ch} (h : c.1 < 1 ∨ 3 < c.1) : cOne c = 1 := by unfold cOne; rw [if_pos h]
theorem cOne_path {c : Ch} (h1 : 1 ≤ c.1 ∧ c.1 ≤ 3) (h2 : pf c.2.1.data.toList ≠ 0) : cOne c = pf c.2.1.data.toList := by unfold cOne; rw [if_neg (by omega), if_pos h2]
theorem cOne_hunks {c : Ch} (h1 : 1 ≤ c.1 ∧ c.1 ≤ 3) (h2 : pf c.2.1.data.toList = 0) (h3 : (hf c.2.2).2 ≠ 0) : cOne c = (hf c.2.2).2 := by unfold cOne; rw [if_neg (by omega), if_neg (fun e => e h2), if_pos h3]
theorem cOne_shape {c : Ch} (h1 : 1 ≤ c.1 ∧ c.1 ≤ 3) (h2 : pf c.2.1.data.toList = 0) (h3 : (hf c.2.2).2 = 0) (h4 : shp c = false) : cOne c = 2 := by unfold cOne; rw [if_neg (by omega), if_neg (fun e => e h2), if_neg (fun e => e h3), if_neg (by rw [h4]; simp)]

/-- The fault of a change where it stands, by what it is made of. -/
theorem cAt_made {l : List Ch} {k : Nat} {c : Ch} (hc : l.getD k cz = c) (h1 : 1 ≤ c.1 ∧ c.1 ≤ 3) (h2 : pf c.2.1.data.toList = 0) (h3 : (hf c.2.2).2 = 0) :
    (shp c = false → cAt l k = 2) ∧ (0 < k → bl (l.getD (k - 1) cz).2.1 c.2.1 = false → cAt l k = 2) ∧ (shp c = true → (0 < k → bl (l.getD (k - 1) cz).2.1 c.2.1 = true) → cAt l k = 0) := by
  subst hc
  refine ⟨fun h4 => ?_, fun hk hb => ?_, fun h4 hb => cAt_ok (cOne_of h1 h2 h3 h4) hb⟩
  · have := cOne_shape h1 h2 h3 h4
    rw [cAt_one (by rw [this]; decide), this]
  · by_cases h4 : shp (l.getD k cz) = true
    · exact cAt_falls (cOne_of h1 h2 h3 h4) hk hb
    · have := cOne_shape h1 h2 h3 (by simpa using h4)
      rw [cAt_one (by rw [this]; decide), this]

theorem shp_edit (p : ByteArray) (hs : List Hk) : shp (1, p, hs) = decide (hs ≠ []) := by unfold shp; rw [if_pos rfl]
theorem shp_none {wh : Int} (h : wh ≠ 1) (p : ByteArray) : shp (wh, p, []) = true := by unfold shp; rw [if_neg h]
theorem shp_many {wh : Int} (h : wh ≠ 1) (p : ByteArray) {hs : List Hk} (hl : 1 < hs.length) : shp (wh, p, hs) = false := by
  unfold shp
  rw [if_neg h]
  cases hs with
  | nil => simp at hl
  | cons x r =>
    cases r with
    | nil => simp at hl
    | cons y r => simp
theorem shp_one {wh : Int} (h : wh ≠ 1) (p : ByteArray) (x : Hk) : shp (wh, p, [x]) = (decide (x.1 = 0) && decide (lessOf (if wh = 2 then 43 else 45) x.2.2 = [])) := by
  unfold shp; rw [if_neg h]; simp

set_option maxRecDepth 100000 in
set_option maxHeartbeats 16000000 in
theorem patchFault (a : Option Addr) (l : List Ch) (ca : Nat) (w : World) (ha : Chs w a l) (hm : l.length ≤ maxLen) (hml : ∀ c ∈ l, c.2.2.length ≤ maxLen) (hms : ∀ c ∈ l, ∀ h ∈ c.2.2, h.2.2.length ≤ maxLen) (hts : ∀ c ∈ l, ∀ h ∈ c.2.2, ∀ m ∈ h.2.2, m.2.size ≤ maxLen) :
    Calls Tryd.prog 5 #[.slice a l.length ca] w fun e w' => e = .returned (.tuple #[.int .i64 (kf l).1, .int .i64 (kf l).2]) ∧ Below w.heap.size w w' := by
  unfold maxLen at hm
  obtain ⟨n, hn⟩ : ∃ n, l.length = n := ⟨_, rfl⟩
  rw [hn] at hm ⊢
  by_cases hbig : 16 < (n : Int)
  · have he : Hid (kf l = (0, 3)) := kf_big (by rw [hn]; omega)
    clear hn ha hml hms hts
    go_enter Tryd.func5, Tryd.ntmps5
    go_wp2
    go_ret2
    refine ⟨?_, Below.refl _ _⟩
    rw [he.out]; rfl
  · have HN : Hid (l.length = n) := hn
    have HL : Hid (l.length ≤ 16) := by show l.length ≤ 16; omega
    have HA : Hid (Chs w a l) := ha
    have HM : Hid (∀ c ∈ l, c.2.2.length ≤ maxLen) := hml
    have HMS : Hid (∀ c ∈ l, ∀ h ∈ c.2.2, h.2.2.length ≤ maxLen) := hms
    have HTS : Hid (∀ c ∈ l, ∀ h ∈ c.2.2, ∀ m ∈ h.2.2, m.2.size ≤ maxLen) := hts
    clear hn ha hml hms hts
    obtain ⟨B, hB⟩ : ∃ B, w.heap.size = B := ⟨_, rfl⟩
    have HB : Hid (w.heap.size = B) := hB
    rw [hB]
    clear hB
    go_enter Tryd.func5, Tryd.ntmps5
    go_wp2
    go_loopw [4] (fun i w1 => ∃ k : Nat, k ≤ n ∧ i = .int .i64 k ∧ Below B w w1 ∧ ∀ j : Nat, j < k → cAt l j = 0) (fun i _ => n - (intOf i).toNat)
    case atStart => exact ⟨0, Nat.zero_le _, rfl, Below.refl _ _, by simp⟩
    case round =>
      obtain ⟨k, hk, rfl, hbl, hall⟩ := hrel
      have HALL : Hid (∀ j : Nat, j < k → cAt l j = 0) := hall
      clear hall
      by_cases hlt : k < n
      case' neg =>
        go_wp2
        go_ret2
        refine ⟨?_, hbl⟩
        rw [kf_ok HL.out fun j hj => HALL.out j (by have := HN.out; omega)]; rfl
      case' pos =>
        have ha := HA.out
        have hkl : k < l.length := by rw [HN.out]; exact hlt
        obtain ⟨b, off, rfl⟩ := ha.addr hkl
        obtain ⟨ah, ch, hc0, hc1, hc2, hks, _⟩ := ha.at hkl
        have hb' : Below w.heap.size w wr := by rw [HB.out]; exact hbl
        replace hc0 := cell_later hb' hc0
        replace hc1 := cell_later hb' hc1
        replace hc2 := cell_later hb' hc2
        replace hks := hks.below hb'
        have hml := HM.out _ (mem_getDc hkl)
        have hms := HMS.out _ (mem_getDc hkl)
        have hts := HTS.out _ (mem_getDc hkl)
        have HFA : Hid (cAt l k ≠ 0 → kf l = (k, cAt l k)) := kf_at HL.out k HALL.out hkl
        have HPA : Hid (∀ j, k = j + 1 → ∃ q, (l.getD j cz).2.1 = q ∧ ∀ w', Below w.heap.size w w' → w'.cell? ⟨b, off + j * 3 + 1, none⟩ = some (.string q)) := fun j e => by
          obtain ⟨_, _, _, h1, _⟩ := ha.at (i := j) (by omega)
          exact ⟨_, rfl, fun w' h => cell_later h h1⟩
        have HMA : Hid (∀ {c : Ch}, l.getD k cz = c → 1 ≤ c.1 ∧ c.1 ≤ 3 → pf c.2.1.data.toList = 0 → (hf c.2.2).2 = 0 → (shp c = false → cAt l k = 2) ∧ (0 < k → bl (l.getD (k - 1) cz).2.1 c.2.1 = false → cAt l k = 2) ∧ (shp c = true → (0 < k → bl (l.getD (k - 1) cz).2.1 c.2.1 = true) → cAt l k = 0)) := fun hc h1 h2 h3 => cAt_made hc h1 h2 h3
        have HON : Hid (∀ {c : Ch}, l.getD k cz = c → cOne c ≠ 0 → cAt l k = cOne c) := fun hc h => by subst hc; exact cAt_one h
        obtain ⟨wh, hwh⟩ : ∃ x, (l.getD k cz).1 = x := ⟨_, rfl⟩
        obtain ⟨p, hp⟩ : ∃ p, (l.getD k cz).2.1 = p := ⟨_, rfl⟩
        obtain ⟨hs, hhs⟩ : ∃ hs, (l.getD k cz).2.2 = hs := ⟨_, rfl⟩
        have HC : Hid (l.getD k cz = (wh, p, hs)) := getD_etac l k hwh hp hhs
        rw [hwh] at hc0
        rw [hp] at hc1
        rw [hhs] at hc2 hks hml hms hts
        have hszB : B ≤ wr.heap.size := by have := hbl.size; have := HB.out; omega
        have hb0 := below_alloc wr (.cells #[.int .i64 wh, .string p, .slice ah hs.length ch] 25)
        obtain ⟨d0, d1, d2⟩ := cells_later (Below.refl (wr.alloc (.cells #[.int .i64 wh, .string p, .slice ah hs.length ch] 25)).heap.size (wr.alloc (.cells #[.int .i64 wh, .string p, .slice ah hs.length ch] 25)))
        have hbl0 := hbl.trans (hb0.mono hszB)
        have hpf := pathFault p (wr.alloc (.cells #[.int .i64 wh, .string p, .slice ah hs.length ch] 25))
        have hhf := refHunks ah hs ch _ (hks.below hb0) hml hms hts
        have HKS : Hid (∀ w', Below wr.heap.size wr w' → Hks w' ah hs) := fun w' h => hks.below h
        have HBB : Hid (Below wr.heap.size wr (wr.alloc (.cells #[.int .i64 wh, .string p, .slice ah hs.length ch] 25))) := hb0
        have HBL : Hid (Below B w wr) := hbl
        obtain ⟨q, hq⟩ : ∃ q, hs.length = q := ⟨_, rfl⟩
        have HQ : Hid (hs.length = q) := hq
        obtain ⟨f1, hf1⟩ : ∃ f, pf p.data.toList = f := ⟨_, rfl⟩
        have HF1 : Hid (pf p.data.toList = f1) := hf1
        obtain ⟨f0, hf0⟩ : ∃ f, (hf hs).1 = f := ⟨_, rfl⟩
        obtain ⟨f2, hf2⟩ : ∃ f, (hf hs).2 = f := ⟨_, rfl⟩
        have HF2 : Hid ((hf hs).2 = f2) := hf2
        rw [hf1] at hpf
        rw [hf0, hf2] at hhf
        rw [hq] at hc2 hpf hhf d0 d1 d2 hbl0 HBB
        have HBL0 : Hid (Below B w (wr.alloc (.cells #[.int .i64 wh, .string p, .slice ah q ch] 25))) := hbl0
        clear ha hkl hml hms hts hwh hp hhs hb0 hks hq hf1 hf0 hf2 hb' hbl0 hbl
        by_cases ha : wh < 1
        · have HG : Hid (cAt l k = 1) := by
            show cAt l k = 1
            have h := cOne_range (c := (wh, p, hs)) (.inl ha)
            rw [HON.out HC.out (by rw [h]; decide), h]
          clear hpf hhf HPA HMA HON
          go_wp2
          go_ret2
          refine ⟨?_, HBL0.out⟩
          rw [HFA.out (by rw [HG.out]; decide), HG.out]; rfl
        by_cases hb : 3 < wh
        · have HG : Hid (cAt l k = 1) := by
            show cAt l k = 1
            have h := cOne_range (c := (wh, p, hs)) (.inr hb)
            rw [HON.out HC.out (by rw [h]; decide), h]
          clear hpf hhf HPA HMA HON
          go_wp2
          go_ret2
          refine ⟨?_, HBL0.out⟩
          rw [HFA.out (by rw [HG.out]; decide), HG.out]; rfl
        by_cases hc : f1 ≠ 0
        · have HG : Hid (cAt l k = f1) := by
            show cAt l k = f1
            have h := cOne_path (c := (wh, p, hs)) ⟨by show 1 ≤ wh; omega, by show wh ≤ 3; omega⟩ (by show pf p.data.toList ≠ 0; rw [HF1.out]; exact hc)
            have h : cOne (wh, p, hs) = f1 := h.trans HF1.out
            rw [HON.out HC.out (by rw [h]; exact hc), h]
          have H1 : Hid (f1 ≠ 0) := hc
          have hz : (f1 == 0) = false := by simpa using hc
          have hz' : (f1 != 0) = true := by simpa using hc
          clear hhf HPA HMA HON hc
          go_wp2_with (go_at_call 11; refine hpf.mono ?_; rintro e w' ⟨rfl, hw⟩; rw [hw]; clear hw w')
          go_ret2
          refine ⟨?_, HBL0.out⟩
          rw [HFA.out (by rw [HG.out]; exact H1.out), HG.out]; rfl
        obtain rfl : f1 = 0 := by simpa using hc
        by_cases hd : f2 ≠ 0
        · have HG : Hid (cAt l k = f2) := by
            show cAt l k = f2
            have h := cOne_hunks (c := (wh, p, hs)) ⟨by show 1 ≤ wh; omega, by show wh ≤ 3; omega⟩ HF1.out (by show (hf hs).2 ≠ 0; rw [HF2.out]; exact hd)
            have h : cOne (wh, p, hs) = f2 := h.trans HF2.out
            rw [HON.out HC.out (by rw [h]; exact hd), h]
          have H1 : Hid (f2 ≠ 0) := hd
          have hz' : (f2 != 0) = true := by simpa using hd
          clear HPA HMA HON hd
          go_wp2_with (first | (go_at_call 11; refine hpf.mono ?_; rintro e w' ⟨rfl, hw⟩; rw [hw]; clear hw w') | (go_at_call 12; refine hhf.mono ?_; rintro e w2 ⟨rfl, hb2⟩; have hbx := HBL.out.trans ((HBB.out.trans (hb2.mono HBB.out.size)).mono hszB)))
          go_ret2
          refine ⟨?_, hbx⟩
          rw [HFA.out (by rw [HG.out]; exact H1.out), HG.out]; rfl
        obtain rfl : f2 = 0 := by simpa using hd
        have hwh : wh = 1 ∨ wh = 2 ∨ wh = 3 := by omega
        obtain ⟨M1, M2, M3⟩ := HMA.out HC.out ⟨by show 1 ≤ wh; omega, by show wh ≤ 3; omega⟩ HF1.out HF2.out
        have HM1 : Hid (shp (wh, p, hs) = false → cAt l k = 2) := M1
        have HM2 : Hid (0 < k → bl (l.getD (k - 1) cz).2.1 p = false → cAt l k = 2) := M2
        have HM3 : Hid (shp (wh, p, hs) = true → (0 < k → bl (l.getD (k - 1) cz).2.1 p = true) → cAt l k = 0) := M3
        clear HMA HON M1 M2 M3 ha hb hc hd
        rcases hwh with rfl | rfl | rfl
        · by_cases hq0 : q = 0
          · have HG : Hid (cAt l k = 2) := HM1.out (by rw [shp_edit, List.length_eq_zero_iff.1 (HQ.out.trans hq0)]; rfl)
            subst hq0
            clear HPA
            go_wp2_with (first | (go_at_call 11; refine hpf.mono ?_; rintro e w' ⟨rfl, hw⟩; rw [hw]; clear hw w') | (go_at_call 12; refine hhf.mono ?_; rintro e w2 ⟨rfl, hb2⟩; obtain ⟨d0, d1, d2⟩ := cells_later hb2; have hbw := HBB.out.trans (hb2.mono HBB.out.size); have hbx := HBL.out.trans (hbw.mono hszB)))
            clear hpf hhf hc0 hc1 hc2
            skip
            go_quiet (fail)
            replace hbx := below_drawn (q := nq) hbx
            replace hbw := below_drawn (q := nq) hbw
            replace d0 : (w2.drewN nq).cell? ⟨wr.heap.size, 0, none⟩ = _ := d0
            replace d1 : (w2.drewN nq).cell? ⟨wr.heap.size, 1, none⟩ = _ := d1
            replace d2 : (w2.drewN nq).cell? ⟨wr.heap.size, 2, none⟩ = _ := d2
            generalize w2.drewN nq = w3 at hbx hbw d0 d1 d2 ⊢
            go_wp2
            go_ret2
            refine ⟨?_, hbx⟩
            rw [HFA.out (by rw [HG.out]; decide), HG.out]; rfl
          have HSH : Hid (shp (1, p, hs) = true) := by
            show shp (1, p, hs) = true
            rw [shp_edit]
            exact decide_eq_true fun e => hq0 (by rw [← HQ.out, e]; rfl)
          have hqz : ((q : Int) == 0) = false := by simpa using hq0
          clear hq0
          by_cases hk0 : k = 0
          · have hkd : decide (0 < k) = false := decide_eq_false (by omega)
            have HRI : Hid (0 < k → bl (l.getD (k - 1) cz).2.1 p = true) := fun h => by omega
            clear hk0 HPA
            have HG : Hid (cAt l k = 0) := HM3.out HSH.out HRI.out
            go_wp2_with (first | (go_at_call 11; refine hpf.mono ?_; rintro e w' ⟨rfl, hw⟩; rw [hw]; clear hw w') | (go_at_call 12; refine hhf.mono ?_; rintro e w2 ⟨rfl, hb2⟩; obtain ⟨d0, d1, d2⟩ := cells_later hb2; have hbw := HBB.out.trans (hb2.mono HBB.out.size); have hbx := HBL.out.trans (hbw.mono hszB)))
            clear hpf hhf hc0 hc1 hc2
            skip
            go_quiet (fail)
            replace hbx := below_drawn (q := nq) hbx
            replace hbw := below_drawn (q := nq) hbw
            replace d0 : (w2.drewN nq).cell? ⟨wr.heap.size, 0, none⟩ = _ := d0
            replace d1 : (w2.drewN nq).cell? ⟨wr.heap.size, 1, none⟩ = _ := d1
            replace d2 : (w2.drewN nq).cell? ⟨wr.heap.size, 2, none⟩ = _ := d2
            generalize w2.drewN nq = w3 at hbx hbw d0 d1 d2 ⊢
            go_wp2
            go_roundw
            case rel => exact ⟨k + 1, by omega, by go_num, hbx, fun j hj => by
              by_cases e : j = k
              · rw [e]; exact HG.out
              · exact HALL.out j (by omega)⟩
            case measure => simp [intOf]; omega
          obtain ⟨m, rfl⟩ : ∃ m, k = m + 1 := ⟨k - 1, by omega⟩
          obtain ⟨q2, hq2, HPP⟩ := HPA.out m rfl
          rw [Nat.add_sub_cancel, hq2] at HM2 HM3
          have hwm : IntKind.i64.wrap (m : Int) = m := by rw [IntKind.wrap_i64]; omega
          have hmn : m < n := by omega
          have hle := bl_le p q2
          clear hk0 HPA hq2
          by_cases hbl2 : bl q2 p = true
          · rw [hbl2] at hle
            obtain ⟨l1, l2⟩ : Op.bytesLess p.toList q2.toList = false ∧ (p.toList == q2.toList) = false := by simpa using hle
            have HRI : Hid (0 < m + 1 → bl q2 p = true) := fun _ => hbl2
            clear hle hbl2
            have HG : Hid (cAt l (m + 1) = 0) := HM3.out HSH.out HRI.out
            go_wp2_with (first | (go_at_call 11; refine hpf.mono ?_; rintro e w' ⟨rfl, hw⟩; rw [hw]; clear hw w') | (go_at_call 12; refine hhf.mono ?_; rintro e w2 ⟨rfl, hb2⟩; obtain ⟨d0, d1, d2⟩ := cells_later hb2; have hbw := HBB.out.trans (hb2.mono HBB.out.size); have hbx := HBL.out.trans (hbw.mono hszB); have hpp := HPP w2 (by rw [HB.out]; exact hbx)))
            clear hpf hhf hc0 hc1 hc2
            skip
            go_quiet (fail)
            replace hbx := below_drawn (q := nq) hbx
            replace hbw := below_drawn (q := nq) hbw
            replace d0 : (w2.drewN nq).cell? ⟨wr.heap.size, 0, none⟩ = _ := d0
            replace d1 : (w2.drewN nq).cell? ⟨wr.heap.size, 1, none⟩ = _ := d1
            replace d2 : (w2.drewN nq).cell? ⟨wr.heap.size, 2, none⟩ = _ := d2
            generalize w2.drewN nq = w3 at hbx hbw d0 d1 d2 ⊢
            go_wp2
            go_roundw
            case rel => exact ⟨(m + 1) + 1, by omega, by go_num, hbx, fun j hj => by
              by_cases e : j = (m + 1)
              · rw [e]; exact HG.out
              · exact HALL.out j (by omega)⟩
            case measure => simp [intOf]; omega
          have hbl2 : bl q2 p = false := by simpa using hbl2
          have HG : Hid (cAt l (m + 1) = 2) := HM2.out (by omega) hbl2
          by_cases l1 : Op.bytesLess p.toList q2.toList = true
          · clear hle hbl2
            go_wp2_with (first | (go_at_call 11; refine hpf.mono ?_; rintro e w' ⟨rfl, hw⟩; rw [hw]; clear hw w') | (go_at_call 12; refine hhf.mono ?_; rintro e w2 ⟨rfl, hb2⟩; obtain ⟨d0, d1, d2⟩ := cells_later hb2; have hbw := HBB.out.trans (hb2.mono HBB.out.size); have hbx := HBL.out.trans (hbw.mono hszB); have hpp := HPP w2 (by rw [HB.out]; exact hbx)))
            clear hpf hhf hc0 hc1 hc2
            skip
            go_quiet (fail)
            replace hbx := below_drawn (q := nq) hbx
            replace hbw := below_drawn (q := nq) hbw
            replace d0 : (w2.drewN nq).cell? ⟨wr.heap.size, 0, none⟩ = _ := d0
            replace d1 : (w2.drewN nq).cell? ⟨wr.heap.size, 1, none⟩ = _ := d1
            replace d2 : (w2.drewN nq).cell? ⟨wr.heap.size, 2, none⟩ = _ := d2
            generalize w2.drewN nq = w3 at hbx hbw d0 d1 d2 ⊢
            go_wp2
            go_ret2
            refine ⟨?_, hbx⟩
            rw [HFA.out (by rw [HG.out]; decide), HG.out]; rfl
          have l1 : Op.bytesLess p.toList q2.toList = false := by simpa using l1
          have l2 : (p.toList == q2.toList) = true := by rw [l1, hbl2] at hle; simpa using hle
          clear hle hbl2
          go_wp2_with (first | (go_at_call 11; refine hpf.mono ?_; rintro e w' ⟨rfl, hw⟩; rw [hw]; clear hw w') | (go_at_call 12; refine hhf.mono ?_; rintro e w2 ⟨rfl, hb2⟩; obtain ⟨d0, d1, d2⟩ := cells_later hb2; have hbw := HBB.out.trans (hb2.mono HBB.out.size); have hbx := HBL.out.trans (hbw.mono hszB); have hpp := HPP w2 (by rw [HB.out]; exact hbx)))
          clear hpf hhf hc0 hc1 hc2
          skip
          go_quiet (fail)
          replace hbx := below_drawn (q := nq) hbx
          replace hbw := below_drawn (q := nq) hbw
          replace d0 : (w2.drewN nq).cell? ⟨wr.heap.size, 0, none⟩ = _ := d0
          replace d1 : (w2.drewN nq).cell? ⟨wr.heap.size, 1, none⟩ = _ := d1
          replace d2 : (w2.drewN nq).cell? ⟨wr.heap.size, 2, none⟩ = _ := d2
          generalize w2.drewN nq = w3 at hbx hbw d0 d1 d2 ⊢
          go_wp2
          go_ret2
          refine ⟨?_, hbx⟩
          rw [HFA.out (by rw [HG.out]; decide), HG.out]; rfl
        · by_cases hq1 : 1 < q
          · have HG : Hid (cAt l k = 2) := HM1.out (shp_many (by decide) p (by rw [HQ.out]; exact hq1))
            have HQ1 : Hid (1 < q) := hq1
            clear hq1 HPA
            go_wp2_with (first | (go_at_call 11; refine hpf.mono ?_; rintro e w' ⟨rfl, hw⟩; rw [hw]; clear hw w') | (go_at_call 12; refine hhf.mono ?_; rintro e w2 ⟨rfl, hb2⟩; obtain ⟨d0, d1, d2⟩ := cells_later hb2; have hbw := HBB.out.trans (hb2.mono HBB.out.size); have hbx := HBL.out.trans (hbw.mono hszB)))
            clear hpf hhf hc0 hc1 hc2
            have hqd : decide (1 < (q : Int)) = true := decide_eq_true (by have := HQ1.out; omega)
            go_quiet (fail)
            replace hbx := below_drawn (q := nq) hbx
            replace hbw := below_drawn (q := nq) hbw
            replace d0 : (w2.drewN nq).cell? ⟨wr.heap.size, 0, none⟩ = _ := d0
            replace d1 : (w2.drewN nq).cell? ⟨wr.heap.size, 1, none⟩ = _ := d1
            replace d2 : (w2.drewN nq).cell? ⟨wr.heap.size, 2, none⟩ = _ := d2
            generalize w2.drewN nq = w3 at hbx hbw d0 d1 d2 ⊢
            go_wp2
            go_ret2
            refine ⟨?_, hbx⟩
            rw [HFA.out (by rw [HG.out]; decide), HG.out]; rfl
          have hqd : decide (1 < q) = false := decide_eq_false hq1
          by_cases hq0 : q = 0
          · have HSH : Hid (shp (2, p, hs) = true) := by
              show shp (2, p, hs) = true
              rw [List.length_eq_zero_iff.1 (HQ.out.trans hq0)]; exact shp_none (by decide) p
            subst hq0
            clear hq1 hqd
            by_cases hk0 : k = 0
            · have hkd : decide (0 < k) = false := decide_eq_false (by omega)
              have HRI : Hid (0 < k → bl (l.getD (k - 1) cz).2.1 p = true) := fun h => by omega
              clear hk0 HPA
              have HG : Hid (cAt l k = 0) := HM3.out HSH.out HRI.out
              go_wp2_with (first | (go_at_call 11; refine hpf.mono ?_; rintro e w' ⟨rfl, hw⟩; rw [hw]; clear hw w') | (go_at_call 12; refine hhf.mono ?_; rintro e w2 ⟨rfl, hb2⟩; obtain ⟨d0, d1, d2⟩ := cells_later hb2; have hbw := HBB.out.trans (hb2.mono HBB.out.size); have hbx := HBL.out.trans (hbw.mono hszB)))
              clear hpf hhf hc0 hc1 hc2
              skip
              go_quiet (fail)
              replace hbx := below_drawn (q := nq) hbx
              replace hbw := below_drawn (q := nq) hbw
              replace d0 : (w2.drewN nq).cell? ⟨wr.heap.size, 0, none⟩ = _ := d0
              replace d1 : (w2.drewN nq).cell? ⟨wr.heap.size, 1, none⟩ = _ := d1
              replace d2 : (w2.drewN nq).cell? ⟨wr.heap.size, 2, none⟩ = _ := d2
              generalize w2.drewN nq = w3 at hbx hbw d0 d1 d2 ⊢
              go_wp2
              go_roundw
              case rel => exact ⟨k + 1, by omega, by go_num, hbx, fun j hj => by
                by_cases e : j = k
                · rw [e]; exact HG.out
                · exact HALL.out j (by omega)⟩
              case measure => simp [intOf]; omega
            obtain ⟨m, rfl⟩ : ∃ m, k = m + 1 := ⟨k - 1, by omega⟩
            obtain ⟨q2, hq2, HPP⟩ := HPA.out m rfl
            rw [Nat.add_sub_cancel, hq2] at HM2 HM3
            have hwm : IntKind.i64.wrap (m : Int) = m := by rw [IntKind.wrap_i64]; omega
            have hmn : m < n := by omega
            have hle := bl_le p q2
            clear hk0 HPA hq2
            by_cases hbl2 : bl q2 p = true
            · rw [hbl2] at hle
              obtain ⟨l1, l2⟩ : Op.bytesLess p.toList q2.toList = false ∧ (p.toList == q2.toList) = false := by simpa using hle
              have HRI : Hid (0 < m + 1 → bl q2 p = true) := fun _ => hbl2
              clear hle hbl2
              have HG : Hid (cAt l (m + 1) = 0) := HM3.out HSH.out HRI.out
              go_wp2_with (first | (go_at_call 11; refine hpf.mono ?_; rintro e w' ⟨rfl, hw⟩; rw [hw]; clear hw w') | (go_at_call 12; refine hhf.mono ?_; rintro e w2 ⟨rfl, hb2⟩; obtain ⟨d0, d1, d2⟩ := cells_later hb2; have hbw := HBB.out.trans (hb2.mono HBB.out.size); have hbx := HBL.out.trans (hbw.mono hszB); have hpp := HPP w2 (by rw [HB.out]; exact hbx)))
              clear hpf hhf hc0 hc1 hc2
              skip
              go_quiet (fail)
              replace hbx := below_drawn (q := nq) hbx
              replace hbw := below_drawn (q := nq) hbw
              replace d0 : (w2.drewN nq).cell? ⟨wr.heap.size, 0, none⟩ = _ := d0
              replace d1 : (w2.drewN nq).cell? ⟨wr.heap.size, 1, none⟩ = _ := d1
              replace d2 : (w2.drewN nq).cell? ⟨wr.heap.size, 2, none⟩ = _ := d2
              generalize w2.drewN nq = w3 at hbx hbw d0 d1 d2 ⊢
              go_wp2
              go_roundw
              case rel => exact ⟨(m + 1) + 1, by omega, by go_num, hbx, fun j hj => by
                by_cases e : j = (m + 1)
                · rw [e]; exact HG.out
                · exact HALL.out j (by omega)⟩
              case measure => simp [intOf]; omega
            have hbl2 : bl q2 p = false := by simpa using hbl2
            have HG : Hid (cAt l (m + 1) = 2) := HM2.out (by omega) hbl2
            by_cases l1 : Op.bytesLess p.toList q2.toList = true
            · clear hle hbl2
              go_wp2_with (first | (go_at_call 11; refine hpf.mono ?_; rintro e w' ⟨rfl, hw⟩; rw [hw]; clear hw w') | (go_at_call 12; refine hhf.mono ?_; rintro e w2 ⟨rfl, hb2⟩; obtain ⟨d0, d1, d2⟩ := cells_later hb2; have hbw := HBB.out.trans (hb2.mono HBB.out.size); have hbx := HBL.out.trans (hbw.mono hszB); have hpp := HPP w2 (by rw [HB.out]; exact hbx)))
              clear hpf hhf hc0 hc1 hc2
              skip
              go_quiet (fail)
              replace hbx := below_drawn (q := nq) hbx
              replace hbw := below_drawn (q := nq) hbw
              replace d0 : (w2.drewN nq).cell? ⟨wr.heap.size, 0, none⟩ = _ := d0
              replace d1 : (w2.drewN nq).cell? ⟨wr.heap.size, 1, none⟩ = _ := d1
              replace d2 : (w2.drewN nq).cell? ⟨wr.heap.size, 2, none⟩ = _ := d2
              generalize w2.drewN nq = w3 at hbx hbw d0 d1 d2 ⊢
              go_wp2
              go_ret2
              refine ⟨?_, hbx⟩
              rw [HFA.out (by rw [HG.out]; decide), HG.out]; rfl
            have l1 : Op.bytesLess p.toList q2.toList = false := by simpa using l1
            have l2 : (p.toList == q2.toList) = true := by rw [l1, hbl2] at hle; simpa using hle
            clear hle hbl2
            go_wp2_with (first | (go_at_call 11; refine hpf.mono ?_; rintro e w' ⟨rfl, hw⟩; rw [hw]; clear hw w') | (go_at_call 12; refine hhf.mono ?_; rintro e w2 ⟨rfl, hb2⟩; obtain ⟨d0, d1, d2⟩ := cells_later hb2; have hbw := HBB.out.trans (hb2.mono HBB.out.size); have hbx := HBL.out.trans (hbw.mono hszB); have hpp := HPP w2 (by rw [HB.out]; exact hbx)))
            clear hpf hhf hc0 hc1 hc2
            skip
            go_quiet (fail)
            replace hbx := below_drawn (q := nq) hbx
            replace hbw := below_drawn (q := nq) hbw
            replace d0 : (w2.drewN nq).cell? ⟨wr.heap.size, 0, none⟩ = _ := d0
            replace d1 : (w2.drewN nq).cell? ⟨wr.heap.size, 1, none⟩ = _ := d1
            replace d2 : (w2.drewN nq).cell? ⟨wr.heap.size, 2, none⟩ = _ := d2
            generalize w2.drewN nq = w3 at hbx hbw d0 d1 d2 ⊢
            go_wp2
            go_ret2
            refine ⟨?_, hbx⟩
            rw [HFA.out (by rw [HG.out]; decide), HG.out]; rfl
          obtain rfl : q = 1 := by omega
          obtain ⟨⟨o, np, ms⟩, hx⟩ : ∃ x, hs = [x] := List.length_eq_one_iff.1 HQ.out
          have HSX : Hid (shp (2, p, hs) = (decide (o = 0) && decide (lessOf 43 ms = []))) := by
            show shp (2, p, hs) = _
            rw [hx, shp_one (by decide) p (o, np, ms)]; rfl
          have hsf : sf ms = 0 := by
            have h := HF2.out
            rw [hx] at h
            exact (hf_first h).2
          have hk1 := HKS.out wr (Below.refl _ _)
          rw [hx] at hk1
          obtain ⟨bh, oh, am, cmm, e1, x0, x1, x2, x3, _⟩ := hk1 0 (by simp)
          subst e1
          replace x0 : wr.cell? ⟨bh, oh, none⟩ = some (.int .i64 o) := x0
          replace x1 : wr.cell? ⟨bh, oh + 1, none⟩ = some (.int .i64 np) := by rw [show oh + 1 = oh + 0 * 3 + 1 by omega]; exact x1
          replace x2 : wr.cell? ⟨bh, oh + 2, none⟩ = some (.slice am ms.length cmm) := by rw [show oh + 2 = oh + 0 * 3 + 2 by omega]; exact x2
          replace x3 : Mks wr am ms := x3
          have HOL := fun w' (h : Below wr.heap.size wr w') => oldOf am ms cmm w' (x3.below h) hsf
          have HXC : Hid (∀ w', Below wr.heap.size wr w' → w'.cell? ⟨bh, oh, none⟩ = some (.int .i64 o) ∧ w'.cell? ⟨bh, oh + 1, none⟩ = some (.int .i64 np) ∧ w'.cell? ⟨bh, oh + 2, none⟩ = some (.slice am ms.length cmm)) := fun w' h => ⟨cell_later h x0, cell_later h x1, cell_later h x2⟩
          obtain ⟨nm, hnm⟩ : ∃ x, ms.length = x := ⟨_, rfl⟩
          rw [hnm] at HOL HXC
          clear hq1 hqd hq0 hx hk1 x0 x1 x2 x3 hsf hnm
          by_cases hk0 : k = 0
          · have hkd : decide (0 < k) = false := decide_eq_false (by omega)
            have HRI : Hid (0 < k → bl (l.getD (k - 1) cz).2.1 p = true) := fun h => by omega
            clear hk0 HPA
            by_cases ho : o ≠ 0
            · have HG : Hid (cAt l k = 2) := HM1.out (by rw [HSX.out, decide_eq_false ho]; rfl)
              have ho' : (o != 0) = true := by simpa using ho
              clear ho HOL
              go_wp2_with (first | (go_at_call 11; refine hpf.mono ?_; rintro e w' ⟨rfl, hw⟩; rw [hw]; clear hw w') | (go_at_call 12; refine hhf.mono ?_; rintro e w2 ⟨rfl, hb2⟩; obtain ⟨d0, d1, d2⟩ := cells_later hb2; have hbw := HBB.out.trans (hb2.mono HBB.out.size); have hbx := HBL.out.trans (hbw.mono hszB)))
              clear hpf hhf hc0 hc1 hc2
              skip
              go_quiet (fail)
              replace hbx := below_drawn (q := nq) hbx
              replace hbw := below_drawn (q := nq) hbw
              replace d0 : (w2.drewN nq).cell? ⟨wr.heap.size, 0, none⟩ = _ := d0
              replace d1 : (w2.drewN nq).cell? ⟨wr.heap.size, 1, none⟩ = _ := d1
              replace d2 : (w2.drewN nq).cell? ⟨wr.heap.size, 2, none⟩ = _ := d2
              generalize w2.drewN nq = w3 at hbx hbw d0 d1 d2 ⊢
              obtain ⟨z0, z1, z2⟩ := HXC.out w3 hbw
              go_wp2
              go_ret2
              refine ⟨?_, ?_⟩
              · rw [HFA.out (by rw [HG.out]; decide), HG.out]; rfl
              · exact (hbx).alloc (by have := hbx.size; have := HB.out; simp; omega) _
            obtain rfl : o = 0 := by simpa using ho
            clear ho
            by_cases hl : lessOf 43 ms = []
            · have HG : Hid (cAt l k = 0) := HM3.out (by rw [HSX.out, decide_eq_true hl]; rfl) HRI.out
              rw [hl] at HOL
              simp only [List.length_nil] at HOL
              clear hl
              go_wp2_with (first | (go_at_call 11; refine hpf.mono ?_; rintro e w' ⟨rfl, hw⟩; rw [hw]; clear hw w') | (go_at_call 12; refine hhf.mono ?_; rintro e w2 ⟨rfl, hb2⟩; obtain ⟨d0, d1, d2⟩ := cells_later hb2; have hbw := HBB.out.trans (hb2.mono HBB.out.size); have hbx := HBL.out.trans (hbw.mono hszB)))
              clear hpf hhf hc0 hc1 hc2
              skip
              go_quiet (fail)
              replace hbx := below_drawn (q := nq) hbx
              replace hbw := below_drawn (q := nq) hbw
              replace d0 : (w2.drewN nq).cell? ⟨wr.heap.size, 0, none⟩ = _ := d0
              replace d1 : (w2.drewN nq).cell? ⟨wr.heap.size, 1, none⟩ = _ := d1
              replace d2 : (w2.drewN nq).cell? ⟨wr.heap.size, 2, none⟩ = _ := d2
              generalize w2.drewN nq = w3 at hbx hbw d0 d1 d2 ⊢
              obtain ⟨z0, z1, z2⟩ := HXC.out w3 hbw
              have k0 := cell_later (below_alloc w3 (.cells #[.int .i64 0, .int .i64 np, .slice am nm cmm] 51)) d0
              have hbq : Below B w (w3.alloc (.cells #[.int .i64 0, .int .i64 np, .slice am nm cmm] 51)) := (hbx).alloc (by have := hbx.size; have := HB.out; simp; omega) _
              go_wp2_with (go_at_call 13; refine (HOL _ (by exact (hbw).alloc (by have := hbw.size; simp; omega) _)).mono ?_; rintro e w5 ⟨a5, c5, rfl, _, hb5⟩; obtain ⟨y0, y1, y2⟩ := cells_later hb5; have hbz := hbq.trans (hb5.mono (by have := hbq.size; have := HB.out; omega)); have e0 := cell_later (show Below w3.heap.size w3 w5 from (below_alloc _ _).trans (hb5.mono (below_alloc _ _).size)) d0)
              go_roundw
              case rel => exact ⟨k + 1, by omega, by go_num, hbz, fun j hj => by
                by_cases e : j = k
                · rw [e]; exact HG.out
                · exact HALL.out j (by omega)⟩
              case measure => simp [intOf]; omega
            have HG : Hid (cAt l k = 2) := HM1.out (by rw [HSX.out, decide_eq_false hl]; simp)
            obtain ⟨nl, hnl⟩ : ∃ x, (lessOf 43 ms).length = x := ⟨_, rfl⟩
            have hpos : 0 < nl := by rw [← hnl]; exact List.length_pos_iff.2 hl
            rw [hnl] at HOL
            clear hl hnl
            go_wp2_with (first | (go_at_call 11; refine hpf.mono ?_; rintro e w' ⟨rfl, hw⟩; rw [hw]; clear hw w') | (go_at_call 12; refine hhf.mono ?_; rintro e w2 ⟨rfl, hb2⟩; obtain ⟨d0, d1, d2⟩ := cells_later hb2; have hbw := HBB.out.trans (hb2.mono HBB.out.size); have hbx := HBL.out.trans (hbw.mono hszB)))
            clear hpf hhf hc0 hc1 hc2
            skip
            go_quiet (fail)
            replace hbx := below_drawn (q := nq) hbx
            replace hbw := below_drawn (q := nq) hbw
            replace d0 : (w2.drewN nq).cell? ⟨wr.heap.size, 0, none⟩ = _ := d0
            replace d1 : (w2.drewN nq).cell? ⟨wr.heap.size, 1, none⟩ = _ := d1
            replace d2 : (w2.drewN nq).cell? ⟨wr.heap.size, 2, none⟩ = _ := d2
            generalize w2.drewN nq = w3 at hbx hbw d0 d1 d2 ⊢
            obtain ⟨z0, z1, z2⟩ := HXC.out w3 hbw
            have k0 := cell_later (below_alloc w3 (.cells #[.int .i64 0, .int .i64 np, .slice am nm cmm] 51)) d0
            have hbq : Below B w (w3.alloc (.cells #[.int .i64 0, .int .i64 np, .slice am nm cmm] 51)) := (hbx).alloc (by have := hbx.size; have := HB.out; simp; omega) _
            go_wp2_with (go_at_call 13; refine (HOL _ (by exact (hbw).alloc (by have := hbw.size; simp; omega) _)).mono ?_; rintro e w5 ⟨a5, c5, rfl, _, hb5⟩; obtain ⟨y0, y1, y2⟩ := cells_later hb5; have hbz := hbq.trans (hb5.mono (by have := hbq.size; have := HB.out; omega)); have e0 := cell_later (show Below w3.heap.size w3 w5 from (below_alloc _ _).trans (hb5.mono (below_alloc _ _).size)) d0)
            go_ret2
            refine ⟨?_, hbz⟩
            rw [HFA.out (by rw [HG.out]; decide), HG.out]; rfl
          obtain ⟨m, rfl⟩ : ∃ m, k = m + 1 := ⟨k - 1, by omega⟩
          obtain ⟨q2, hq2, HPP⟩ := HPA.out m rfl
          rw [Nat.add_sub_cancel, hq2] at HM2 HM3
          have hwm : IntKind.i64.wrap (m : Int) = m := by rw [IntKind.wrap_i64]; omega
          have hmn : m < n := by omega
          have hle := bl_le p q2
          clear hk0 HPA hq2
          by_cases hbl2 : bl q2 p = true
          · rw [hbl2] at hle
            obtain ⟨l1, l2⟩ : Op.bytesLess p.toList q2.toList = false ∧ (p.toList == q2.toList) = false := by simpa using hle
            have HRI : Hid (0 < m + 1 → bl q2 p = true) := fun _ => hbl2
            clear hle hbl2
            by_cases ho : o ≠ 0
            · have HG : Hid (cAt l (m + 1) = 2) := HM1.out (by rw [HSX.out, decide_eq_false ho]; rfl)
              have ho' : (o != 0) = true := by simpa using ho
              clear ho HOL
              go_wp2_with (first | (go_at_call 11; refine hpf.mono ?_; rintro e w' ⟨rfl, hw⟩; rw [hw]; clear hw w') | (go_at_call 12; refine hhf.mono ?_; rintro e w2 ⟨rfl, hb2⟩; obtain ⟨d0, d1, d2⟩ := cells_later hb2; have hbw := HBB.out.trans (hb2.mono HBB.out.size); have hbx := HBL.out.trans (hbw.mono hszB); have hpp := HPP w2 (by rw [HB.out]; exact hbx)))
              clear hpf hhf hc0 hc1 hc2
              skip
              go_quiet (fail)
              replace hbx := below_drawn (q := nq) hbx
              replace hbw := below_drawn (q := nq) hbw
              replace d0 : (w2.drewN nq).cell? ⟨wr.heap.size, 0, none⟩ = _ := d0
              replace d1 : (w2.drewN nq).cell? ⟨wr.heap.size, 1, none⟩ = _ := d1
              replace d2 : (w2.drewN nq).cell? ⟨wr.heap.size, 2, none⟩ = _ := d2
              generalize w2.drewN nq = w3 at hbx hbw d0 d1 d2 ⊢
              obtain ⟨z0, z1, z2⟩ := HXC.out w3 hbw
              go_wp2
              go_ret2
              refine ⟨?_, ?_⟩
              · rw [HFA.out (by rw [HG.out]; decide), HG.out]; rfl
              · exact (hbx).alloc (by have := hbx.size; have := HB.out; simp; omega) _
            obtain rfl : o = 0 := by simpa using ho
            clear ho
            by_cases hl : lessOf 43 ms = []
            · have HG : Hid (cAt l (m + 1) = 0) := HM3.out (by rw [HSX.out, decide_eq_true hl]; rfl) HRI.out
              rw [hl] at HOL
              simp only [List.length_nil] at HOL
              clear hl
              go_wp2_with (first | (go_at_call 11; refine hpf.mono ?_; rintro e w' ⟨rfl, hw⟩; rw [hw]; clear hw w') | (go_at_call 12; refine hhf.mono ?_; rintro e w2 ⟨rfl, hb2⟩; obtain ⟨d0, d1, d2⟩ := cells_later hb2; have hbw := HBB.out.trans (hb2.mono HBB.out.size); have hbx := HBL.out.trans (hbw.mono hszB); have hpp := HPP w2 (by rw [HB.out]; exact hbx)))
              clear hpf hhf hc0 hc1 hc2
              skip
              go_quiet (fail)
              replace hbx := below_drawn (q := nq) hbx
              replace hbw := below_drawn (q := nq) hbw
              replace d0 : (w2.drewN nq).cell? ⟨wr.heap.size, 0, none⟩ = _ := d0
              replace d1 : (w2.drewN nq).cell? ⟨wr.heap.size, 1, none⟩ = _ := d1
              replace d2 : (w2.drewN nq).cell? ⟨wr.heap.size, 2, none⟩ = _ := d2
              generalize w2.drewN nq = w3 at hbx hbw d0 d1 d2 ⊢
              obtain ⟨z0, z1, z2⟩ := HXC.out w3 hbw
              have k0 := cell_later (below_alloc w3 (.cells #[.int .i64 0, .int .i64 np, .slice am nm cmm] 51)) d0
              have hbq : Below B w (w3.alloc (.cells #[.int .i64 0, .int .i64 np, .slice am nm cmm] 51)) := (hbx).alloc (by have := hbx.size; have := HB.out; simp; omega) _
              go_wp2_with (go_at_call 13; refine (HOL _ (by exact (hbw).alloc (by have := hbw.size; simp; omega) _)).mono ?_; rintro e w5 ⟨a5, c5, rfl, _, hb5⟩; obtain ⟨y0, y1, y2⟩ := cells_later hb5; have hbz := hbq.trans (hb5.mono (by have := hbq.size; have := HB.out; omega)); have e0 := cell_later (show Below w3.heap.size w3 w5 from (below_alloc _ _).trans (hb5.mono (below_alloc _ _).size)) d0)
              go_roundw
              case rel => exact ⟨(m + 1) + 1, by omega, by go_num, hbz, fun j hj => by
                by_cases e : j = (m + 1)
                · rw [e]; exact HG.out
                · exact HALL.out j (by omega)⟩
              case measure => simp [intOf]; omega
            have HG : Hid (cAt l (m + 1) = 2) := HM1.out (by rw [HSX.out, decide_eq_false hl]; simp)
            obtain ⟨nl, hnl⟩ : ∃ x, (lessOf 43 ms).length = x := ⟨_, rfl⟩
            have hpos : 0 < nl := by rw [← hnl]; exact List.length_pos_iff.2 hl
            rw [hnl] at HOL
            clear hl hnl
            go_wp2_with (first | (go_at_call 11; refine hpf.mono ?_; rintro e w' ⟨rfl, hw⟩; rw [hw]; clear hw w') | (go_at_call 12; refine hhf.mono ?_; rintro e w2 ⟨rfl, hb2⟩; obtain ⟨d0, d1, d2⟩ := cells_later hb2; have hbw := HBB.out.trans (hb2.mono HBB.out.size); have hbx := HBL.out.trans (hbw.mono hszB); have hpp := HPP w2 (by rw [HB.out]; exact hbx)))
            clear hpf hhf hc0 hc1 hc2
            skip
            go_quiet (fail)
            replace hbx := below_drawn (q := nq) hbx
            replace hbw := below_drawn (q := nq) hbw
            replace d0 : (w2.drewN nq).cell? ⟨wr.heap.size, 0, none⟩ = _ := d0
            replace d1 : (w2.drewN nq).cell? ⟨wr.heap.size, 1, none⟩ = _ := d1
            replace d2 : (w2.drewN nq).cell? ⟨wr.heap.size, 2, none⟩ = _ := d2
            generalize w2.drewN nq = w3 at hbx hbw d0 d1 d2 ⊢
            obtain ⟨z0, z1, z2⟩ := HXC.out w3 hbw
            have k0 := cell_later (below_alloc w3 (.cells #[.int .i64 0, .int .i64 np, .slice am nm cmm] 51)) d0
            have hbq : Below B w (w3.alloc (.cells #[.int .i64 0, .int .i64 np, .slice am nm cmm] 51)) := (hbx).alloc (by have := hbx.size; have := HB.out; simp; omega) _
            go_wp2_with (go_at_call 13; refine (HOL _ (by exact (hbw).alloc (by have := hbw.size; simp; omega) _)).mono ?_; rintro e w5 ⟨a5, c5, rfl, _, hb5⟩; obtain ⟨y0, y1, y2⟩ := cells_later hb5; have hbz := hbq.trans (hb5.mono (by have := hbq.size; have := HB.out; omega)); have e0 := cell_later (show Below w3.heap.size w3 w5 from (below_alloc _ _).trans (hb5.mono (below_alloc _ _).size)) d0)
            go_ret2
            refine ⟨?_, hbz⟩
            rw [HFA.out (by rw [HG.out]; decide), HG.out]; rfl
          have hbl2 : bl q2 p = false := by simpa using hbl2
          have HG : Hid (cAt l (m + 1) = 2) := HM2.out (by omega) hbl2
          by_cases l1 : Op.bytesLess p.toList q2.toList = true
          · clear hle hbl2
            go_wp2_with (first | (go_at_call 11; refine hpf.mono ?_; rintro e w' ⟨rfl, hw⟩; rw [hw]; clear hw w') | (go_at_call 12; refine hhf.mono ?_; rintro e w2 ⟨rfl, hb2⟩; obtain ⟨d0, d1, d2⟩ := cells_later hb2; have hbw := HBB.out.trans (hb2.mono HBB.out.size); have hbx := HBL.out.trans (hbw.mono hszB); have hpp := HPP w2 (by rw [HB.out]; exact hbx)))
            clear hpf hhf hc0 hc1 hc2
            skip
            go_quiet (fail)
            replace hbx := below_drawn (q := nq) hbx
            replace hbw := below_drawn (q := nq) hbw
            replace d0 : (w2.drewN nq).cell? ⟨wr.heap.size, 0, none⟩ = _ := d0
            replace d1 : (w2.drewN nq).cell? ⟨wr.heap.size, 1, none⟩ = _ := d1
            replace d2 : (w2.drewN nq).cell? ⟨wr.heap.size, 2, none⟩ = _ := d2
            generalize w2.drewN nq = w3 at hbx hbw d0 d1 d2 ⊢
            go_wp2
            go_ret2
            refine ⟨?_, hbx⟩
            rw [HFA.out (by rw [HG.out]; decide), HG.out]; rfl
          have l1 : Op.bytesLess p.toList q2.toList = false := by simpa using l1
          have l2 : (p.toList == q2.toList) = true := by rw [l1, hbl2] at hle; simpa using hle
          clear hle hbl2
          go_wp2_with (first | (go_at_call 11; refine hpf.mono ?_; rintro e w' ⟨rfl, hw⟩; rw [hw]; clear hw w') | (go_at_call 12; refine hhf.mono ?_; rintro e w2 ⟨rfl, hb2⟩; obtain ⟨d0, d1, d2⟩ := cells_later hb2; have hbw := HBB.out.trans (hb2.mono HBB.out.size); have hbx := HBL.out.trans (hbw.mono hszB); have hpp := HPP w2 (by rw [HB.out]; exact hbx)))
          clear hpf hhf hc0 hc1 hc2
          skip
          go_quiet (fail)
          replace hbx := below_drawn (q := nq) hbx
          replace hbw := below_drawn (q := nq) hbw
          replace d0 : (w2.drewN nq).cell? ⟨wr.heap.size, 0, none⟩ = _ := d0
          replace d1 : (w2.drewN nq).cell? ⟨wr.heap.size, 1, none⟩ = _ := d1
          replace d2 : (w2.drewN nq).cell? ⟨wr.heap.size, 2, none⟩ = _ := d2
          generalize w2.drewN nq = w3 at hbx hbw d0 d1 d2 ⊢
          go_wp2
          go_ret2
          refine ⟨?_, hbx⟩
          rw [HFA.out (by rw [HG.out]; decide), HG.out]; rfl
        · by_cases hq1 : 1 < q
          · have HG : Hid (cAt l k = 2) := HM1.out (shp_many (by decide) p (by rw [HQ.out]; exact hq1))
            have HQ1 : Hid (1 < q) := hq1
            clear hq1 HPA
            go_wp2_with (first | (go_at_call 11; refine hpf.mono ?_; rintro e w' ⟨rfl, hw⟩; rw [hw]; clear hw w') | (go_at_call 12; refine hhf.mono ?_; rintro e w2 ⟨rfl, hb2⟩; obtain ⟨d0, d1, d2⟩ := cells_later hb2; have hbw := HBB.out.trans (hb2.mono HBB.out.size); have hbx := HBL.out.trans (hbw.mono hszB)))
            clear hpf hhf hc0 hc1 hc2
            have hqd : decide (1 < (q : Int)) = true := decide_eq_true (by have := HQ1.out; omega)
            go_quiet (fail)
            replace hbx := below_drawn (q := nq) hbx
            replace hbw := below_drawn (q := nq) hbw
            replace d0 : (w2.drewN nq).cell? ⟨wr.heap.size, 0, none⟩ = _ := d0
            replace d1 : (w2.drewN nq).cell? ⟨wr.heap.size, 1, none⟩ = _ := d1
            replace d2 : (w2.drewN nq).cell? ⟨wr.heap.size, 2, none⟩ = _ := d2
            generalize w2.drewN nq = w3 at hbx hbw d0 d1 d2 ⊢
            go_wp2
            go_ret2
            refine ⟨?_, hbx⟩
            rw [HFA.out (by rw [HG.out]; decide), HG.out]; rfl
          have hqd : decide (1 < q) = false := decide_eq_false hq1
          by_cases hq0 : q = 0
          · have HSH : Hid (shp (3, p, hs) = true) := by
              show shp (3, p, hs) = true
              rw [List.length_eq_zero_iff.1 (HQ.out.trans hq0)]; exact shp_none (by decide) p
            subst hq0
            clear hq1 hqd
            by_cases hk0 : k = 0
            · have hkd : decide (0 < k) = false := decide_eq_false (by omega)
              have HRI : Hid (0 < k → bl (l.getD (k - 1) cz).2.1 p = true) := fun h => by omega
              clear hk0 HPA
              have HG : Hid (cAt l k = 0) := HM3.out HSH.out HRI.out
              go_wp2_with (first | (go_at_call 11; refine hpf.mono ?_; rintro e w' ⟨rfl, hw⟩; rw [hw]; clear hw w') | (go_at_call 12; refine hhf.mono ?_; rintro e w2 ⟨rfl, hb2⟩; obtain ⟨d0, d1, d2⟩ := cells_later hb2; have hbw := HBB.out.trans (hb2.mono HBB.out.size); have hbx := HBL.out.trans (hbw.mono hszB)))
              clear hpf hhf hc0 hc1 hc2
              skip
              go_quiet (fail)
              replace hbx := below_drawn (q := nq) hbx
              replace hbw := below_drawn (q := nq) hbw
              replace d0 : (w2.drewN nq).cell? ⟨wr.heap.size, 0, none⟩ = _ := d0
              replace d1 : (w2.drewN nq).cell? ⟨wr.heap.size, 1, none⟩ = _ := d1
              replace d2 : (w2.drewN nq).cell? ⟨wr.heap.size, 2, none⟩ = _ := d2
              generalize w2.drewN nq = w3 at hbx hbw d0 d1 d2 ⊢
              go_wp2
              go_roundw
              case rel => exact ⟨k + 1, by omega, by go_num, hbx, fun j hj => by
                by_cases e : j = k
                · rw [e]; exact HG.out
                · exact HALL.out j (by omega)⟩
              case measure => simp [intOf]; omega
            obtain ⟨m, rfl⟩ : ∃ m, k = m + 1 := ⟨k - 1, by omega⟩
            obtain ⟨q2, hq2, HPP⟩ := HPA.out m rfl
            rw [Nat.add_sub_cancel, hq2] at HM2 HM3
            have hwm : IntKind.i64.wrap (m : Int) = m := by rw [IntKind.wrap_i64]; omega
            have hmn : m < n := by omega
            have hle := bl_le p q2
            clear hk0 HPA hq2
            by_cases hbl2 : bl q2 p = true
            · rw [hbl2] at hle
              obtain ⟨l1, l2⟩ : Op.bytesLess p.toList q2.toList = false ∧ (p.toList == q2.toList) = false := by simpa using hle
              have HRI : Hid (0 < m + 1 → bl q2 p = true) := fun _ => hbl2
              clear hle hbl2
              have HG : Hid (cAt l (m + 1) = 0) := HM3.out HSH.out HRI.out
              go_wp2_with (first | (go_at_call 11; refine hpf.mono ?_; rintro e w' ⟨rfl, hw⟩; rw [hw]; clear hw w') | (go_at_call 12; refine hhf.mono ?_; rintro e w2 ⟨rfl, hb2⟩; obtain ⟨d0, d1, d2⟩ := cells_later hb2; have hbw := HBB.out.trans (hb2.mono HBB.out.size); have hbx := HBL.out.trans (hbw.mono hszB); have hpp := HPP w2 (by rw [HB.out]; exact hbx)))
              clear hpf hhf hc0 hc1 hc2
              skip
              go_quiet (fail)
              replace hbx := below_drawn (q := nq) hbx
              replace hbw := below_drawn (q := nq) hbw
              replace d0 : (w2.drewN nq).cell? ⟨wr.heap.size, 0, none⟩ = _ := d0
              replace d1 : (w2.drewN nq).cell? ⟨wr.heap.size, 1, none⟩ = _ := d1
              replace d2 : (w2.drewN nq).cell? ⟨wr.heap.size, 2, none⟩ = _ := d2
              generalize w2.drewN nq = w3 at hbx hbw d0 d1 d2 ⊢
              go_wp2
              go_roundw
              case rel => exact ⟨(m + 1) + 1, by omega, by go_num, hbx, fun j hj => by
                by_cases e : j = (m + 1)
                · rw [e]; exact HG.out
                · exact HALL.out j (by omega)⟩
              case measure => simp [intOf]; omega
            have hbl2 : bl q2 p = false := by simpa using hbl2
            have HG : Hid (cAt l (m + 1) = 2) := HM2.out (by omega) hbl2
            by_cases l1 : Op.bytesLess p.toList q2.toList = true
            · clear hle hbl2
              go_wp2_with (first | (go_at_call 11; refine hpf.mono ?_; rintro e w' ⟨rfl, hw⟩; rw [hw]; clear hw w') | (go_at_call 12; refine hhf.mono ?_; rintro e w2 ⟨rfl, hb2⟩; obtain ⟨d0, d1, d2⟩ := cells_later hb2; have hbw := HBB.out.trans (hb2.mono HBB.out.size); have hbx := HBL.out.trans (hbw.mono hszB); have hpp := HPP w2 (by rw [HB.out]; exact hbx)))
              clear hpf hhf hc0 hc1 hc2
              skip
              go_quiet (fail)
              replace hbx := below_drawn (q := nq) hbx
              replace hbw := below_drawn (q := nq) hbw
              replace d0 : (w2.drewN nq).cell? ⟨wr.heap.size, 0, none⟩ = _ := d0
              replace d1 : (w2.drewN nq).cell? ⟨wr.heap.size, 1, none⟩ = _ := d1
              replace d2 : (w2.drewN nq).cell? ⟨wr.heap.size, 2, none⟩ = _ := d2
              generalize w2.drewN nq = w3 at hbx hbw d0 d1 d2 ⊢
              go_wp2
              go_ret2
              refine ⟨?_, hbx⟩
              rw [HFA.out (by rw [HG.out]; decide), HG.out]; rfl
            have l1 : Op.bytesLess p.toList q2.toList = false := by simpa using l1
            have l2 : (p.toList == q2.toList) = true := by rw [l1, hbl2] at hle; simpa using hle
            clear hle hbl2
            go_wp2_with (first | (go_at_call 11; refine hpf.mono ?_; rintro e w' ⟨rfl, hw⟩; rw [hw]; clear hw w') | (go_at_call 12; refine hhf.mono ?_; rintro e w2 ⟨rfl, hb2⟩; obtain ⟨d0, d1, d2⟩ := cells_later hb2; have hbw := HBB.out.trans (hb2.mono HBB.out.size); have hbx := HBL.out.trans (hbw.mono hszB); have hpp := HPP w2 (by rw [HB.out]; exact hbx)))
            clear hpf hhf hc0 hc1 hc2
            skip
            go_quiet (fail)
            replace hbx := below_drawn (q := nq) hbx
            replace hbw := below_drawn (q := nq) hbw
            replace d0 : (w2.drewN nq).cell? ⟨wr.heap.size, 0, none⟩ = _ := d0
            replace d1 : (w2.drewN nq).cell? ⟨wr.heap.size, 1, none⟩ = _ := d1
            replace d2 : (w2.drewN nq).cell? ⟨wr.heap.size, 2, none⟩ = _ := d2
            generalize w2.drewN nq = w3 at hbx hbw d0 d1 d2 ⊢
            go_wp2
            go_ret2
            refine ⟨?_, hbx⟩
            rw [HFA.out (by rw [HG.out]; decide), HG.out]; rfl
          obtain rfl : q = 1 := by omega
          obtain ⟨⟨o, np, ms⟩, hx⟩ : ∃ x, hs = [x] := List.length_eq_one_iff.1 HQ.out
          have HSX : Hid (shp (3, p, hs) = (decide (o = 0) && decide (lessOf 45 ms = []))) := by
            show shp (3, p, hs) = _
            rw [hx, shp_one (by decide) p (o, np, ms)]; rfl
          have hsf : sf ms = 0 := by
            have h := HF2.out
            rw [hx] at h
            exact (hf_first h).2
          have hk1 := HKS.out wr (Below.refl _ _)
          rw [hx] at hk1
          obtain ⟨bh, oh, am, cmm, e1, x0, x1, x2, x3, _⟩ := hk1 0 (by simp)
          subst e1
          replace x0 : wr.cell? ⟨bh, oh, none⟩ = some (.int .i64 o) := x0
          replace x1 : wr.cell? ⟨bh, oh + 1, none⟩ = some (.int .i64 np) := by rw [show oh + 1 = oh + 0 * 3 + 1 by omega]; exact x1
          replace x2 : wr.cell? ⟨bh, oh + 2, none⟩ = some (.slice am ms.length cmm) := by rw [show oh + 2 = oh + 0 * 3 + 2 by omega]; exact x2
          replace x3 : Mks wr am ms := x3
          have HOL := fun w' (h : Below wr.heap.size wr w') => newOf am ms cmm w' (x3.below h) hsf
          have HXC : Hid (∀ w', Below wr.heap.size wr w' → w'.cell? ⟨bh, oh, none⟩ = some (.int .i64 o) ∧ w'.cell? ⟨bh, oh + 1, none⟩ = some (.int .i64 np) ∧ w'.cell? ⟨bh, oh + 2, none⟩ = some (.slice am ms.length cmm)) := fun w' h => ⟨cell_later h x0, cell_later h x1, cell_later h x2⟩
          obtain ⟨nm, hnm⟩ : ∃ x, ms.length = x := ⟨_, rfl⟩
          rw [hnm] at HOL HXC
          clear hq1 hqd hq0 hx hk1 x0 x1 x2 x3 hsf hnm
          by_cases hk0 : k = 0
          · have hkd : decide (0 < k) = false := decide_eq_false (by omega)
            have HRI : Hid (0 < k → bl (l.getD (k - 1) cz).2.1 p = true) := fun h => by omega
            clear hk0 HPA
            by_cases ho : o ≠ 0
            · have HG : Hid (cAt l k = 2) := HM1.out (by rw [HSX.out, decide_eq_false ho]; rfl)
              have ho' : (o != 0) = true := by simpa using ho
              clear ho HOL
              go_wp2_with (first | (go_at_call 11; refine hpf.mono ?_; rintro e w' ⟨rfl, hw⟩; rw [hw]; clear hw w') | (go_at_call 12; refine hhf.mono ?_; rintro e w2 ⟨rfl, hb2⟩; obtain ⟨d0, d1, d2⟩ := cells_later hb2; have hbw := HBB.out.trans (hb2.mono HBB.out.size); have hbx := HBL.out.trans (hbw.mono hszB)))
              clear hpf hhf hc0 hc1 hc2
              skip
              go_quiet (fail)
              replace hbx := below_drawn (q := nq) hbx
              replace hbw := below_drawn (q := nq) hbw
              replace d0 : (w2.drewN nq).cell? ⟨wr.heap.size, 0, none⟩ = _ := d0
              replace d1 : (w2.drewN nq).cell? ⟨wr.heap.size, 1, none⟩ = _ := d1
              replace d2 : (w2.drewN nq).cell? ⟨wr.heap.size, 2, none⟩ = _ := d2
              generalize w2.drewN nq = w3 at hbx hbw d0 d1 d2 ⊢
              obtain ⟨z0, z1, z2⟩ := HXC.out w3 hbw
              go_wp2
              go_ret2
              refine ⟨?_, ?_⟩
              · rw [HFA.out (by rw [HG.out]; decide), HG.out]; rfl
              · exact (hbx).alloc (by have := hbx.size; have := HB.out; simp; omega) _
            obtain rfl : o = 0 := by simpa using ho
            clear ho
            by_cases hl : lessOf 45 ms = []
            · have HG : Hid (cAt l k = 0) := HM3.out (by rw [HSX.out, decide_eq_true hl]; rfl) HRI.out
              rw [hl] at HOL
              simp only [List.length_nil] at HOL
              clear hl
              go_wp2_with (first | (go_at_call 11; refine hpf.mono ?_; rintro e w' ⟨rfl, hw⟩; rw [hw]; clear hw w') | (go_at_call 12; refine hhf.mono ?_; rintro e w2 ⟨rfl, hb2⟩; obtain ⟨d0, d1, d2⟩ := cells_later hb2; have hbw := HBB.out.trans (hb2.mono HBB.out.size); have hbx := HBL.out.trans (hbw.mono hszB)))
              clear hpf hhf hc0 hc1 hc2
              skip
              go_quiet (fail)
              replace hbx := below_drawn (q := nq) hbx
              replace hbw := below_drawn (q := nq) hbw
              replace d0 : (w2.drewN nq).cell? ⟨wr.heap.size, 0, none⟩ = _ := d0
              replace d1 : (w2.drewN nq).cell? ⟨wr.heap.size, 1, none⟩ = _ := d1
              replace d2 : (w2.drewN nq).cell? ⟨wr.heap.size, 2, none⟩ = _ := d2
              generalize w2.drewN nq = w3 at hbx hbw d0 d1 d2 ⊢
              obtain ⟨z0, z1, z2⟩ := HXC.out w3 hbw
              have k0 := cell_later (below_alloc w3 (.cells #[.int .i64 0, .int .i64 np, .slice am nm cmm] 51)) d0
              have hbq : Below B w (w3.alloc (.cells #[.int .i64 0, .int .i64 np, .slice am nm cmm] 51)) := (hbx).alloc (by have := hbx.size; have := HB.out; simp; omega) _
              go_wp2_with (go_at_call 14; refine (HOL _ (by exact (hbw).alloc (by have := hbw.size; simp; omega) _)).mono ?_; rintro e w5 ⟨a5, c5, rfl, _, hb5⟩; obtain ⟨y0, y1, y2⟩ := cells_later hb5; have hbz := hbq.trans (hb5.mono (by have := hbq.size; have := HB.out; omega)); have e0 := cell_later (show Below w3.heap.size w3 w5 from (below_alloc _ _).trans (hb5.mono (below_alloc _ _).size)) d0)
              go_roundw
              case rel => exact ⟨k + 1, by omega, by go_num, hbz, fun j hj => by
                by_cases e : j = k
                · rw [e]; exact HG.out
                · exact HALL.out j (by omega)⟩
              case measure => simp [intOf]; omega
            have HG : Hid (cAt l k = 2) := HM1.out (by rw [HSX.out, decide_eq_false hl]; simp)
            obtain ⟨nl, hnl⟩ : ∃ x, (lessOf 45 ms).length = x := ⟨_, rfl⟩
            have hpos : 0 < nl := by rw [← hnl]; exact List.length_pos_iff.2 hl
            rw [hnl] at HOL
            clear hl hnl
            go_wp2_with (first | (go_at_call 11; refine hpf.mono ?_; rintro e w' ⟨rfl, hw⟩; rw [hw]; clear hw w') | (go_at_call 12; refine hhf.mono ?_; rintro e w2 ⟨rfl, hb2⟩; obtain ⟨d0, d1, d2⟩ := cells_later hb2; have hbw := HBB.out.trans (hb2.mono HBB.out.size); have hbx := HBL.out.trans (hbw.mono hszB)))
            clear hpf hhf hc0 hc1 hc2
            skip
            go_quiet (fail)
            replace hbx := below_drawn (q := nq) hbx
            replace hbw := below_drawn (q := nq) hbw
            replace d0 : (w2.drewN nq).cell? ⟨wr.heap.size, 0, none⟩ = _ := d0
            replace d1 : (w2.drewN nq).cell? ⟨wr.heap.size, 1, none⟩ = _ := d1
            replace d2 : (w2.drewN nq).cell? ⟨wr.heap.size, 2, none⟩ = _ := d2
            generalize w2.drewN nq = w3 at hbx hbw d0 d1 d2 ⊢
            obtain ⟨z0, z1, z2⟩ := HXC.out w3 hbw
            have k0 := cell_later (below_alloc w3 (.cells #[.int .i64 0, .int .i64 np, .slice am nm cmm] 51)) d0
            have hbq : Below B w (w3.alloc (.cells #[.int .i64 0, .int .i64 np, .slice am nm cmm] 51)) := (hbx).alloc (by have := hbx.size; have := HB.out; simp; omega) _
            go_wp2_with (go_at_call 14; refine (HOL _ (by exact (hbw).alloc (by have := hbw.size; simp; omega) _)).mono ?_; rintro e w5 ⟨a5, c5, rfl, _, hb5⟩; obtain ⟨y0, y1, y2⟩ := cells_later hb5; have hbz := hbq.trans (hb5.mono (by have := hbq.size; have := HB.out; omega)); have e0 := cell_later (show Below w3.heap.size w3 w5 from (below_alloc _ _).trans (hb5.mono (below_alloc _ _).size)) d0)
            go_ret2
            refine ⟨?_, hbz⟩
            rw [HFA.out (by rw [HG.out]; decide), HG.out]; rfl
          obtain ⟨m, rfl⟩ : ∃ m, k = m + 1 := ⟨k - 1, by omega⟩
          obtain ⟨q2, hq2, HPP⟩ := HPA.out m rfl
          rw [Nat.add_sub_cancel, hq2] at HM2 HM3
          have hwm : IntKind.i64.wrap (m : Int) = m := by rw [IntKind.wrap_i64]; omega
          have hmn : m < n := by omega
          have hle := bl_le p q2
          clear hk0 HPA hq2
          by_cases hbl2 : bl q2 p = true
          · rw [hbl2] at hle
            obtain ⟨l1, l2⟩ : Op.bytesLess p.toList q2.toList = false ∧ (p.toList == q2.toList) = false := by simpa using hle
            have HRI : Hid (0 < m + 1 → bl q2 p = true) := fun _ => hbl2
            clear hle hbl2
            by_cases ho : o ≠ 0
            · have HG : Hid (cAt l (m + 1) = 2) := HM1.out (by rw [HSX.out, decide_eq_false ho]; rfl)
              have ho' : (o != 0) = true := by simpa using ho
              clear ho HOL
              go_wp2_with (first | (go_at_call 11; refine hpf.mono ?_; rintro e w' ⟨rfl, hw⟩; rw [hw]; clear hw w') | (go_at_call 12; refine hhf.mono ?_; rintro e w2 ⟨rfl, hb2⟩; obtain ⟨d0, d1, d2⟩ := cells_later hb2; have hbw := HBB.out.trans (hb2.mono HBB.out.size); have hbx := HBL.out.trans (hbw.mono hszB); have hpp := HPP w2 (by rw [HB.out]; exact hbx)))
              clear hpf hhf hc0 hc1 hc2
              skip
              go_quiet (fail)
              replace hbx := below_drawn (q := nq) hbx
              replace hbw := below_drawn (q := nq) hbw
              replace d0 : (w2.drewN nq).cell? ⟨wr.heap.size, 0, none⟩ = _ := d0
              replace d1 : (w2.drewN nq).cell? ⟨wr.heap.size, 1, none⟩ = _ := d1
              replace d2 : (w2.drewN nq).cell? ⟨wr.heap.size, 2, none⟩ = _ := d2
              generalize w2.drewN nq = w3 at hbx hbw d0 d1 d2 ⊢
              obtain ⟨z0, z1, z2⟩ := HXC.out w3 hbw
              go_wp2
              go_ret2
              refine ⟨?_, ?_⟩
              · rw [HFA.out (by rw [HG.out]; decide), HG.out]; rfl
              · exact (hbx).alloc (by have := hbx.size; have := HB.out; simp; omega) _
            obtain rfl : o = 0 := by simpa using ho
            clear ho
            by_cases hl : lessOf 45 ms = []
            · have HG : Hid (cAt l (m + 1) = 0) := HM3.out (by rw [HSX.out, decide_eq_true hl]; rfl) HRI.out
              rw [hl] at HOL
              simp only [List.length_nil] at HOL
              clear hl
              go_wp2_with (first | (go_at_call 11; refine hpf.mono ?_; rintro e w' ⟨rfl, hw⟩; rw [hw]; clear hw w') | (go_at_call 12; refine hhf.mono ?_; rintro e w2 ⟨rfl, hb2⟩; obtain ⟨d0, d1, d2⟩ := cells_later hb2; have hbw := HBB.out.trans (hb2.mono HBB.out.size); have hbx := HBL.out.trans (hbw.mono hszB); have hpp := HPP w2 (by rw [HB.out]; exact hbx)))
              clear hpf hhf hc0 hc1 hc2
              skip
              go_quiet (fail)
              replace hbx := below_drawn (q := nq) hbx
              replace hbw := below_drawn (q := nq) hbw
              replace d0 : (w2.drewN nq).cell? ⟨wr.heap.size, 0, none⟩ = _ := d0
              replace d1 : (w2.drewN nq).cell? ⟨wr.heap.size, 1, none⟩ = _ := d1
              replace d2 : (w2.drewN nq).cell? ⟨wr.heap.size, 2, none⟩ = _ := d2
              generalize w2.drewN nq = w3 at hbx hbw d0 d1 d2 ⊢
              obtain ⟨z0, z1, z2⟩ := HXC.out w3 hbw
              have k0 := cell_later (below_alloc w3 (.cells #[.int .i64 0, .int .i64 np, .slice am nm cmm] 51)) d0
              have hbq : Below B w (w3.alloc (.cells #[.int .i64 0, .int .i64 np, .slice am nm cmm] 51)) := (hbx).alloc (by have := hbx.size; have := HB.out; simp; omega) _
              go_wp2_with (go_at_call 14; refine (HOL _ (by exact (hbw).alloc (by have := hbw.size; simp; omega) _)).mono ?_; rintro e w5 ⟨a5, c5, rfl, _, hb5⟩; obtain ⟨y0, y1, y2⟩ := cells_later hb5; have hbz := hbq.trans (hb5.mono (by have := hbq.size; have := HB.out; omega)); have e0 := cell_later (show Below w3.heap.size w3 w5 from (below_alloc _ _).trans (hb5.mono (below_alloc _ _).size)) d0)
              go_roundw
              case rel => exact ⟨(m + 1) + 1, by omega, by go_num, hbz, fun j hj => by
                by_cases e : j = (m + 1)
                · rw [e]; exact HG.out
                · exact HALL.out j (by omega)⟩
              case measure => simp [intOf]; omega
            have HG : Hid (cAt l (m + 1) = 2) := HM1.out (by rw [HSX.out, decide_eq_false hl]; simp)
            obtain ⟨nl, hnl⟩ : ∃ x, (lessOf 45 ms).length = x := ⟨_, rfl⟩
            have hpos : 0 < nl := by rw [← hnl]; exact List.length_pos_iff.2 hl
            rw [hnl] at HOL
            clear hl hnl
            go_wp2_with (first | (go_at_call 11; refine hpf.mono ?_; rintro e w' ⟨rfl, hw⟩; rw [hw]; clear hw w') | (go_at_call 12; refine hhf.mono ?_; rintro e w2 ⟨rfl, hb2⟩; obtain ⟨d0, d1, d2⟩ := cells_later hb2; have hbw := HBB.out.trans (hb2.mono HBB.out.size); have hbx := HBL.out.trans (hbw.mono hszB); have hpp := HPP w2 (by rw [HB.out]; exact hbx)))
            clear hpf hhf hc0 hc1 hc2
            skip
            go_quiet (fail)
            replace hbx := below_drawn (q := nq) hbx
            replace hbw := below_drawn (q := nq) hbw
            replace d0 : (w2.drewN nq).cell? ⟨wr.heap.size, 0, none⟩ = _ := d0
            replace d1 : (w2.drewN nq).cell? ⟨wr.heap.size, 1, none⟩ = _ := d1
            replace d2 : (w2.drewN nq).cell? ⟨wr.heap.size, 2, none⟩ = _ := d2
            generalize w2.drewN nq = w3 at hbx hbw d0 d1 d2 ⊢
            obtain ⟨z0, z1, z2⟩ := HXC.out w3 hbw
            have k0 := cell_later (below_alloc w3 (.cells #[.int .i64 0, .int .i64 np, .slice am nm cmm] 51)) d0
            have hbq : Below B w (w3.alloc (.cells #[.int .i64 0, .int .i64 np, .slice am nm cmm] 51)) := (hbx).alloc (by have := hbx.size; have := HB.out; simp; omega) _
            go_wp2_with (go_at_call 14; refine (HOL _ (by exact (hbw).alloc (by have := hbw.size; simp; omega) _)).mono ?_; rintro e w5 ⟨a5, c5, rfl, _, hb5⟩; obtain ⟨y0, y1, y2⟩ := cells_later hb5; have hbz := hbq.trans (hb5.mono (by have := hbq.size; have := HB.out; omega)); have e0 := cell_later (show Below w3.heap.size w3 w5 from (below_alloc _ _).trans (hb5.mono (below_alloc _ _).size)) d0)
            go_ret2
            refine ⟨?_, hbz⟩
            rw [HFA.out (by rw [HG.out]; decide), HG.out]; rfl
          have hbl2 : bl q2 p = false := by simpa using hbl2
          have HG : Hid (cAt l (m + 1) = 2) := HM2.out (by omega) hbl2
          by_cases l1 : Op.bytesLess p.toList q2.toList = true
          · clear hle hbl2
            go_wp2_with (first | (go_at_call 11; refine hpf.mono ?_; rintro e w' ⟨rfl, hw⟩; rw [hw]; clear hw w') | (go_at_call 12; refine hhf.mono ?_; rintro e w2 ⟨rfl, hb2⟩; obtain ⟨d0, d1, d2⟩ := cells_later hb2; have hbw := HBB.out.trans (hb2.mono HBB.out.size); have hbx := HBL.out.trans (hbw.mono hszB); have hpp := HPP w2 (by rw [HB.out]; exact hbx)))
            clear hpf hhf hc0 hc1 hc2
            skip
            go_quiet (fail)
            replace hbx := below_drawn (q := nq) hbx
            replace hbw := below_drawn (q := nq) hbw
            replace d0 : (w2.drewN nq).cell? ⟨wr.heap.size, 0, none⟩ = _ := d0
            replace d1 : (w2.drewN nq).cell? ⟨wr.heap.size, 1, none⟩ = _ := d1
            replace d2 : (w2.drewN nq).cell? ⟨wr.heap.size, 2, none⟩ = _ := d2
            generalize w2.drewN nq = w3 at hbx hbw d0 d1 d2 ⊢
            go_wp2
            go_ret2
            refine ⟨?_, hbx⟩
            rw [HFA.out (by rw [HG.out]; decide), HG.out]; rfl
          have l1 : Op.bytesLess p.toList q2.toList = false := by simpa using l1
          have l2 : (p.toList == q2.toList) = true := by rw [l1, hbl2] at hle; simpa using hle
          clear hle hbl2
          go_wp2_with (first | (go_at_call 11; refine hpf.mono ?_; rintro e w' ⟨rfl, hw⟩; rw [hw]; clear hw w') | (go_at_call 12; refine hhf.mono ?_; rintro e w2 ⟨rfl, hb2⟩; obtain ⟨d0, d1, d2⟩ := cells_later hb2; have hbw := HBB.out.trans (hb2.mono HBB.out.size); have hbx := HBL.out.trans (hbw.mono hszB); have hpp := HPP w2 (by rw [HB.out]; exact hbx)))
          clear hpf hhf hc0 hc1 hc2
          skip
          go_quiet (fail)
          replace hbx := below_drawn (q := nq) hbx
          replace hbw := below_drawn (q := nq) hbw
          replace d0 : (w2.drewN nq).cell? ⟨wr.heap.size, 0, none⟩ = _ := d0
          replace d1 : (w2.drewN nq).cell? ⟨wr.heap.size, 1, none⟩ = _ := d1
          replace d2 : (w2.drewN nq).cell? ⟨wr.heap.size, 2, none⟩ = _ := d2
          generalize w2.drewN nq = w3 at hbx hbw d0 d1 d2 ⊢
          go_wp2
          go_ret2
          refine ⟨?_, hbx⟩
          rw [HFA.out (by rw [HG.out]; decide), HG.out]; rfl

end Go.Proofs.YtfmhapajdnmhoafDoor
