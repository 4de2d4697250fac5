/-
  Walks of patch.isWhole, goesWith, checkOne and Check: the fault of a change, the first fault of changes.
-/
import Derived.Test.YtfmhapajdnmhoafDoorChs
import Derived.Test.YtfmhapajdnmhoafDoorXw
namespace Go.Proofs.YtfmhapajdnmhoafDoor
open Go.RowKit Dist

/-- Hunks that can be all of a file. -/
def whB (sg : Int) : List Hk → Bool
  | [] => true
  | h :: r => decide (r = []) && decide (h.1 = 0) && decide (lessOf sg h.2.2 = [])

theorem shp_eq (c : Ch) : shp c = if c.1 = 1 then decide (c.2.2 ≠ []) else whB (if c.1 = 2 then 43 else 45) c.2.2 := by
  obtain ⟨w, p, l⟩ := c
  unfold shp whB
  by_cases h : w = 1
  · rw [if_pos h, if_pos h]
  · rw [if_neg h, if_neg h]
    cases l <;> rfl

theorem less_any {sg : Int} {ms : List (Int × ByteArray)} {k : Nat} (hk : k < ms.length) (h : (ms.getD k (0, ByteArray.empty)).1 ≠ sg) : lessOf sg ms ≠ [] := by
  have e : ms.getD k (0, ByteArray.empty) = ms[k] := by simp [hk]
  rw [e] at h
  unfold lessOf
  intro e2
  have := List.map_eq_nil_iff.1 e2
  have := List.filter_eq_nil_iff.1 this ms[k] (List.getElem_mem _)
  simp at this
  exact h this
theorem less_no {sg : Int} {ms : List (Int × ByteArray)} (h : ∀ k, k < ms.length → (ms.getD k (0, ByteArray.empty)).1 = sg) : lessOf sg ms = [] := by
  unfold lessOf
  refine List.map_eq_nil_iff.2 (List.filter_eq_nil_iff.2 fun m hm => ?_)
  obtain ⟨k, hk, rfl⟩ := List.getElem_of_mem hm
  have := h k hk
  have e : ms.getD k (0, ByteArray.empty) = ms[k] := by simp [hk]
  rw [e] at this
  simpa using this

set_option maxHeartbeats 400000 in
theorem isOther (c : Int) (t : ByteArray) (bs : Nat) (sg : Int) (w : World) (hs : w.cell? ⟨bs, 0, none⟩ = some (.int .u8 sg)) : Calls Tryd.prog 72 #[.agg #[.int .u8 c, .string t], .pointer (some ⟨bs, 0, none⟩)] w fun e w' => e = .returned (.bool (c != sg)) ∧ Below w.heap.size w w' := by
  have HB : Hid (Below w.heap.size w (w.alloc (.cells #[.int .u8 c, .string t] 69))) := below_alloc w _
  have hs2 := cell_later (below_alloc w (.cells #[.int .u8 c, .string t] 69)) hs
  go_enter Tryd.func72, Tryd.ntmps72
  go_wp2
  go_ret
  exact ⟨rfl, HB.out⟩

set_option maxHeartbeats 1000000 in
theorem indexOther (a : Option Addr) (ms : List (Int × ByteArray)) (ca bs : Nat) (sg : Int) (w : World) (ha : Mks w a ms) (hm : ms.length ≤ maxLen) (hs : w.cell? ⟨bs, 0, none⟩ = some (.int .u8 sg)) :
    Calls Tryd.prog 74 #[.slice a ms.length ca, .func (.func 72) #[] #[.pointer (some ⟨bs, 0, none⟩)]] w fun e w' => ∃ r : Int, e = .returned (.int .i64 r) ∧ (0 ≤ r ↔ lessOf sg ms ≠ []) ∧ Below w.heap.size w w' := by
  have eg : ∀ args w, (callFunc 72 args).run Tryd.prog w = .ok (.enter 72 args) w := enters_of Tryd.func72 (by kernel_rfl) rfl
  unfold maxLen at hm
  obtain ⟨n, hn⟩ : ∃ n, ms.length = n := ⟨_, rfl⟩
  rw [hn] at hm ⊢
  have HN : Hid (ms.length = n) := hn
  have HA : Hid (Mks w a ms) := ha
  have HS : Hid (w.cell? ⟨bs, 0, none⟩ = some (.int .u8 sg)) := hs
  clear hn ha hs
  obtain ⟨B, hB⟩ : ∃ B, w.heap.size = B := ⟨_, rfl⟩
  have HB : Hid (w.heap.size = B) := hB
  rw [hB]
  clear hB
  go_enter Tryd.func74, Tryd.ntmps74
  go_wp2
  go_loopw [5, 8] (fun _ i w1 => ∃ k : Nat, k ≤ n ∧ i = .int .i64 k ∧ Below B w w1 ∧ ∀ j : Nat, j < k → (ms.getD j (0, ByteArray.empty)).1 = sg) (fun _ i _ => n - (intOf i).toNat)
  case atStart => exact ⟨0, Nat.zero_le _, rfl, Below.refl _ _, by simp⟩
  case round =>
    obtain ⟨k, hk, rfl, hbl, hall⟩ := hrel
    have HALL : Hid (∀ j : Nat, j < k → (ms.getD j (0, ByteArray.empty)).1 = sg) := hall
    clear hall
    by_cases hlt : k < n
    · have ha := HA.out
      obtain ⟨b, off, rfl, hc1, hc2⟩ := ha.at (i := k) (by rw [HN.out]; exact hlt)
      clear ha
      replace hc1 := cell_later (by rw [HB.out]; exact hbl) hc1
      replace hc2 := cell_later (by rw [HB.out]; exact hbl) hc2
      have hs := cell_later (wx := wr) (by rw [HB.out]; exact hbl) HS.out
      obtain ⟨c, hc⟩ : ∃ c, (ms.getD k (0, ByteArray.empty)).1 = c := ⟨_, rfl⟩
      obtain ⟨t, ht⟩ : ∃ t, (ms.getD k (0, ByteArray.empty)).2 = t := ⟨_, rfl⟩
      rw [hc] at hc1
      rw [ht] at hc2
      have HC : Hid ((ms.getD k (0, ByteArray.empty)).1 = c) := hc
      clear hc ht
      have hszB : B ≤ wr.heap.size := by have := hbl.size; have := HB.out; omega
      have hch := isOther c t bs sg wr hs
      clear hs
      by_cases hcs : c = sg
      · have HCS : Hid (c = sg) := hcs
        rw [show (c != sg) = false by simp [hcs]] at hch
        clear hcs
        go_wp2_with (go_at_fn 72; refine hch.mono ?_)
        rintro e w1 ⟨rfl, hb1⟩
        have hb1 := hbl.trans (hb1.mono hszB)
        clear hch hbl
        go_wp2
        go_roundw
        case rel => exact ⟨k + 1, by omega, by go_num, hb1, fun j hj => by
          by_cases e : j = k
          · rw [e, HC.out]; exact HCS.out
          · exact HALL.out j (by omega)⟩
        case measure => simp [intOf]; omega
      · have HCS : Hid (c ≠ sg) := hcs
        rw [show (c != sg) = true by simp [hcs]] at hch
        clear hcs
        go_wp2_with (go_at_fn 72; refine hch.mono ?_)
        rintro e w1 ⟨rfl, hb1⟩
        have hb1 := hbl.trans (hb1.mono hszB)
        clear hch hbl
        go_wp2
        go_ret
        refine ⟨_, rfl, ⟨fun _ => less_any (k := k) (by rw [HN.out]; exact hlt) (by rw [HC.out]; exact HCS.out), fun _ => by omega⟩, hb1⟩
    · go_wp2
      go_ret
      refine ⟨_, rfl, ⟨fun h => absurd h (by decide), fun h => ?_⟩, hbl⟩
      exact absurd (less_no fun j hj => HALL.out j (by have := HN.out; omega)) h

set_option maxHeartbeats 400000 in
theorem containsOther (a : Option Addr) (ms : List (Int × ByteArray)) (ca bs : Nat) (sg : Int) (w : World) (ha : Mks w a ms) (hm : ms.length ≤ maxLen) (hs : w.cell? ⟨bs, 0, none⟩ = some (.int .u8 sg)) :
    Calls Tryd.prog 61 #[.slice a ms.length ca, .func (.func 72) #[] #[.pointer (some ⟨bs, 0, none⟩)]] w fun e w' => e = .returned (.bool (decide (lessOf sg ms ≠ []))) ∧ Below w.heap.size w w' := by
  have hix := indexOther a ms ca bs sg w ha hm hs
  obtain ⟨n, hn⟩ : ∃ n, ms.length = n := ⟨_, rfl⟩
  rw [hn] at hix
  rw [hn]
  clear ha hm hn hs
  go_enter Tryd.func61, Tryd.ntmps61
  go_wp2_with (go_at_call 74; refine hix.mono ?_)
  rintro e w1 ⟨r, rfl, hr, hb1⟩
  have HR : Hid (0 ≤ r ↔ lessOf sg ms ≠ []) := hr
  clear hix hr
  go_wp2
  go_ret
  refine ⟨ret_b ?_, hb1⟩
  simp only [HR.out]

set_option maxHeartbeats 1000000 in
theorem isWholeOf (a : Option Addr) (l : List Hk) (ca : Nat) (sg : Int) (w : World) (ha : Hks w a l) (hm : l.length ≤ maxLen) (hms : ∀ h ∈ l, h.2.2.length ≤ maxLen) :
    Calls Tryd.prog 59 #[.slice a l.length ca, .int .u8 sg] w fun e w' => e = .returned (.bool (whB sg l)) ∧ Below w.heap.size w w' := by
  have hmf : ∀ (fn : Fn) (first cap : Array Value) (w : World), (Instr.makeFunc fn first cap).run Tryd.prog w = .ok (.func fn first cap) w := fun _ _ _ _ => rfl
  have HB : Hid (Below w.heap.size w (w.alloc (.cells #[.int .u8 sg] 5))) := below_alloc w _
  unfold maxLen at hm
  cases l with
  | nil =>
    clear ha hms
    go_enter Tryd.func59, Tryd.ntmps59
    go_wp2
    go_ret
    exact ⟨rfl, HB.out⟩
  | cons h r =>
    obtain ⟨b, off, am, cm, rfl, h1, h2, h3, hmk, _⟩ := ha 0 (by simp)
    have e0 : (h :: r).getD 0 (0, 0, []) = h := rfl
    rw [e0] at h1 h2 h3 hmk
    replace h1 := cell_later HB.out h1
    replace h2 := cell_later HB.out h2
    replace h3 := cell_later HB.out h3
    have hcs : (w.alloc (.cells #[.int .u8 sg] 5)).cell? ⟨w.heap.size, 0, none⟩ = some (.int .u8 sg) := Lib.cell_of_heap (heap_alloc_new w _) 0
    have hco := containsOther am h.2.2 cm w.heap.size sg _ (hmk.below HB.out) (hms h (by simp)) hcs
    rw [Nat.zero_mul, Nat.add_zero] at h1 h2 h3
    have HW : Hid (whB sg (h :: r) = (decide (r = []) && decide (h.1 = 0) && decide (lessOf sg h.2.2 = []))) := rfl
    obtain ⟨o, ho⟩ : ∃ o, h.1 = o := ⟨_, rfl⟩
    obtain ⟨ms, hms'⟩ : ∃ ms, h.2.2 = ms := ⟨_, rfl⟩
    rw [ho] at h1 HW
    rw [hms'] at h3 hco HW
    obtain ⟨X, hX⟩ : ∃ X, whB sg (h :: r) = X := ⟨_, rfl⟩
    rw [hX] at HW ⊢
    obtain ⟨q, hq⟩ : ∃ q, ms.length = q := ⟨_, rfl⟩
    rw [hq] at h3 hco
    clear hmk hms ha e0 h2 hcs ho hms' hX hq
    by_cases hr : r = []
    · subst hr
      by_cases h0 : o = 0
      · subst h0
        rw [List.length_singleton]
        by_cases hl : lessOf sg ms = []
        · have HX : Hid (X = true) := by show X = true; rw [HW.out]; simp [hl]
          rw [show decide (lessOf sg ms ≠ []) = false by simp [hl]] at hco
          clear HW hl
          go_enter Tryd.func59, Tryd.ntmps59
          go_wp2_with (go_at_call 61; refine hco.mono ?_)
          rintro e w1 ⟨rfl, hb1⟩
          have hb1 := HB.out.trans (hb1.mono HB.out.size)
          go_wp2
          go_ret
          exact ⟨ret_b HX.out.symm, hb1⟩
        · have HX : Hid (X = false) := by show X = false; rw [HW.out]; simp [hl]
          rw [show decide (lessOf sg ms ≠ []) = true by simp [hl]] at hco
          clear HW hl
          go_enter Tryd.func59, Tryd.ntmps59
          go_wp2_with (go_at_call 61; refine hco.mono ?_)
          rintro e w1 ⟨rfl, hb1⟩
          have hb1 := HB.out.trans (hb1.mono HB.out.size)
          go_wp2
          go_ret
          exact ⟨ret_b HX.out.symm, hb1⟩
      · have HX : Hid (X = false) := by show X = false; rw [HW.out]; simp [h0]
        rw [List.length_singleton]
        clear HW hco
        go_enter Tryd.func59, Tryd.ntmps59
        go_wp2
        go_ret
        exact ⟨ret_b HX.out.symm, HB.out⟩
    · have HX : Hid (X = false) := by show X = false; rw [HW.out]; simp [hr]
      have hl2 : ¬ ((h :: r).length : Int) = 1 := by
        have := List.length_pos_iff.2 hr
        rw [List.length_cons]; omega
      obtain ⟨m, hmm⟩ : ∃ m, (h :: r).length = m := ⟨_, rfl⟩
      have hl0 : ¬ ((m : Nat) : Int) = 0 := by rw [← hmm]; simp; omega
      rw [hmm] at hl2 hm ⊢
      clear HW hco hmm hr
      go_enter Tryd.func59, Tryd.ntmps59
      go_wp2
      go_ret
      exact ⟨ret_b HX.out.symm, HB.out⟩

set_option maxHeartbeats 1000000 in
theorem goesWithOf (wh : Int) (p : ByteArray) (a : Option Addr) (l : List Hk) (ca : Nat) (w : World) (ha : Hks w a l) (hm : l.length ≤ maxLen) (hms : ∀ h ∈ l, h.2.2.length ≤ maxLen) :
    Calls Tryd.prog 47 #[.int .i64 wh, .slice a l.length ca] w fun e w' => (1 ≤ wh ∧ wh ≤ 3 → e = .returned (.bool (shp (wh, p, l)))) ∧ (∃ b, e = .returned (.bool b)) ∧ Below w.heap.size w w' := by
  have h43 := isWholeOf a l ca 43 w ha hm hms
  have h45 := isWholeOf a l ca 45 w ha hm hms
  have HE := shp_eq (wh, p, l)
  unfold maxLen at hm
  have HLN : Hid (l ≠ [] ↔ 0 < l.length) := ⟨fun h => List.length_pos_iff.2 h, fun h => List.ne_nil_of_length_pos h⟩
  obtain ⟨X, hX⟩ : ∃ X, shp (wh, p, l) = X := ⟨_, rfl⟩
  obtain ⟨n, hn⟩ : ∃ n, l.length = n := ⟨_, rfl⟩
  rw [hX] at HE ⊢
  rw [hn] at h43 h45 hm HLN ⊢
  obtain ⟨x1, hx1⟩ : ∃ x, whB 43 l = x := ⟨_, rfl⟩
  obtain ⟨x2, hx2⟩ : ∃ x, whB 45 l = x := ⟨_, rfl⟩
  rw [hx1] at h43
  rw [hx2] at h45
  by_cases h2 : wh = 2
  · subst h2
    have HX : Hid (X = x1) := by show X = x1; rw [HE, ← hx1]; rfl
    clear HE h45 ha hms hX hn
    go_enter Tryd.func47, Tryd.ntmps47
    go_wp2_with (go_at_call 59; refine h43.mono ?_)
    rintro e w1 ⟨rfl, hb1⟩
    go_wp2
    go_ret
    exact ⟨fun _ => ret_b HX.out.symm, ⟨_, rfl⟩, hb1⟩
  · by_cases h3 : wh = 3
    · subst h3
      have HX : Hid (X = x2) := by show X = x2; rw [HE, ← hx2]; rfl
      clear HE h43 ha hms hX hn h2
      go_enter Tryd.func47, Tryd.ntmps47
      go_wp2_with (go_at_call 59; refine h45.mono ?_)
      rintro e w1 ⟨rfl, hb1⟩
      go_wp2
      go_ret
      exact ⟨fun _ => ret_b HX.out.symm, ⟨_, rfl⟩, hb1⟩
    · have HX : Hid (1 ≤ wh ∧ wh ≤ 3 → X = decide (0 < n)) := fun h => by
        rw [HE]
        simp only
        rw [if_pos (by omega)]
        exact decide_eq_decide.2 HLN.out
      clear HE h43 h45 ha hms hX hn
      go_enter Tryd.func47, Tryd.ntmps47
      go_wp2
      go_ret
      exact ⟨fun h => ret_b (HX.out h).symm, ⟨_, rfl⟩, Below.refl _ _⟩

theorem cck_what {c : Ch} (h : c.1 < 1 ∨ 3 < c.1) : cOne c = 1 := by unfold cOne; rw [if_pos h]
theorem cck_path {c : Ch} (h : ¬ (c.1 < 1 ∨ 3 < c.1)) (h2 : pf c.2.1.data.toList ≠ 0) : cOne c = pf c.2.1.data.toList := by unfold cOne; rw [if_neg h, if_pos h2]
theorem cck_hunks {c : Ch} (h : ¬ (c.1 < 1 ∨ 3 < c.1)) (h2 : pf c.2.1.data.toList = 0) (h3 : (hf c.2.2).2 ≠ 0) : cOne c = (hf c.2.2).2 := by unfold cOne; rw [if_neg h, if_neg (fun e => e h2), if_pos h3]
theorem cck_shape {c : Ch} (h : ¬ (c.1 < 1 ∨ 3 < c.1)) (h2 : pf c.2.1.data.toList = 0) (h3 : (hf c.2.2).2 = 0) : cOne c = if shp c = true then 0 else 2 := by unfold cOne; rw [if_neg h, if_neg (fun e => e h2), if_neg (fun e => e h3)]

set_option maxRecDepth 100000 in
set_option maxHeartbeats 2000000 in
theorem checkOneC (wh : Int) (p : ByteArray) (a : Option Addr) (l : List Hk) (ca : Nat) (w : World) (ha : Hks w a l) (hm : l.length ≤ maxLen) (hms : ∀ h ∈ l, h.2.2.length ≤ maxLen) :
    Calls Tryd.prog 37 #[.agg #[.int .i64 wh, .string p, .slice a l.length ca]] w fun e w' => e = .returned (errV (cOne (wh, p, l))) ∧ Below w.heap.size w w' := by
  have HB0 : Hid (Below w.heap.size w (w.alloc (.cells #[.int .i64 wh, .string p, .slice a l.length ca] 25))) := below_alloc w _
  have hpa := path_any p (w.alloc (.cells #[.int .i64 wh, .string p, .slice a l.length ca] 25))
  have HHC : Hid (∀ w', Below w.heap.size w w' → Calls Tryd.prog 38 #[.slice a l.length ca] w' fun e w'' => e = .returned (.tuple #[.int .i64 (hf l).1, errV (hf l).2]) ∧ Below w'.heap.size w' w'') := fun w' hb => hunkCheck a l ca w' (ha.below hb) hm hms
  have HGW : Hid (∀ w', Below w.heap.size w w' → Calls Tryd.prog 47 #[.int .i64 wh, .slice a l.length ca] w' fun e w'' => (1 ≤ wh ∧ wh ≤ 3 → e = .returned (.bool (shp (wh, p, l)))) ∧ (∃ b, e = .returned (.bool b)) ∧ Below w'.heap.size w' w'') := fun w' hb => goesWithOf wh p a l ca w' (ha.below hb) hm hms
  have E1 : Hid (wh < 1 ∨ 3 < wh → cOne (wh, p, l) = 1) := fun h => cck_what h
  have E2 : Hid (¬ (wh < 1 ∨ 3 < wh) → pf p.data.toList ≠ 0 → cOne (wh, p, l) = pf p.data.toList) := fun h h2 => cck_path h h2
  have E3 : Hid (¬ (wh < 1 ∨ 3 < wh) → pf p.data.toList = 0 → (hf l).2 ≠ 0 → cOne (wh, p, l) = (hf l).2) := fun h h2 h3 => cck_hunks h h2 h3
  have E4 : Hid (¬ (wh < 1 ∨ 3 < wh) → pf p.data.toList = 0 → (hf l).2 = 0 → cOne (wh, p, l) = if shp (wh, p, l) = true then 0 else 2) := fun h h2 h3 => cck_shape h h2 h3
  obtain ⟨n, hn⟩ : ∃ n, l.length = n := ⟨_, rfl⟩
  obtain ⟨g, hg⟩ : ∃ g, cOne (wh, p, l) = g := ⟨_, rfl⟩
  obtain ⟨X, hX⟩ : ∃ X, shp (wh, p, l) = X := ⟨_, rfl⟩
  obtain ⟨fh, hfh⟩ : ∃ x, (hf l).2 = x := ⟨_, rfl⟩
  obtain ⟨fk, hfk⟩ : ∃ x, (hf l).1 = x := ⟨_, rfl⟩
  rw [hn] at HB0 hpa HHC HGW
  rw [hg] at E1 E2 E3 E4 ⊢
  rw [hX] at E4 HGW
  rw [hfh] at E3 E4 HHC
  rw [hfk] at HHC
  rw [hn]
  clear ha hm hms hn hg hX hfh hfk
  by_cases h0 : wh < 1 ∨ 3 < wh
  · have HG : Hid (g = 1) := E1.out h0
    clear E1 E2 E3 E4 HHC HGW hpa
    have n1 : (wh != 1) = true := by simp; omega
    have n2 : (wh != 2) = true := by simp; omega
    have n3 : (wh != 3) = true := by simp; omega
    clear h0
    go_enter Tryd.func37, Tryd.ntmps37
    go_wp2
    go_ret
    exact ⟨ret_v (by rw [HG.out]; rfl), HB0.out⟩
  · have H0 : Hid (¬ (wh < 1 ∨ 3 < wh)) := h0
    have hw : wh = 1 ∨ wh = 2 ∨ wh = 3 := by omega
    clear h0 E1
    by_cases h1 : pf p.data.toList = 0
    case' neg =>
      have HG : Hid (g = pf p.data.toList) := E2.out H0.out h1
      rw [errV_not h1] at hpa
      have H1 : Hid (pf p.data.toList ≠ 0) := h1
      clear h1 E2 E3 E4 HHC HGW
      rcases hw with rfl | rfl | rfl
      all_goals
        go_enter Tryd.func37, Tryd.ntmps37
        go_wp2_with (go_at_call 46; refine hpa.mono ?_)
        rintro e w1 ⟨rfl, hb1⟩
        have hb1 := HB0.out.trans (hb1.mono HB0.out.size)
        clear hpa HB0
        go_wp2
        go_ret
        refine ⟨ret_v ?_, hb1⟩
        rw [HG.out, errV_not H1.out]; rfl
    case' pos =>
      rw [h1, errV_zero] at hpa
      have F3 : Hid (fh ≠ 0 → g = fh) := E3.out H0.out h1
      have F4 : Hid (fh = 0 → g = if X = true then 0 else 2) := E4.out H0.out h1
      have HW : Hid (1 ≤ wh ∧ wh ≤ 3) := by show 1 ≤ wh ∧ wh ≤ 3; omega
      clear h1 E2 E3 E4 H0
      rcases hw with rfl | rfl | rfl
      all_goals
        go_enter Tryd.func37, Tryd.ntmps37
        go_wp2_with (go_at_call 46; refine hpa.mono ?_)
        rintro e w1 ⟨rfl, hb1⟩
        obtain ⟨d0, d1, d2⟩ := cells_later hb1
        have hb1 := HB0.out.trans (hb1.mono HB0.out.size)
        have hhc := HHC.out w1 hb1
        clear hpa HB0
        by_cases h2 : fh = 0
        · rw [h2, errV_zero] at hhc
          have HG : Hid (g = if X = true then 0 else 2) := F4.out h2
          clear h2 F3 F4
          go_wp2_with (go_at_call 38; refine hhc.mono ?_)
          rintro e w2 ⟨rfl, hb2⟩
          replace d0 := cell_later hb2 d0
          replace d1 := cell_later hb2 d1
          replace d2 := cell_later hb2 d2
          have hb2 := hb1.trans (hb2.mono hb1.size)
          have hgw := HGW.out w2 hb2
          clear hhc HGW HHC hb1
          cases X
          · go_wp2_with (go_at_call 47; refine hgw.mono ?_; rintro e w3 ⟨he, _, hb3⟩; obtain rfl := he HW.out)
            go_wp2
            go_ret
            exact ⟨ret_v (by rw [HG.out]; rfl), hb2.trans (hb3.mono hb2.size)⟩
          · go_wp2_with (go_at_call 47; refine hgw.mono ?_; rintro e w3 ⟨he, _, hb3⟩; obtain rfl := he HW.out)
            go_wp2
            go_ret
            exact ⟨ret_v (by rw [HG.out]; rfl), hb2.trans (hb3.mono hb2.size)⟩
        · have HG : Hid (g = fh) := F3.out h2
          rw [errV_not h2] at hhc
          have H2 : Hid (fh ≠ 0) := h2
          clear h2 F3 F4 HGW HHC
          go_wp2_with (go_at_call 38; refine hhc.mono ?_)
          rintro e w2 ⟨rfl, hb2⟩
          have hb2 := hb1.trans (hb2.mono hb1.size)
          clear hhc hb1
          go_wp2
          go_ret
          refine ⟨ret_v ?_, hb2⟩
          rw [HG.out, errV_not H2.out]; rfl

set_option maxRecDepth 100000 in
set_option maxHeartbeats 2000000 in
theorem patchCheck (a : Option Addr) (l : List Ch) (ca : Nat) (w : World) (ha : Chs w a l) (hm : l.length ≤ maxLen) (hml : ∀ c ∈ l, c.2.2.length ≤ maxLen) (hms : ∀ c ∈ l, ∀ h ∈ c.2.2, h.2.2.length ≤ maxLen) :
    Calls Tryd.prog 26 #[.slice a l.length ca] w fun e w' => e = .returned (.tuple #[.int .i64 (kf l).1, errV (kf l).2]) ∧ Below w.heap.size w w' := by
  unfold maxLen at hm
  obtain ⟨n, hn⟩ : ∃ n, l.length = n := ⟨_, rfl⟩
  rw [hn] at hm ⊢
  by_cases hbig : 16 < (n : Int)
  · have he : Hid (kf l = (0, 3)) := kf_big (by rw [hn]; omega)
    clear hn ha hms hml
    go_enter Tryd.func26, Tryd.ntmps26
    go_wp2
    go_ret2
    refine ⟨?_, Below.refl _ _⟩
    rw [he.out]; rfl
  · have HN : Hid (l.length = n) := hn
    have HL : Hid (l.length ≤ 16) := by show l.length ≤ 16; omega
    have HA : Hid (Chs w a l) := ha
    have HM : Hid (∀ c ∈ l, c.2.2.length ≤ maxLen) := hml
    have HMS : Hid (∀ c ∈ l, ∀ h ∈ c.2.2, h.2.2.length ≤ maxLen) := hms
    clear hn ha hms hml
    obtain ⟨B, hB⟩ : ∃ B, w.heap.size = B := ⟨_, rfl⟩
    have HB : Hid (w.heap.size = B) := hB
    rw [hB]
    clear hB
    go_enter Tryd.func26, Tryd.ntmps26
    go_wp2
    go_loopw [13] (fun i w1 => ∃ k : Nat, k ≤ n ∧ i = .int .i64 k ∧ Below B w w1 ∧ ∀ j : Nat, j < k → cAt l j = 0) (fun i _ => n - (intOf i).toNat)
    case atStart => exact ⟨0, Nat.zero_le _, rfl, Below.refl _ _, by simp⟩
    case round =>
      obtain ⟨k, hk, rfl, hbl, hall⟩ := hrel
      have HALL : Hid (∀ j : Nat, j < k → cAt l j = 0) := hall
      clear hall
      by_cases hlt : k < n
      · have ha := HA.out
        have hkl : k < l.length := by rw [HN.out]; exact hlt
        obtain ⟨b, off, rfl⟩ := ha.addr hkl
        obtain ⟨ah, ch, hc0, hc1, hc2, hst, _⟩ := ha.at hkl
        have hb' : Below w.heap.size w wr := by rw [HB.out]; exact hbl
        replace hc0 := cell_later hb' hc0
        replace hc1 := cell_later hb' hc1
        replace hc2 := cell_later hb' hc2
        replace hst := hst.below hb'
        have hml := HM.out _ (mem_getDc hkl)
        have hms := HMS.out _ (mem_getDc hkl)
        have HFA : Hid (cAt l k ≠ 0 → kf l = (k, cAt l k)) := kf_at HL.out k HALL.out hkl
        have F1 : Hid (cOne (l.getD k cz) ≠ 0 → cAt l k = cOne (l.getD k cz)) := cAt_one
        have F2 : Hid (cOne (l.getD k cz) = 0 → 0 < k → bl (l.getD (k - 1) cz).2.1 (l.getD k cz).2.1 = false → cAt l k = 2) := cAt_falls
        have F3 : Hid (cOne (l.getD k cz) = 0 → (0 < k → bl (l.getD (k - 1) cz).2.1 (l.getD k cz).2.1 = true) → cAt l k = 0) := cAt_ok
        obtain ⟨wh, hw⟩ : ∃ x, (l.getD k cz).1 = x := ⟨_, rfl⟩
        obtain ⟨p, hp⟩ : ∃ p, (l.getD k cz).2.1 = p := ⟨_, rfl⟩
        obtain ⟨hs, hhs⟩ : ∃ hs, (l.getD k cz).2.2 = hs := ⟨_, rfl⟩
        rw [getD_etac l k hw hp hhs] at F1 F2 F3
        rw [hw] at hc0
        rw [hp] at hc1
        rw [hhs] at hc2 hst hml hms
        have hb0 := below_alloc wr (.cells #[.int .i64 wh, .string p, .slice ah hs.length ch] 25)
        have hck := checkOneC wh p ah hs ch _ (hst.below hb0) hml hms
        have HB0 : Hid (Below wr.heap.size wr (wr.alloc (.cells #[.int .i64 wh, .string p, .slice ah hs.length ch] 25))) := hb0
        have hszB : B ≤ wr.heap.size := by have := hbl.size; have := HB.out; omega
        obtain ⟨q, hq⟩ : ∃ q, hs.length = q := ⟨_, rfl⟩
        rw [hq] at hc2 hck HB0
        clear hst hml hms hb0 hq hp hhs hw
        by_cases h1 : cOne (wh, p, hs) = 0
        · rw [h1, errV_zero] at hck
          have H1 : Hid (cOne (wh, p, hs) = 0) := h1
          clear h1 F1
          by_cases hk0 : 0 < (k : Int)
          · obtain ⟨m, rfl⟩ : ∃ m, k = m + 1 := ⟨k - 1, by omega⟩
            obtain ⟨ah2, ch2, _, hd1, _, _, _⟩ := ha.at (i := m) (by omega)
            replace hd1 := cell_later hb' hd1
            rw [Nat.add_sub_cancel] at F2 F3
            obtain ⟨p2, hp2⟩ : ∃ p2, (l.getD m cz).2.1 = p2 := ⟨_, rfl⟩
            rw [hp2] at hd1 F2 F3
            have hwm : IntKind.i64.wrap (m : Int) = m := by rw [IntKind.wrap_i64]; omega
            have hmn : m < n := by omega
            clear ha hp2 hkl hk0
            go_wp2_with (go_at_call 37; refine hck.mono ?_; rintro e w1 ⟨rfl, hb1⟩; obtain ⟨d0, d1, d2⟩ := cells_later hb1; have hb1 := HB0.out.trans (hb1.mono HB0.out.size); replace hd1 := cell_later hb1 hd1; have hb1 := hbl.trans (hb1.mono hszB); clear hck HB0 hbl hc0 hc1 hc2 d0 d2 hb')
            by_cases h2 : Op.bytesLess p2.toList p.toList = true
            · have HG : Hid (cAt l (m + 1) = 0) := F3.out H1.out (fun _ => h2)
              go_quiet (fail)
              go_wp2
              go_roundw
              case rel => exact ⟨m + 1 + 1, by omega, by go_num, below_drawn hb1, fun j hj => by
                by_cases e : j = m + 1
                · rw [e]; exact HG.out
                · exact HALL.out j (by omega)⟩
              case measure => simp [intOf]; omega
            · have h2 : Op.bytesLess p2.toList p.toList = false := by simpa using h2
              have HG : Hid (cAt l (m + 1) = 2) := F2.out H1.out (by omega) h2
              go_quiet (fail)
              go_wp2
              go_ret2
              refine ⟨?_, below_drawn hb1⟩
              rw [HFA.out (by rw [HG.out]; decide), HG.out]; rfl
          · have HG : Hid (cAt l k = 0) := F3.out H1.out (fun h => by omega)
            have hkd : decide (0 < k) = false := decide_eq_false (by omega)
            clear ha hkl
            go_wp2_with (go_at_call 37; refine hck.mono ?_; rintro e w1 ⟨rfl, hb1⟩; have hb1 := HB0.out.trans (hb1.mono HB0.out.size); have hb1 := hbl.trans (hb1.mono hszB); clear hck HB0 hbl hc0 hc1 hc2 hb')
            go_quiet (fail)
            go_wp2
            go_roundw
            case rel => exact ⟨k + 1, by omega, by go_num, below_drawn hb1, fun j hj => by
              by_cases e : j = k
              · rw [e]; exact HG.out
              · exact HALL.out j (by omega)⟩
            case measure => simp [intOf]; omega
        · have HG : Hid (cAt l k = cOne (wh, p, hs)) := F1.out h1
          rw [errV_not h1] at hck
          have H1 : Hid (cOne (wh, p, hs) ≠ 0) := h1
          clear h1 ha F1 F2 F3 hkl
          go_wp2_with (go_at_call 37; refine hck.mono ?_)
          rintro e w1 ⟨rfl, hb1⟩
          have hb1 := HB0.out.trans (hb1.mono HB0.out.size)
          have hb1 := hbl.trans (hb1.mono hszB)
          clear hck HB0 hbl
          go_wp2
          go_ret2
          refine ⟨?_, hb1⟩
          rw [HFA.out (by rw [HG.out]; exact H1.out), HG.out, errV_not H1.out]; rfl
      · go_wp2
        go_ret2
        refine ⟨?_, hbl⟩
        rw [kf_ok HL.out fun j hj => HALL.out j (by have := HN.out; omega)]; rfl

end Go.Proofs.YtfmhapajdnmhoafDoor
