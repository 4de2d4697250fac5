/-
  Changes as they lie in memory; the walk of the comparison of two lists of the same changes. Walks of patch.isWhole, goesWith, checkOne and Check: the fault of a change, the first fault of changes. Rows of changes that a call has made and fills; the walk of patch.Turn: a patch turned.
-/
import Derived.Test.YtmidbhikhbbpbacDoorXd
import Derived.Test.YtmidbhikhbbpbacDoorHsame
import Derived.Deep.RegionWith
import Derived.Test.YtmidbhikhbbpbacDoorXf
namespace Go.Proofs.YtmidbhikhbbpbacDoor
open Go.RowKit Dist

/-- Changes as they lie in memory: what, a path, hunks each. -/
def Chs (w : World) (a : Option Addr) (l : List Ch) : Prop :=
  ∀ i : Nat, i < l.length → ∃ b off ah ch, a = some ⟨b, off, none⟩ ∧ w.cell? ⟨b, off + i * 3, none⟩ = some (.int .i64 (l.getD i cz).1) ∧ w.cell? ⟨b, off + i * 3 + 1, none⟩ = some (.string (l.getD i cz).2.1) ∧ w.cell? ⟨b, off + i * 3 + 2, none⟩ = some (.slice ah (l.getD i cz).2.2.length ch) ∧ Hks w ah (l.getD i cz).2.2 ∧ (l.getD i cz).2.2.length ≤ ch

theorem Chs.below {w w' : World} {a : Option Addr} {l : List Ch} (h : Chs w a l) (hb : Below w.heap.size w w') : Chs w' a l := by
  intro i hi
  obtain ⟨b, off, ah, ch, rfl, h1, h2, h3, h4, h5⟩ := h i hi
  exact ⟨b, off, ah, ch, rfl, cell_later hb h1, cell_later hb h2, cell_later hb h3, h4.below hb, h5⟩

theorem Chs.nil (w : World) (a : Option Addr) : Chs w a [] := fun _ hi => absurd hi (Nat.not_lt_zero _)

theorem Chs.addr {w : World} {a : Option Addr} {l : List Ch} (h : Chs w a l) {i : Nat} (hi : i < l.length) : ∃ b off, a = some ⟨b, off, none⟩ := by
  obtain ⟨b, off, _, _, e, _⟩ := h i hi
  exact ⟨b, off, e⟩

theorem Chs.at {w : World} {b off : Nat} {l : List Ch} (h : Chs w (some ⟨b, off, none⟩) l) {i : Nat} (hi : i < l.length) :
    ∃ ah ch, w.cell? ⟨b, off + i * 3, none⟩ = some (.int .i64 (l.getD i cz).1) ∧ w.cell? ⟨b, off + i * 3 + 1, none⟩ = some (.string (l.getD i cz).2.1) ∧ w.cell? ⟨b, off + i * 3 + 2, none⟩ = some (.slice ah (l.getD i cz).2.2.length ch) ∧ Hks w ah (l.getD i cz).2.2 ∧ (l.getD i cz).2.2.length ≤ ch := by
  obtain ⟨b', off', ah, ch, e, h1, h2, h3, h4, h5⟩ := h i hi
  simp only [Option.some.injEq, Addr.mk.injEq] at e
  obtain ⟨rfl, rfl, _⟩ := e
  exact ⟨ah, ch, h1, h2, h3, h4, h5⟩

theorem getD_etac (l : List Ch) (k : Nat) {wh : Int} {p : ByteArray} {hs : List Hk} (h1 : (l.getD k cz).1 = wh) (h2 : (l.getD k cz).2.1 = p) (h3 : (l.getD k cz).2.2 = hs) : l.getD k cz = (wh, p, hs) := by
  rw [← h1, ← h2, ← h3]

set_option maxRecDepth 100000 in
set_option maxHeartbeats 2000000 in
theorem patches_eq (a b : Option Addr) (l : List Ch) (ca cb : Nat) (w : World) (ha : Chs w a l) (hb : Chs w b l) (hm : l.length ≤ maxLen) (hml : ∀ c ∈ l, c.2.2.length ≤ maxLen) (hms : ∀ c ∈ l, ∀ h ∈ c.2.2, h.2.2.length ≤ maxLen) :
    Calls Tryd.prog 21 #[.slice a l.length ca, .slice b l.length cb] w fun e w' => e = .returned (.bool true) ∧ Below w.heap.size w w' := by
  unfold maxLen at hm
  obtain ⟨n, hn⟩ : ∃ n, l.length = n := ⟨_, rfl⟩
  rw [hn] at hm ⊢
  have HN : Hid (l.length = n) := hn
  have HA : Hid (Chs w a l) := ha
  have HBB : Hid (Chs w b l) := hb
  have HM : Hid (∀ c ∈ l, c.2.2.length ≤ maxLen) := hml
  have HMS : Hid (∀ c ∈ l, ∀ h ∈ c.2.2, h.2.2.length ≤ maxLen) := hms
  clear hn ha hb hms hml
  obtain ⟨B, hB⟩ : ∃ B, w.heap.size = B := ⟨_, rfl⟩
  have HB : Hid (w.heap.size = B) := hB
  rw [hB]
  clear hB
  go_enter Tryd.func21, Tryd.ntmps21
  go_wp2
  go_loopw [5] (fun i w1 => ∃ k : Nat, k ≤ n ∧ i = .int .i64 k ∧ Below B w w1) (fun i _ => n - (intOf i).toNat)
  case atStart => exact ⟨0, Nat.zero_le _, rfl, Below.refl _ _⟩
  case round =>
    obtain ⟨k, hk, rfl, hbl⟩ := hrel
    by_cases hlt : k < n
    · have ha := HA.out
      have hb := HBB.out
      have hkl : k < l.length := by rw [HN.out]; exact hlt
      obtain ⟨b1, o1, rfl⟩ := ha.addr hkl
      obtain ⟨b2, o2, rfl⟩ := hb.addr hkl
      obtain ⟨ah1, ch1, hc0, hc1, hc2, hs1, _⟩ := ha.at hkl
      obtain ⟨ah2, ch2, hd0, hd1, hd2, hs2, _⟩ := hb.at hkl
      clear ha hb
      have hb' : Below w.heap.size w wr := by rw [HB.out]; exact hbl
      have hdr : Below wr.heap.size wr wr.drew := ⟨rfl, rfl, rfl, Nat.le_refl _, fun _ _ => rfl⟩
      replace hc0 := cell_later hb' hc0
      replace hc1 := cell_later hb' hc1
      replace hc2 := cell_later hb' hc2
      replace hd0 := cell_later hb' hd0
      replace hd1 := cell_later hb' hd1
      replace hd2 := cell_later hb' hd2
      have hml := HM.out _ (mem_getDc hkl)
      have hms := HMS.out _ (mem_getDc hkl)
      obtain ⟨wh, hw⟩ : ∃ x, (l.getD k cz).1 = x := ⟨_, rfl⟩
      obtain ⟨p, hp⟩ : ∃ p, (l.getD k cz).2.1 = p := ⟨_, rfl⟩
      obtain ⟨hs, hhs⟩ : ∃ hs, (l.getD k cz).2.2 = hs := ⟨_, rfl⟩
      rw [hw] at hc0 hd0
      rw [hp] at hc1 hd1
      rw [hhs] at hc2 hd2 hs1 hs2 hml hms
      have hhe := hunks_eq ah1 ah2 hs ch1 ch2 wr.drew ((hs1.below hb').below hdr) ((hs2.below hb').below hdr) hml hms
      obtain ⟨q, hq⟩ : ∃ q, hs.length = q := ⟨_, rfl⟩
      rw [hq] at hc2 hd2 hhe
      have KK : Hid (∀ w2, Below wr.drew.heap.size wr.drew w2 → w2.cell? ⟨b1, o1 + k * 3, none⟩ = some (.int .i64 wh) ∧ w2.cell? ⟨b2, o2 + k * 3, none⟩ = some (.int .i64 wh) ∧ w2.cell? ⟨b1, o1 + k * 3 + 1, none⟩ = some (.string p) ∧ w2.cell? ⟨b2, o2 + k * 3 + 1, none⟩ = some (.string p) ∧ Below B w w2) := fun w2 h => by
        have h2 := hdr.trans h
        exact ⟨cell_later h2 hc0, cell_later h2 hd0, cell_later h2 hc1, cell_later h2 hd1, hbl.trans (h2.mono (by have := hbl.size; have := HB.out; omega))⟩
      clear hw hp hhs hml hms hb' hs1 hs2 hq hkl hdr hc1 hd1 hc0 hd0
      go_wp2
      go_region_with (go_at_call 38; refine hhe.mono ?_; rintro e w2 ⟨rfl, hb2⟩)
      all_goals
        obtain ⟨c0, d0, c1, d1, hb3⟩ := KK.out _ hb2
        clear hhe hb2 KK hc2 hd2 hbl
        go_wp2
        go_quiet (fail)
        go_wp2
        go_roundw
        case rel => exact ⟨k + 1, by omega, by go_num, below_drawn hb3⟩
        case measure => simp [intOf]; omega
    · go_wp2
      go_ret
      exact ⟨rfl, hbl⟩

end Go.Proofs.YtmidbhikhbbpbacDoor
namespace Go.Proofs.YtmidbhikhbbpbacDoor
open Go.RowKit Dist

/-- Hunks that can be all of a file. -/
def whB (sg : Int) : List Hk → Bool
  | [] => true
  | h :: r => decide (r = []) && decide (h.1 = 0) && decide (lessOf sg h.2.2 = [])

theorem shp_eq (c : Ch) : shp c = if c.1 = 1 then decide (c.2.2 ≠ []) else whB (if c.1 = 2 then 43 else 45) c.2.2 := by
  obtain ⟨w, p, l⟩ := c
  unfold shp whB
  by_cases h : w = 1
  · rw [if_pos h, if_pos h]
  · rw [if_neg h, if_neg h]
    cases l <;> rfl

theorem less_any {sg : Int} {ms : List (Int × ByteArray)} {k : Nat} (hk : k < ms.length) (h : (ms.getD k (0, ByteArray.empty)).1 ≠ sg) : lessOf sg ms ≠ [] := by
  have e : ms.getD k (0, ByteArray.empty) = ms[k] := by simp [hk]
  rw [e] at h
  unfold lessOf
  intro e2
  have := List.map_eq_nil_iff.1 e2
  have := List.filter_eq_nil_iff.1 this ms[k] (List.getElem_mem _)
  simp at this
  exact h this
theorem less_no {sg : Int} {ms : List (Int × ByteArray)} (h : ∀ k, k < ms.length → (ms.getD k (0, ByteArray.empty)).1 = sg) : lessOf sg ms = [] := by
  unfold lessOf
  refine List.map_eq_nil_iff.2 (List.filter_eq_nil_iff.2 fun m hm => ?_)
  obtain ⟨k, hk, rfl⟩ := List.getElem_of_mem hm
  have := h k hk
  have e : ms.getD k (0, ByteArray.empty) = ms[k] := by simp [hk]
  rw [e] at this
  simpa using this

theorem cck_what {c : Ch} (h : c.1 < 1 ∨ 3 < c.1) : cOne c = 1 := by unfold cOne; rw [if_pos h]
theorem cck_path {c : Ch} (h : ¬ (c.1 < 1 ∨ 3 < c.1)) (h2 : pf c.2.1.data.toList ≠ 0) : cOne c = pf c.2.1.data.toList := by unfold cOne; rw [if_neg h, if_pos h2]
theorem cck_hunks {c : Ch} (h : ¬ (c.1 < 1 ∨ 3 < c.1)) (h2 : pf c.2.1.data.toList = 0) (h3 : (hf c.2.2).2 ≠ 0) : cOne c = (hf c.2.2).2 := by unfold cOne; rw [if_neg h, if_neg (fun e => e h2), if_pos h3]
theorem cck_shape {c : Ch} (h : ¬ (c.1 < 1 ∨ 3 < c.1)) (h2 : pf c.2.1.data.toList = 0) (h3 : (hf c.2.2).2 = 0) : cOne c = if shp c = true then 0 else 2 := by unfold cOne; rw [if_neg h, if_neg (fun e => e h2), if_neg (fun e => e h3)]

end Go.Proofs.YtmidbhikhbbpbacDoor
namespace Go.Proofs.YtmidbhikhbbpbacDoor
open Go.RowKit Dist

/-- The cells of changes: a number, a text, a slice each. -/
def PatC (cs : Array Value) : Prop := ∀ i v, cs[i]? = some v → (i % 3 = 0 → ∃ x, v = .int .i64 x) ∧ (i % 3 = 1 → ∃ s, v = .string s) ∧ (i % 3 = 2 → ∃ a l c, v = .slice a l c)

theorem Mks.apartC {w : World} {am : Option Addr} {ms : List (Int × ByteArray)} {B : Nat} {cs : Array Value} {t : TypeId} (hc : w.heap[B]? = some (.cells cs t (0, 0))) (hp : PatC cs) (h : Mks w am ms) (i : Nat) (v : Value) : Mks (w.setCell ⟨B, i, none⟩ v) am ms := by
  intro j hj
  obtain ⟨b, off, e, h1, h2⟩ := h j hj
  have hne : b ≠ B := by
    intro e
    subst e
    rw [Lib.cell_of_heap hc] at h1
    obtain ⟨p0, p1, p2⟩ := hp _ _ h1
    rcases (show (off + j * 2) % 3 = 0 ∨ (off + j * 2) % 3 = 1 ∨ (off + j * 2) % 3 = 2 by omega) with r | r | r
    · obtain ⟨x, hx⟩ := p0 r; cases hx
    · obtain ⟨x, hx⟩ := p1 r; cases hx
    · obtain ⟨x, y, z, hx⟩ := p2 r; cases hx
  refine ⟨b, off, e, ?_, ?_⟩
  · rw [World.cell?_setCell_other]
    · exact h1
    · intro e; have := congrArg Addr.block e; simp only at this; omega
  · rw [World.cell?_setCell_other]
    · exact h2
    · intro e; have := congrArg Addr.block e; simp only at this; omega

/-- Hunks lie elsewhere than changes do. -/
theorem Hks.apartC {w : World} {ah : Option Addr} {hs : List Hk} {B : Nat} {cs : Array Value} {t : TypeId} (hc : w.heap[B]? = some (.cells cs t (0, 0))) (hp : PatC cs) (h : Hks w ah hs) (i : Nat) (v : Value) : Hks (w.setCell ⟨B, i, none⟩ v) ah hs := by
  intro j hj
  obtain ⟨b, off, am, cm, e, h1, h2, h3, hm, hcap⟩ := h j hj
  have hne : b ≠ B := by
    intro e
    subst e
    rw [Lib.cell_of_heap hc] at h1 h2
    obtain ⟨p0, p1, p2⟩ := hp _ _ h1
    obtain ⟨q0, q1, q2⟩ := hp _ _ h2
    rcases (show (off + j * 3) % 3 = 0 ∨ (off + j * 3) % 3 = 1 ∨ (off + j * 3) % 3 = 2 by omega) with r | r | r
    · obtain ⟨x, hx⟩ := q1 (by omega); cases hx
    · obtain ⟨x, hx⟩ := p1 r; cases hx
    · obtain ⟨x, y, z, hx⟩ := p2 r; cases hx
  refine ⟨b, off, am, cm, e, ?_, ?_, ?_, hm.apartC hc hp i v, hcap⟩
  · rw [World.cell?_setCell_other]
    · exact h1
    · intro e; have := congrArg Addr.block e; simp only at this; omega
  · rw [World.cell?_setCell_other]
    · exact h2
    · intro e; have := congrArg Addr.block e; simp only at this; omega
  · rw [World.cell?_setCell_other]
    · exact h3
    · intro e; have := congrArg Addr.block e; simp only at this; omega

theorem PatC.set {cs : Array Value} (h : PatC cs) {i : Nat} {u : Value} (hu : (i % 3 = 0 → ∃ x, u = .int .i64 x) ∧ (i % 3 = 1 → ∃ s, u = .string s) ∧ (i % 3 = 2 → ∃ a l c, u = .slice a l c)) : PatC (cs.setIfInBounds i u) := by
  intro j v hv
  by_cases e : i = j
  · subst e
    have hi : i < cs.size := by
      by_cases hh : i < cs.size
      · exact hh
      · rw [Array.getElem?_eq_none (by simp; omega)] at hv; cases hv
    rw [Array.getElem?_setIfInBounds_self_of_lt hi] at hv
    obtain rfl := Option.some.inj hv
    exact hu
  · rw [Array.getElem?_setIfInBounds_ne e] at hv
    exact h j v hv

/-- A row of changes that a call has made: the first k places are filled. -/
def CRow (w : World) (B n k : Nat) (l : List Ch) : Prop :=
  ∃ cs : Array Value, w.heap[B]? = some (.cells cs 64 (0, 0)) ∧ cs.size = n * 3 ∧ PatC cs ∧ ∀ j, j < k → ∃ ah ch, cs[j * 3]? = some (.int .i64 (l.getD j cz).1) ∧ cs[j * 3 + 1]? = some (.string (l.getD j cz).2.1) ∧ cs[j * 3 + 2]? = some (.slice ah (l.getD j cz).2.2.length ch) ∧ Hks w ah (l.getD j cz).2.2 ∧ (l.getD j cz).2.2.length ≤ ch

theorem CRow.any {w : World} {B n k : Nat} {l : List Ch} (h : CRow w B n k l) {i : Nat} (hi : i < n * 3) : ∃ v, w.cell? ⟨B, i, none⟩ = some v := by
  obtain ⟨cs, hc, h2, _⟩ := h
  rw [Lib.cell_of_heap hc]
  exact ⟨_, Array.getElem?_eq_getElem (by omega)⟩
theorem CRow.frozen {w : World} {B n k : Nat} {l : List Ch} (h : CRow w B n k l) (i : Nat) : w.frozen? ⟨B, i, none⟩ = false := by
  obtain ⟨cs, hc, _⟩ := h
  exact Lib.frozen_of_heap hc i
theorem CRow.lt {w : World} {B n k : Nat} {l : List Ch} (h : CRow w B n k l) : B < w.heap.size := by
  obtain ⟨cs, hc, _⟩ := h
  by_cases e : B < w.heap.size
  · exact e
  · rw [Array.getElem?_eq_none (by omega)] at hc; cases hc
theorem CRow.below {w w' : World} {B n k : Nat} {l : List Ch} (h : CRow w B n k l) (hb : Below w.heap.size w w') : CRow w' B n k l := by
  have hl := h.lt
  obtain ⟨cs, hc, hs, hp, hat⟩ := h
  refine ⟨cs, blk_below hb hl hc, hs, hp, fun j hj => ?_⟩
  obtain ⟨ah, ch, a1, a2, a3, a4, a5⟩ := hat j hj
  exact ⟨ah, ch, a1, a2, a3, a4.below hb, a5⟩

theorem CRow.set {w : World} {B n k : Nat} {l : List Ch} (h : CRow w B n k l) (hk : k < n) {wh : Int} {p : ByteArray} {hs : List Hk} {ah : Option Addr} {ch : Nat} (hh : l.getD k cz = (wh, p, hs)) (hmk : Hks w ah hs) (hcp : hs.length ≤ ch) :
    CRow (((w.setCell ⟨B, k * 3, none⟩ (.int .i64 wh)).setCell ⟨B, k * 3 + 1, none⟩ (.string p)).setCell ⟨B, k * 3 + 2, none⟩ (.slice ah hs.length ch)) B n (k + 1) l := by
  obtain ⟨cs, hc, hs', hp, hat⟩ := h
  have hp1 := hp.set (i := k * 3) (u := .int .i64 wh) ⟨fun _ => ⟨_, rfl⟩, fun e => by omega, fun e => by omega⟩
  have hc1 := blk_set hc (i := k * 3) (.int .i64 wh)
  have hp2 := hp1.set (i := k * 3 + 1) (u := .string p) ⟨fun e => by omega, fun _ => ⟨_, rfl⟩, fun e => by omega⟩
  have hc2 := blk_set hc1 (i := k * 3 + 1) (.string p)
  have hp3 := hp2.set (i := k * 3 + 2) (u := .slice ah hs.length ch) ⟨fun e => by omega, fun e => by omega, fun _ => ⟨_, _, _, rfl⟩⟩
  have hc3 := blk_set hc2 (i := k * 3 + 2) (.slice ah hs.length ch)
  refine ⟨_, hc3, by simpa using hs', hp3, fun j hj => ?_⟩
  by_cases e : j = k
  · subst e
    rw [hh]
    refine ⟨ah, ch, ?_, ?_, ?_, ((hmk.apartC hc hp _ _).apartC hc1 hp1 _ _).apartC hc2 hp2 _ _, hcp⟩
    · rw [Array.getElem?_setIfInBounds_ne (by omega), Array.getElem?_setIfInBounds_ne (by omega), Array.getElem?_setIfInBounds_self_of_lt (by omega)]
    · rw [Array.getElem?_setIfInBounds_ne (by omega), Array.getElem?_setIfInBounds_self_of_lt (by simp; omega)]
    · rw [Array.getElem?_setIfInBounds_self_of_lt (by simp; omega)]
  · obtain ⟨g1, c1, a1, a2, a3, a4, a5⟩ := hat j (by omega)
    refine ⟨g1, c1, ?_, ?_, ?_, ((a4.apartC hc hp _ _).apartC hc1 hp1 _ _).apartC hc2 hp2 _ _, a5⟩
    · rw [Array.getElem?_setIfInBounds_ne (by omega), Array.getElem?_setIfInBounds_ne (by omega), Array.getElem?_setIfInBounds_ne (by omega)]; exact a1
    · rw [Array.getElem?_setIfInBounds_ne (by omega), Array.getElem?_setIfInBounds_ne (by omega), Array.getElem?_setIfInBounds_ne (by omega)]; exact a2
    · rw [Array.getElem?_setIfInBounds_ne (by omega), Array.getElem?_setIfInBounds_ne (by omega), Array.getElem?_setIfInBounds_ne (by omega)]; exact a3

theorem CRow.chs {w : World} {B n : Nat} {l : List Ch} (h : CRow w B n l.length l) : Chs w (some ⟨B, 0, none⟩) l := by
  intro i hi
  obtain ⟨cs, hc, _, _, hat⟩ := h
  obtain ⟨ah, ch, a1, a2, a3, a4, a5⟩ := hat i hi
  refine ⟨B, 0, ah, ch, rfl, ?_, ?_, ?_, a4, a5⟩
  · rw [Nat.zero_add, Lib.cell_of_heap hc]; exact a1
  · rw [Nat.zero_add, Lib.cell_of_heap hc]; exact a2
  · rw [Nat.zero_add, Lib.cell_of_heap hc]; exact a3

theorem Tryd.infoChange : (Tryd.prog.info? 64).map (fun i => (i.zero, i.size, i.bytes)) = some (some (.agg #[.int .i64 0, .string ByteArray.empty, .slice none 0 0]), 3, 48) := by kernel_rfl

theorem patC_made (n : Nat) : PatC (madeCells #[.int .i64 0, .string ByteArray.empty, .slice none 0 0] (n * 3)) := by
  intro i v hv
  have hi : i < (madeCells #[.int .i64 0, .string ByteArray.empty, .slice none 0 0] (n * 3)).size := by
    by_cases hh : i < (madeCells #[.int .i64 0, .string ByteArray.empty, .slice none 0 0] (n * 3)).size
    · exact hh
    · rw [Array.getElem?_eq_none (by omega)] at hv; cases hv
  rw [Array.getElem?_eq_getElem hi] at hv
  have hv := Option.some.inj hv
  have e : (madeCells #[.int .i64 0, .string ByteArray.empty, .slice none 0 0] (n * 3))[i] = (#[Value.int .i64 0, .string ByteArray.empty, .slice none 0 0] : Array Value)[i % 3]! := by simp [madeCells]
  rw [e] at hv
  subst hv
  rcases (show i % 3 = 0 ∨ i % 3 = 1 ∨ i % 3 = 2 by omega) with r | r | r
  · rw [r]; exact ⟨fun _ => ⟨_, rfl⟩, fun e => by omega, fun e => by omega⟩
  · rw [r]; exact ⟨fun e => by omega, fun _ => ⟨_, rfl⟩, fun e => by omega⟩
  · rw [r]; exact ⟨fun e => by omega, fun e => by omega, fun _ => ⟨_, _, _, rfl⟩⟩

/-- A row of changes, new. -/
theorem run_make_changes (kl kc : IntKind) (n : Nat) (hn : n ≤ 1000) (w : World) :
    (Instr.makeSlice 48 (.int kl (n : Int)) (.int kc (n : Int))).run Tryd.prog w = .ok (.slice (some ⟨w.heap.size, 0, none⟩) n n) (w.alloc (.cells (madeCells #[.int .i64 0, .string ByteArray.empty, .slice none 0 0] (n * 3)) 64)) := by
  obtain ⟨i0, hi, hz0, hz1, hz2⟩ := info_parts Tryd.infoChange
  have hr := run_make (P := Tryd.prog) w 48 64 i0 _ Tryd.underlying48 hi hz0 kl kc n n (by omega) (Int.le_refl _) (by rw [hz2]; omega) (by omega)
  rw [hz1] at hr
  exact hr

/-- What becomes of a file, turned. -/
def tw (wh : Int) : Int := if wh = 2 then 3 else if wh = 3 then 2 else wh

theorem tw_trc {c : Ch} (h : 1 ≤ c.1 ∧ c.1 ≤ 3) : trc c = (tw c.1, c.2.1, trn c.2.2) := by
  obtain ⟨wh, p, l⟩ := c
  unfold trc tw
  simp only at h ⊢
  congr 1
  by_cases h2 : wh = 2
  · rw [if_neg (by omega), if_pos h2]; omega
  · by_cases h3 : wh = 3
    · rw [if_neg (by omega), if_neg h2, if_pos h3]; omega
    · rw [if_pos (by omega), if_neg h2, if_neg h3]; omega

/-- The patch turned, or nothing. -/
def tOfP (p : List Ch) : List Ch := if (kf p).2 = 0 then trP p else []

end Go.Proofs.YtmidbhikhbbpbacDoor
