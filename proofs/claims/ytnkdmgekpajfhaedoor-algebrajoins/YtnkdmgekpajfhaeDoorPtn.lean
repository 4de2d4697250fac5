/-
  Rows of changes that a call has made and fills; the walk of patch.Turn: a patch turned.
-/
import Derived.Test.YtnkdmgekpajfhaeDoorXd
import Derived.Test.YtnkdmgekpajfhaeDoorPck
import Derived.Test.YtnkdmgekpajfhaeDoorDrw
import Derived.Deep.RegionWith
namespace Go.Proofs.YtnkdmgekpajfhaeDoor
open Go.RowKit Dist

/-- The cells of changes: a number, a text, a slice each. -/
def PatC (cs : Array Value) : Prop := ∀ i v, cs[i]? = some v → (i % 3 = 0 → ∃ x, v = .int .i64 x) ∧ (i % 3 = 1 → ∃ s, v = .string s) ∧ (i % 3 = 2 → ∃ a l c, v = .slice a l c)

theorem Mks.apartC {w : World} {am : Option Addr} {ms : List (Int × ByteArray)} {B : Nat} {cs : Array Value} {t : TypeId} (hc : w.heap[B]? = some (.cells cs t (0, 0))) (hp : PatC cs) (h : Mks w am ms) (i : Nat) (v : Value) : Mks (w.setCell ⟨B, i, none⟩ v) am ms := by
  intro j hj
  obtain ⟨b, off, e, h1, h2⟩ := h j hj
  have hne : b ≠ B := by
    intro e
    subst e
    rw [Lib.cell_of_heap hc] at h1
    obtain ⟨p0, p1, p2⟩ := hp _ _ h1
    rcases (show (off + j * 2) % 3 = 0 ∨ (off + j * 2) % 3 = 1 ∨ (off + j * 2) % 3 = 2 by omega) with r | r | r
    · obtain ⟨x, hx⟩ := p0 r; cases hx
    · obtain ⟨x, hx⟩ := p1 r; cases hx
    · obtain ⟨x, y, z, hx⟩ := p2 r; cases hx
  refine ⟨b, off, e, ?_, ?_⟩
  · rw [World.cell?_setCell_other]
    · exact h1
    · intro e; have := congrArg Addr.block e; simp only at this; omega
  · rw [World.cell?_setCell_other]
    · exact h2
    · intro e; have := congrArg Addr.block e; simp only at this; omega

/-- Hunks lie elsewhere than changes do. -/
theorem Hks.apartC {w : World} {ah : Option Addr} {hs : List Hk} {B : Nat} {cs : Array Value} {t : TypeId} (hc : w.heap[B]? = some (.cells cs t (0, 0))) (hp : PatC cs) (h : Hks w ah hs) (i : Nat) (v : Value) : Hks (w.setCell ⟨B, i, none⟩ v) ah hs := by
  intro j hj
  obtain ⟨b, off, am, cm, e, h1, h2, h3, hm, hcap⟩ := h j hj
  have hne : b ≠ B := by
    intro e
    subst e
    rw [Lib.cell_of_heap hc] at h1 h2
    obtain ⟨p0, p1, p2⟩ := hp _ _ h1
    obtain ⟨q0, q1, q2⟩ := hp _ _ h2
    rcases (show (off + j * 3) % 3 = 0 ∨ (off + j * 3) % 3 = 1 ∨ (off + j * 3) % 3 = 2 by omega) with r | r | r
    · obtain ⟨x, hx⟩ := q1 (by omega); cases hx
    · obtain ⟨x, hx⟩ := p1 r; cases hx
    · obtain ⟨x, y, z, hx⟩ := p2 r; cases hx
  refine ⟨b, off, am, cm, e, ?_, ?_, ?_, hm.apartC hc hp i v, hcap⟩
  · rw [World.cell?_setCell_other]
    · exact h1
    · intro e; have := congrArg Addr.block e; simp only at this; omega
  · rw [World.cell?_setCell_other]
    · exact h2
    · intro e; have := congrArg Addr.block e; simp only at this; omega
  · rw [World.cell?_setCell_other]
    · exact h3
    · intro e; have := congrArg Addr.block e; simp only at this; omega

theorem PatC.set {cs : Array Value} (h : PatC cs) {i : Nat} {u : Value} (hu : (i % 3 = 0 → ∃ x, u = .int .i64 x) ∧ (i % 3 = 1 → ∃ s, u = .string s) ∧ (i % 3 = 2 → ∃ a l c, u = .slice a l c)) : PatC (cs.setIfInBounds i u) := by
  intro j v hv
  by_cases e : i = j
  · subst e
    have hi : i < cs.size := by
      by_cases hh : i < cs.size
      · exact hh
      · rw [Array.getElem?_eq_none (by simp; omega)] at hv; cases hv
    rw [Array.getElem?_setIfInBounds_self_of_lt hi] at hv
    obtain rfl := Option.some.inj hv
    exact hu
  · rw [Array.getElem?_setIfInBounds_ne e] at hv
    exact h j v hv

/-- A row of changes that a call has made: the first k places are filled. -/
def CRow (w : World) (B n k : Nat) (l : List Ch) : Prop :=
  ∃ cs : Array Value, w.heap[B]? = some (.cells cs 26 (0, 0)) ∧ cs.size = n * 3 ∧ PatC cs ∧ ∀ j, j < k → ∃ ah ch, cs[j * 3]? = some (.int .i64 (l.getD j cz).1) ∧ cs[j * 3 + 1]? = some (.string (l.getD j cz).2.1) ∧ cs[j * 3 + 2]? = some (.slice ah (l.getD j cz).2.2.length ch) ∧ Hks w ah (l.getD j cz).2.2 ∧ (l.getD j cz).2.2.length ≤ ch

theorem CRow.any {w : World} {B n k : Nat} {l : List Ch} (h : CRow w B n k l) {i : Nat} (hi : i < n * 3) : ∃ v, w.cell? ⟨B, i, none⟩ = some v := by
  obtain ⟨cs, hc, h2, _⟩ := h
  rw [Lib.cell_of_heap hc]
  exact ⟨_, Array.getElem?_eq_getElem (by omega)⟩
theorem CRow.frozen {w : World} {B n k : Nat} {l : List Ch} (h : CRow w B n k l) (i : Nat) : w.frozen? ⟨B, i, none⟩ = false := by
  obtain ⟨cs, hc, _⟩ := h
  exact Lib.frozen_of_heap hc i
theorem CRow.lt {w : World} {B n k : Nat} {l : List Ch} (h : CRow w B n k l) : B < w.heap.size := by
  obtain ⟨cs, hc, _⟩ := h
  by_cases e : B < w.heap.size
  · exact e
  · rw [Array.getElem?_eq_none (by omega)] at hc; cases hc
theorem CRow.below {w w' : World} {B n k : Nat} {l : List Ch} (h : CRow w B n k l) (hb : Below w.heap.size w w') : CRow w' B n k l := by
  have hl := h.lt
  obtain ⟨cs, hc, hs, hp, hat⟩ := h
  refine ⟨cs, blk_below hb hl hc, hs, hp, fun j hj => ?_⟩
  obtain ⟨ah, ch, a1, a2, a3, a4, a5⟩ := hat j hj
  exact ⟨ah, ch, a1, a2, a3, a4.below hb, a5⟩

theorem CRow.set {w : World} {B n k : Nat} {l : List Ch} (h : CRow w B n k l) (hk : k < n) {wh : Int} {p : ByteArray} {hs : List Hk} {ah : Option Addr} {ch : Nat} (hh : l.getD k cz = (wh, p, hs)) (hmk : Hks w ah hs) (hcp : hs.length ≤ ch) :
    CRow (((w.setCell ⟨B, k * 3, none⟩ (.int .i64 wh)).setCell ⟨B, k * 3 + 1, none⟩ (.string p)).setCell ⟨B, k * 3 + 2, none⟩ (.slice ah hs.length ch)) B n (k + 1) l := by
  obtain ⟨cs, hc, hs', hp, hat⟩ := h
  have hp1 := hp.set (i := k * 3) (u := .int .i64 wh) ⟨fun _ => ⟨_, rfl⟩, fun e => by omega, fun e => by omega⟩
  have hc1 := blk_set hc (i := k * 3) (.int .i64 wh)
  have hp2 := hp1.set (i := k * 3 + 1) (u := .string p) ⟨fun e => by omega, fun _ => ⟨_, rfl⟩, fun e => by omega⟩
  have hc2 := blk_set hc1 (i := k * 3 + 1) (.string p)
  have hp3 := hp2.set (i := k * 3 + 2) (u := .slice ah hs.length ch) ⟨fun e => by omega, fun e => by omega, fun _ => ⟨_, _, _, rfl⟩⟩
  have hc3 := blk_set hc2 (i := k * 3 + 2) (.slice ah hs.length ch)
  refine ⟨_, hc3, by simpa using hs', hp3, fun j hj => ?_⟩
  by_cases e : j = k
  · subst e
    rw [hh]
    refine ⟨ah, ch, ?_, ?_, ?_, ((hmk.apartC hc hp _ _).apartC hc1 hp1 _ _).apartC hc2 hp2 _ _, hcp⟩
    · rw [Array.getElem?_setIfInBounds_ne (by omega), Array.getElem?_setIfInBounds_ne (by omega), Array.getElem?_setIfInBounds_self_of_lt (by omega)]
    · rw [Array.getElem?_setIfInBounds_ne (by omega), Array.getElem?_setIfInBounds_self_of_lt (by simp; omega)]
    · rw [Array.getElem?_setIfInBounds_self_of_lt (by simp; omega)]
  · obtain ⟨g1, c1, a1, a2, a3, a4, a5⟩ := hat j (by omega)
    refine ⟨g1, c1, ?_, ?_, ?_, ((a4.apartC hc hp _ _).apartC hc1 hp1 _ _).apartC hc2 hp2 _ _, a5⟩
    · rw [Array.getElem?_setIfInBounds_ne (by omega), Array.getElem?_setIfInBounds_ne (by omega), Array.getElem?_setIfInBounds_ne (by omega)]; exact a1
    · rw [Array.getElem?_setIfInBounds_ne (by omega), Array.getElem?_setIfInBounds_ne (by omega), Array.getElem?_setIfInBounds_ne (by omega)]; exact a2
    · rw [Array.getElem?_setIfInBounds_ne (by omega), Array.getElem?_setIfInBounds_ne (by omega), Array.getElem?_setIfInBounds_ne (by omega)]; exact a3

theorem CRow.chs {w : World} {B n : Nat} {l : List Ch} (h : CRow w B n l.length l) : Chs w (some ⟨B, 0, none⟩) l := by
  intro i hi
  obtain ⟨cs, hc, _, _, hat⟩ := h
  obtain ⟨ah, ch, a1, a2, a3, a4, a5⟩ := hat i hi
  refine ⟨B, 0, ah, ch, rfl, ?_, ?_, ?_, a4, a5⟩
  · rw [Nat.zero_add, Lib.cell_of_heap hc]; exact a1
  · rw [Nat.zero_add, Lib.cell_of_heap hc]; exact a2
  · rw [Nat.zero_add, Lib.cell_of_heap hc]; exact a3

theorem patC_made (n : Nat) : PatC (madeCells #[.int .i64 0, .string ByteArray.empty, .slice none 0 0] (n * 3)) := by
  intro i v hv
  have hi : i < (madeCells #[.int .i64 0, .string ByteArray.empty, .slice none 0 0] (n * 3)).size := by
    by_cases hh : i < (madeCells #[.int .i64 0, .string ByteArray.empty, .slice none 0 0] (n * 3)).size
    · exact hh
    · rw [Array.getElem?_eq_none (by omega)] at hv; cases hv
  rw [Array.getElem?_eq_getElem hi] at hv
  have hv := Option.some.inj hv
  have e : (madeCells #[.int .i64 0, .string ByteArray.empty, .slice none 0 0] (n * 3))[i] = (#[Value.int .i64 0, .string ByteArray.empty, .slice none 0 0] : Array Value)[i % 3]! := by simp [madeCells]
  rw [e] at hv
  subst hv
  rcases (show i % 3 = 0 ∨ i % 3 = 1 ∨ i % 3 = 2 by omega) with r | r | r
  · rw [r]; exact ⟨fun _ => ⟨_, rfl⟩, fun e => by omega, fun e => by omega⟩
  · rw [r]; exact ⟨fun e => by omega, fun _ => ⟨_, rfl⟩, fun e => by omega⟩
  · rw [r]; exact ⟨fun e => by omega, fun e => by omega, fun _ => ⟨_, _, _, rfl⟩⟩

/-- A row of changes, new. -/
theorem run_make_changes (kl kc : IntKind) (n : Nat) (hn : n ≤ 1000) (w : World) :
    (Instr.makeSlice 23 (.int kl (n : Int)) (.int kc (n : Int))).run Tryd.prog w = .ok (.slice (some ⟨w.heap.size, 0, none⟩) n n) (w.alloc (.cells (madeCells #[.int .i64 0, .string ByteArray.empty, .slice none 0 0] (n * 3)) 26)) := by
  obtain ⟨i0, hi, hz0, hz1, hz2⟩ := info_parts Tryd.infoChange
  have hr := run_make (P := Tryd.prog) w 23 26 i0 _ Tryd.underlying23 hi hz0 kl kc n n (by omega) (Int.le_refl _) (by rw [hz2]; omega) (by omega)
  rw [hz1] at hr
  exact hr

/-- What becomes of a file, turned. -/
def tw (wh : Int) : Int := if wh = 2 then 3 else if wh = 3 then 2 else wh

theorem tw_trc {c : Ch} (h : 1 ≤ c.1 ∧ c.1 ≤ 3) : trc c = (tw c.1, c.2.1, trn c.2.2) := by
  obtain ⟨wh, p, l⟩ := c
  unfold trc tw
  simp only at h ⊢
  congr 1
  by_cases h2 : wh = 2
  · rw [if_neg (by omega), if_pos h2]; omega
  · by_cases h3 : wh = 3
    · rw [if_neg (by omega), if_neg h2, if_pos h3]; omega
    · rw [if_pos (by omega), if_neg h2, if_neg h3]; omega

set_option maxHeartbeats 400000 in
theorem turnWhat (wh : Int) (w : World) : Calls Tryd.prog 30 #[.int .i64 wh] w fun e w' => e = .returned (.int .i64 (tw wh)) ∧ w' = w := by
  have E : Hid (∀ x, tw wh = x → Ending.returned (.int .i64 x) = .returned (.int .i64 (tw wh))) := fun x h => by rw [h]
  by_cases h2 : wh = 2
  · go_enter Tryd.func30, Tryd.ntmps30
    go_wp2
    go_ret
    exact ⟨E.out _ (by simp [tw, h2]), rfl⟩
  · by_cases h3 : wh = 3
    · go_enter Tryd.func30, Tryd.ntmps30
      go_wp2
      go_ret
      exact ⟨E.out _ (by simp [tw, h3]), rfl⟩
    · go_enter Tryd.func30, Tryd.ntmps30
      go_wp2
      go_ret
      exact ⟨E.out _ (by simp [tw, h2, h3]), rfl⟩

/-- The patch turned, or nothing. -/
def tOfP (p : List Ch) : List Ch := if (kf p).2 = 0 then trP p else []

set_option maxRecDepth 100000 in
set_option maxHeartbeats 4000000 in
theorem patchTurn (a : Option Addr) (l : List Ch) (ca : Nat) (w : World) (ha : Chs w a l) (hm : l.length ≤ maxLen) (hml : ∀ c ∈ l, c.2.2.length ≤ maxLen) (hms : ∀ c ∈ l, ∀ h ∈ c.2.2, h.2.2.length ≤ maxLen) :
    Calls Tryd.prog 11 #[.slice a l.length ca] w fun e w' => ∃ a' c', e = .returned (.tuple #[.slice a' (tOfP l).length c', errV (kf l).2]) ∧ Below w.heap.size w w' ∧ Chs w' a' (tOfP l) ∧ (tOfP l).length ≤ c' := by
  have hck := patchCheck a l ca w ha hm hml hms
  by_cases hf0 : (kf l).2 = 0
  · obtain ⟨h16, _, hone⟩ := kf_zero hf0
    have hT : tOfP l = trP l := by unfold tOfP; rw [if_pos hf0]
    rw [hf0, errV_zero] at hck
    rw [hf0, errV_zero, hT]
    have hTl : (trP l).length = l.length := by unfold trP; rw [List.length_map]
    rw [hTl]
    obtain ⟨k0, hk0⟩ : ∃ k0, (kf l).1 = k0 := ⟨_, rfl⟩
    rw [hk0] at hck
    obtain ⟨n, hn⟩ : ∃ n, l.length = n := ⟨_, rfl⟩
    rw [hn] at h16 hck ⊢
    have HN : Hid (l.length = n) := hn
    have HTL : Hid ((trP l).length = n) := by rw [← hn]; exact hTl
    have HONE : Hid (∀ c ∈ l, cOne c = 0) := hone
    have HA0 : Hid (Chs w a l) := ha
    have hmk := fun w => run_make_changes .i64 .i64 n (by omega) w
    clear hn ha hone hm hml hms hT hTl hf0 hk0
    go_enter Tryd.func11, Tryd.ntmps11
    go_wp2_with (go_at_call 23; refine hck.mono ?_)
    rintro e w0 ⟨rfl, hb0⟩
    clear hck
    have HA : Hid (Chs w0 a l) := HA0.out.below hb0
    have HB00 : Hid (Below w.heap.size w w0) := hb0
    clear HA0 hb0
    obtain ⟨B, hB⟩ : ∃ B, w0.heap.size = B := ⟨_, rfl⟩
    have HB : Hid (w0.heap.size = B) := hB
    go_wp2
    clear hmk
    go_loopw [24] (fun i w1 => ∃ k : Nat, k ≤ n ∧ i = .int .i64 k ∧ Below B w0 w1 ∧ CRow w1 B n k (trP l)) (fun i _ => n - (intOf i).toNat)
    case atStart =>
      refine ⟨0, Nat.zero_le _, rfl, (Below.refl _ _).alloc (by rw [hB]; exact Nat.le_refl _) _, ?_⟩
      subst hB
      exact ⟨_, heap_alloc_new w0 _, size_madeCells _ _, patC_made n, fun j hj => absurd hj (Nat.not_lt_zero _)⟩
    case round =>
      clear hB
      obtain ⟨k, hk, rfl, hbl, hrow⟩ := hrel
      by_cases hlt : k < n
      · have ha := HA.out
        have hkl : k < l.length := by rw [HN.out]; exact hlt
        obtain ⟨b, off, rfl⟩ := ha.addr hkl
        obtain ⟨ah, ch, hc0, hc1, hc2, hst, _⟩ := ha.at hkl
        clear ha
        have hb' : Below w0.heap.size w0 wr := by rw [HB.out]; exact hbl
        replace hc0 := cell_later hb' hc0
        replace hc1 := cell_later hb' hc1
        replace hc2 := cell_later hb' hc2
        replace hst := hst.below hb'
        have ho := HONE.out _ (mem_getDc hkl)
        obtain ⟨o1, o2, o3, o4⟩ := cOne_zero ho
        have hgt : (trP l).getD k cz = trc (l.getD k cz) := by simp [trP, hkl]
        rw [tw_trc o1] at hgt
        obtain ⟨wh, hw⟩ : ∃ x, (l.getD k cz).1 = x := ⟨_, rfl⟩
        obtain ⟨p, hp⟩ : ∃ p, (l.getD k cz).2.1 = p := ⟨_, rfl⟩
        obtain ⟨hs, hhs⟩ : ∃ hs, (l.getD k cz).2.2 = hs := ⟨_, rfl⟩
        rw [hw, hp, hhs] at hgt
        rw [hw] at hc0
        rw [hp] at hc1 o2
        rw [hhs] at hc2 hst o3
        have HGG : Hid ((trP l).getD k cz = (tw wh, p, trn hs)) := hgt
        have hpl : p.size ≤ 20 := by rw [Lib.size_eq]; exact pf_zero o2
        have HCL := fun w => clone p w (by omega)
        have hb0 := below_alloc wr (.cells #[.int .i64 wh, .string p, .slice ah hs.length ch] 26)
        have htu := turn_ok ah hs ch _ (hst.below hb0) o3
        have hrow1 := hrow.below hb0
        have hbl1 := hbl.trans (hb0.mono (by have := hbl.size; have := HB.out; omega))
        have htl : (trn hs).length = hs.length := by simp [trn]
        obtain ⟨q, hq⟩ : ∃ q, hs.length = q := ⟨_, rfl⟩
        rw [hq] at hc2 htu hrow1 hbl1 hb0 htl
        have HQ : Hid ((trn hs).length = q) := htl
        have HROW1 : Hid (CRow (wr.alloc (.cells #[.int .i64 wh, .string p, .slice ah q ch] 26)) B n k (trP l)) := hrow1
        have HBL1 : Hid (Below B w0 (wr.alloc (.cells #[.int .i64 wh, .string p, .slice ah q ch] 26))) := hbl1
        clear hp hhs hw hb' hkl hq htl hgt o1 o2 o3 o4 ho hst hrow hbl hrow1 hbl1 hb0 hpl
        go_wp2_with (go_at_call 29; refine htu.mono ?_)
        rintro e W1 ⟨BH, rfl, hb1, hks1⟩
        obtain ⟨d0, d1, d2⟩ := cells_later hb1
        have hrow1 := HROW1.out.below hb1
        have hbl1 := HBL1.out.trans (hb1.mono (by have := HROW1.out.lt; omega))
        clear htu hb1 HROW1 HBL1
        have hlt1 := hrow1.lt
        obtain ⟨v0, y0⟩ := hrow1.any (i := k * 3) (by omega)
        obtain ⟨v1, y1⟩ := hrow1.any (i := k * 3 + 1) (by omega)
        obtain ⟨v2, y2⟩ := hrow1.any (i := k * 3 + 2) (by omega)
        have hdr : Below W1.heap.size W1 W1.drew := ⟨rfl, rfl, rfl, Nat.le_refl _, fun _ _ => rfl⟩
        have KS : Hid (∀ w2, Below W1.drew.heap.size W1.drew w2 → Hks w2 (some ⟨BH, 0, none⟩) (trn hs)) := fun w2 h => (hks1.below hdr).below h
        have KD : Hid (∀ w2, Below W1.drew.heap.size W1.drew w2 → w2.cell? ⟨wr.heap.size, 0, none⟩ = some (.int .i64 wh) ∧ w2.cell? ⟨wr.heap.size, 1, none⟩ = some (.string p)) := fun w2 h => ⟨cell_later h d0, cell_later h d1⟩
        have KY : Hid (∀ w2, Below W1.drew.heap.size W1.drew w2 → w2.cell? ⟨B, k * 3, none⟩ = some v0 ∧ w2.cell? ⟨B, k * 3 + 1, none⟩ = some v1 ∧ w2.cell? ⟨B, k * 3 + 2, none⟩ = some v2) := fun w2 h => ⟨cell_later h y0, cell_later h y1, cell_later h y2⟩
        have KR : Hid (∀ w2, Below W1.drew.heap.size W1.drew w2 → CRow w2 B n k (trP l)) := fun w2 h => (hrow1.below hdr).below h
        have KB : Hid (∀ w2, Below W1.drew.heap.size W1.drew w2 → Below B w0 w2) := fun w2 h => hbl1.trans ((hdr.trans h).mono (by omega))
        have hbp : Below W1.drew.heap.size W1.drew W1.drew := Below.refl _ _
        clear y0 y1 y2 hks1 hrow1 hbl1 hc0 hc1 hc2 hdr hlt1 d2
        go_wp2
        go_region_with (first
          | (go_at_call 31; refine (HCL _).mono ?_; rintro e w2 ⟨rfl, hb2⟩; replace hbp := hbp.trans (hb2.mono hbp.size); obtain ⟨d0, d1⟩ := KD.out _ hbp; obtain ⟨y0, y1, y2⟩ := KY.out _ hbp; have f0 := (KR.out _ hbp).frozen (k * 3); have f1 := (KR.out _ hbp).frozen (k * 3 + 1); have f2 := (KR.out _ hbp).frozen (k * 3 + 2))
          | (go_at_call 30; refine (turnWhat wh _).mono ?_; rintro e w2 ⟨rfl, hw2⟩; rw [hw2]))
        all_goals
          have hset := (KR.out _ hbp).set (ch := q) hlt HGG.out (KS.out _ hbp) (by rw [HQ.out]; exact Nat.le_refl _)
          rw [HQ.out] at hset
          have hbx := KB.out _ hbp
          clear d0 d1 y0 y1 y2 f0 f1 f2 KS KD KY KR KB hbp HCL
          go_wp2
          go_roundw
          case rel => exact ⟨k + 1, by omega, by go_num, ((hbx.setCell (Nat.le_refl _) _).setCell (Nat.le_refl _) _).setCell (Nat.le_refl _) _, hset⟩
          case measure => simp [intOf]; omega
      · go_wp2
        go_ret2
        obtain rfl : k = n := by omega
        have hlen := HTL.out
        have hb := HB00.out.trans (hbl.mono (by have := HB.out; have := HB00.out.size; omega))
        refine ⟨some ⟨B, 0, none⟩, k, rfl, hb, ?_, Nat.le_refl _⟩
        rw [← hlen] at hrow
        exact hrow.chs
  · have hT : tOfP l = [] := by unfold tOfP; rw [if_neg hf0]
    rw [hT]
    rw [errV_not hf0] at hck
    rw [errV_not hf0]
    obtain ⟨f, hff⟩ : ∃ f, (kf l).2 = f := ⟨_, rfl⟩
    obtain ⟨k0, hk0⟩ : ∃ f, (kf l).1 = f := ⟨_, rfl⟩
    rw [hff, hk0] at hck
    rw [hff]
    obtain ⟨n, hn⟩ : ∃ n, l.length = n := ⟨_, rfl⟩
    rw [hn] at hck ⊢
    clear ha hm hml hms hf0 hT hff hk0 hn
    go_enter Tryd.func11, Tryd.ntmps11
    go_wp2_with (go_at_call 23; refine hck.mono ?_)
    rintro e w0 ⟨rfl, hb0⟩
    clear hck
    go_wp2
    go_ret2
    exact ⟨none, 0, rfl, hb0, Chs.nil _ _, Nat.le_refl _⟩

end Go.Proofs.YtnkdmgekpajfhaeDoor
