/-
  Rows of changes that a call has made and lengthens, each change with hunks that stand whatever becomes of the row. Series of patches as they lie in memory; the walk of the comparison of two of the same; rows of patches that a call has made and lengthens. What lay in memory lies there still; a patch of one change, hunks of one, as blocks that a call has made.
-/
import Derived.Test.YtnkdmgekpajfhadGreatDoorChs
import Derived.Test.YtnkdmgekpajfhadGreatDoorXy
import Derived.Lib.SmallJoins
import Derived.Deep.RegionWith

namespace Go.Proofs.YtnkdmgekpajfhadGreatDoor
open Go.RowKit Dist

theorem Tryz.infoChange : (Tryz.prog.info? 40).map (fun i => (i.zero, i.size, i.bytes)) = some (some (.agg #[.int .i64 0, .string ByteArray.empty, .slice none 0 0]), 3, 48) := by kernel_rfl

/-- A world grown: what lay there before lies there, but for one block. -/
def Gr (w w' : World) (r : Option Nat) : Prop := w.heap.size ≤ w'.heap.size ∧ ∀ k, k < w.heap.size → some k ≠ r → w'.heap[k]? = w.heap[k]?

theorem Gr.refl (w : World) (r : Option Nat) : Gr w w r := ⟨Nat.le_refl _, fun _ _ _ => rfl⟩
theorem Gr.of_below {w w1 w2 : World} {r : Option Nat} (hb : Below w.heap.size w w1) (h : Gr w1 w2 r) : Gr w w2 r := by
  refine ⟨Nat.le_trans hb.size h.1, fun k hk hr => ?_⟩
  rw [h.2 k (Nat.lt_of_lt_of_le hk hb.size) hr]
  cases e : w.heap[k]? with
  | none => rw [Array.getElem?_eq_getElem hk] at e; cases e
  | some o => exact blk_below hb hk e
theorem Gr.of_grown {w w1 w2 : World} {r r' : Option Nat} (hg : w.grownBy w1 r) (hr : r' = r ∨ r' = some w.heap.size) (h : Gr w1 w2 r') : Gr w w2 r := by
  refine ⟨Nat.le_trans hg.size h.1, fun k hk hk2 => ?_⟩
  rw [h.2 k (Nat.lt_of_lt_of_le hk hg.size) ?_, hg.block k hk hk2]
  rcases hr with e | e
  · rw [e]; exact hk2
  · rw [e]; intro e2; have := Option.some.inj e2; omega

theorem Gr.cell {w w' : World} {r : Option Nat} (hg : Gr w w' r) {a : Addr} {v : Value} (h : w.cell? a = some v) (hne : some a.block ≠ r) : w'.cell? a = some v :=
  (World.cell?_of_block (hg.2 a.block (World.block_lt_of_cell? w a h) hne)).trans h

theorem Mks.gr {w w' : World} {g : Nat} {ms : List (Int × ByteArray)} {row : Option Nat} (h : Mks w (some ⟨g, 0, none⟩) ms) (hg : Gr w w' row) (hne : row ≠ some g) : Mks w' (some ⟨g, 0, none⟩) ms := by
  intro i hi
  obtain ⟨b, off, e, h1, h2⟩ := h i hi
  obtain rfl : g = b := by
    have := congrArg (fun o => o.map Addr.block) e
    simpa using this
  exact ⟨g, off, e, hg.cell h1 (fun e => hne e.symm), hg.cell h2 (fun e => hne e.symm)⟩

/-- Hunks that a call has made stand, whatever becomes of a block that lay there before. -/
theorem HOwn.gr {w w' : World} {B : Nat} {v : Value} {hs : List Hk} {row : Option Nat} (h : HOwn w B v hs) (hg : Gr w w' row) (hr : ∀ r, row = some r → r < B) : HOwn w' B v hs := by
  obtain ⟨xs, h1, h2⟩ := h
  refine ⟨xs, ⟨h1.1, ?_⟩, fun i hi => ?_⟩
  · rcases h1.2 with h0 | ⟨g, cap, cur, hv, hB, hh, r⟩
    · exact .inl h0
    · refine .inr ⟨g, cap, cur, hv, hB, ?_, r⟩
      have hlt : g < w.heap.size := by
        by_cases e : g < w.heap.size
        · exact e
        · rw [Array.getElem?_eq_none (by omega)] at hh; cases hh
      rw [hg.2 g hlt (fun e => by have := hr g e.symm; omega)]
      exact hh
  · obtain ⟨g1, c1, a1, a2, a3, a4, a5, a6, a7, a8⟩ := h2 i hi
    exact ⟨g1, c1, a1, a2, a3, a4, Nat.lt_of_lt_of_le a5 hg.1, a6.gr hg (fun e => by have := hr g1 e; omega), a7, a8⟩

/-- Changes as values of a row: hunks that stand whatever becomes of the row's block. -/
def CvS (w : World) (r : Option Nat) (xs : List Value) (l : List Ch) : Prop :=
  ∀ i, i < l.length → ∃ ah ch, xs[i * 3]? = some (.int .i64 (l.getD i cz).1) ∧ xs[i * 3 + 1]? = some (.string (l.getD i cz).2.1) ∧ xs[i * 3 + 2]? = some (.slice ah (l.getD i cz).2.2.length ch) ∧ (l.getD i cz).2.2.length ≤ ch ∧ ∀ w', Gr w w' r → Hks w' ah (l.getD i cz).2.2

/-- A row of changes that a call has made. -/
def DOwn (w : World) (B : Nat) (v : Value) (l : List Ch) : Prop := ∃ xs : List Value, w.ownsRow B 40 3 v l.length xs ∧ CvS w v.ownBlock xs l

theorem DOwn.zero (w : World) (B : Nat) : DOwn w B (.slice none 0 0) [] := ⟨[], World.ownsRow_nil w B _ _, fun _ hi => absurd hi (Nat.not_lt_zero _)⟩

theorem CvS.below {w w1 : World} {r : Option Nat} {xs : List Value} {l : List Ch} (h : CvS w r xs l) (hb : Below w.heap.size w w1) : CvS w1 r xs l := by
  intro i hi
  obtain ⟨ah, ch, a1, a2, a3, a4, a5⟩ := h i hi
  exact ⟨ah, ch, a1, a2, a3, a4, fun w' hg => a5 w' (hg.of_below hb)⟩

theorem DOwn.below {w w1 : World} {B : Nat} {v : Value} {l : List Ch} (h : DOwn w B v l) (hb : Below w.heap.size w w1) : DOwn w1 B v l := by
  obtain ⟨xs, h1, h2⟩ := h
  exact ⟨xs, own_later h1 hb, h2.below hb⟩

/-- A change more. -/
theorem DOwn.snoc {w w' : World} {B : Nat} {v v' : Value} {l : List Ch} {xs : List Value} {wh : Int} {p : ByteArray} {hs : List Hk} {ah : Option Addr} {ch : Nat}
    (hown : w.ownsRow B 40 3 v l.length xs) (h2 : CvS w v.ownBlock xs l)
    (hown' : w'.ownsRow B 40 3 v' (l.length + 1) (xs ++ [.int .i64 wh, .string p, .slice ah hs.length ch])) (hg : w.grownBy w' v.ownBlock) (hv : v'.ownBlock = v.ownBlock ∨ v'.ownBlock = some w.heap.size)
    (hc : hs.length ≤ ch) (hh : ∀ w2, Gr w w2 v.ownBlock → Hks w2 ah hs) : DOwn w' B v' (l ++ [(wh, p, hs)]) := by
  refine ⟨_, by rw [List.length_append]; exact hown', fun i hi => ?_⟩
  rw [List.length_append] at hi
  simp only [List.length_cons, List.length_nil, Nat.zero_add] at hi
  have hl := hown.1
  by_cases e : i < l.length
  · obtain ⟨g1, c1, a1, a2, a3, a4, a5⟩ := h2 i e
    have e2 : (l ++ [(wh, p, hs)]).getD i cz = l.getD i cz := by simp [List.getElem?_append, e]
    rw [e2, List.getElem?_append_left (by omega), List.getElem?_append_left (by omega), List.getElem?_append_left (by omega)]
    exact ⟨g1, c1, a1, a2, a3, a4, fun w2 hw2 => a5 w2 (hw2.of_grown hg hv)⟩
  · obtain rfl : i = l.length := by omega
    have e2 : (l ++ [(wh, p, hs)]).getD l.length cz = (wh, p, hs) := by simp
    rw [e2, List.getElem?_append_right (by omega), List.getElem?_append_right (by omega), List.getElem?_append_right (by omega), hl]
    refine ⟨ah, ch, by simp, by simp, by simp, hc, fun w2 hw2 => hh w2 (hw2.of_grown hg hv)⟩

theorem DOwn.chs {w : World} {B : Nat} {v : Value} {l : List Ch} (h : DOwn w B v l) : ∃ a cap, v = .slice a l.length cap ∧ Chs w a l ∧ l.length ≤ cap := by
  obtain ⟨xs, hown, h2⟩ := h
  rcases hown.2 with ⟨rfl, h0⟩ | ⟨g, cap, cur, rfl, hB, hh, hlc, _, hcs, ht⟩
  · have : l = [] := List.length_eq_zero_iff.1 h0
    subst this
    exact ⟨_, 0, rfl, Chs.nil _ _, Nat.le_refl _⟩
  · refine ⟨some ⟨g, 0, none⟩, cap, rfl, fun i hi => ?_, hlc⟩
    obtain ⟨ah, ch, a1, a2, a3, a4, a5⟩ := h2 i hi
    have hc : ∀ j, j < l.length * 3 → w.cell? ⟨g, j, none⟩ = xs[j]? := fun j hj => by
      rw [Lib.cell_of_heap hh, ← Array.getElem?_toList, ← ht, List.getElem?_take, if_pos hj]
    refine ⟨g, 0, ah, ch, rfl, ?_, ?_, ?_, a5 w (Gr.refl _ _), a4⟩
    · rw [Nat.zero_add, hc _ (by omega)]; exact a1
    · rw [Nat.zero_add, hc _ (by omega)]; exact a2
    · rw [Nat.zero_add, hc _ (by omega)]; exact a3

end Go.Proofs.YtnkdmgekpajfhadGreatDoor

namespace Go.Proofs.YtnkdmgekpajfhadGreatDoor
open Go.RowKit Dist

/-- Patches as they lie in memory. -/
def Srs (w : World) (a : Option Addr) (l : List (List Ch)) : Prop :=
  ∀ i : Nat, i < l.length → ∃ b off ac cc, a = some ⟨b, off, none⟩ ∧ w.cell? ⟨b, off + i, none⟩ = some (.slice ac (l.getD i []).length cc) ∧ Chs w ac (l.getD i [])

theorem Srs.below {w w' : World} {a : Option Addr} {l : List (List Ch)} (h : Srs w a l) (hb : Below w.heap.size w w') : Srs w' a l := by
  intro i hi
  obtain ⟨b, off, ac, cc, rfl, h1, h2⟩ := h i hi
  exact ⟨b, off, ac, cc, rfl, cell_later hb h1, h2.below hb⟩

theorem Srs.nil (w : World) (a : Option Addr) : Srs w a [] := fun _ hi => absurd hi (Nat.not_lt_zero _)

theorem Srs.addr {w : World} {a : Option Addr} {l : List (List Ch)} (h : Srs w a l) {i : Nat} (hi : i < l.length) : ∃ b off, a = some ⟨b, off, none⟩ := by
  obtain ⟨b, off, _, _, e, _⟩ := h i hi
  exact ⟨b, off, e⟩

theorem Srs.at {w : World} {b off : Nat} {l : List (List Ch)} (h : Srs w (some ⟨b, off, none⟩) l) {i : Nat} (hi : i < l.length) :
    ∃ ac cc, w.cell? ⟨b, off + i, none⟩ = some (.slice ac (l.getD i []).length cc) ∧ Chs w ac (l.getD i []) := by
  obtain ⟨b', off', ac, cc, e, h1, h2⟩ := h i hi
  simp only [Option.some.injEq, Addr.mk.injEq] at e
  obtain ⟨rfl, rfl, _⟩ := e
  exact ⟨ac, cc, h1, h2⟩

theorem mem_getDs {l : List (List Ch)} {k : Nat} (hk : k < l.length) : l.getD k [] ∈ l := by
  have e : l.getD k [] = l[k] := by simp [hk]
  rw [e]; exact List.getElem_mem _

set_option maxRecDepth 100000 in
set_option maxHeartbeats 2000000 in
theorem series_eq (a b : Option Addr) (l : List (List Ch)) (ca cb : Nat) (w : World) (ha : Srs w a l) (hb : Srs w b l) (hm : l.length ≤ maxLen) (hmp : ∀ p ∈ l, p.length ≤ maxLen) (hml : ∀ p ∈ l, ∀ c ∈ p, c.2.2.length ≤ maxLen) (hms : ∀ p ∈ l, ∀ c ∈ p, ∀ h ∈ c.2.2, h.2.2.length ≤ maxLen) :
    Calls Tryz.prog 19 #[.slice a l.length ca, .slice b l.length cb] w fun e w' => e = .returned (.bool true) ∧ Below w.heap.size w w' := by
  unfold maxLen at hm
  obtain ⟨n, hn⟩ : ∃ n, l.length = n := ⟨_, rfl⟩
  rw [hn] at hm ⊢
  have HN : Hid (l.length = n) := hn
  have HA : Hid (Srs w a l) := ha
  have HBB : Hid (Srs w b l) := hb
  have HM0 : Hid (∀ p ∈ l, p.length ≤ maxLen) := hmp
  have HM : Hid (∀ p ∈ l, ∀ c ∈ p, c.2.2.length ≤ maxLen) := hml
  have HMS : Hid (∀ p ∈ l, ∀ c ∈ p, ∀ h ∈ c.2.2, h.2.2.length ≤ maxLen) := hms
  clear hn ha hb hms hml hmp
  obtain ⟨B, hB⟩ : ∃ B, w.heap.size = B := ⟨_, rfl⟩
  have HB : Hid (w.heap.size = B) := hB
  rw [hB]
  clear hB
  go_enter Tryz.func19, Tryz.ntmps19
  go_wp2
  go_loopw [5] (fun i w1 => ∃ k : Nat, k ≤ n ∧ i = .int .i64 k ∧ Below B w w1) (fun i _ => n - (intOf i).toNat)
  case atStart => exact ⟨0, Nat.zero_le _, rfl, Below.refl _ _⟩
  case round =>
    obtain ⟨k, hk, rfl, hbl⟩ := hrel
    by_cases hlt : k < n
    · have ha := HA.out
      have hb := HBB.out
      have hkl : k < l.length := by rw [HN.out]; exact hlt
      obtain ⟨b1, o1, rfl⟩ := ha.addr hkl
      obtain ⟨b2, o2, rfl⟩ := hb.addr hkl
      obtain ⟨ah1, ch1, hc0, hs1⟩ := ha.at hkl
      obtain ⟨ah2, ch2, hd0, hs2⟩ := hb.at hkl
      clear ha hb
      have hb' : Below w.heap.size w wr := by rw [HB.out]; exact hbl
      have hdr : Below wr.heap.size wr wr.drew := ⟨rfl, rfl, rfl, Nat.le_refl _, fun _ _ => rfl⟩
      replace hc0 := cell_later hb' hc0
      replace hd0 := cell_later hb' hd0
      have hm0 := HM0.out _ (mem_getDs hkl)
      have hml := HM.out _ (mem_getDs hkl)
      have hms := HMS.out _ (mem_getDs hkl)
      obtain ⟨p, hp⟩ : ∃ p, l.getD k [] = p := ⟨_, rfl⟩
      rw [hp] at hc0 hd0 hs1 hs2 hm0 hml hms
      have hhe := patches_eq ah1 ah2 p ch1 ch2 wr.drew ((hs1.below hb').below hdr) ((hs2.below hb').below hdr) hm0 hml hms
      obtain ⟨q, hq⟩ : ∃ q, p.length = q := ⟨_, rfl⟩
      rw [hq] at hc0 hd0 hhe
      have hBw : B ≤ wr.heap.size := by have := hbl.size; have := HB.out; omega
      have KK : Hid (∀ w2, Below wr.drew.heap.size wr.drew w2 → Below B w w2) := fun w2 h => hbl.trans ((hdr.trans h).mono hBw)
      clear hp hml hms hm0 hb' hs1 hs2 hq hkl hdr
      go_wp2
      go_region_with (go_at_call 12; refine hhe.mono ?_; rintro e w2 ⟨rfl, hb2⟩)
      all_goals
        have hb3 := KK.out _ hb2
        clear hhe hb2 KK hc0 hd0 hbl
        go_wp2
        go_roundw
        case rel => exact ⟨k + 1, by omega, by go_num, hb3⟩
        case measure => simp [intOf]; omega
    · go_wp2
      go_ret
      exact ⟨rfl, hbl⟩

theorem Tryz.infoPatch : (Tryz.prog.info? 22).map (fun i => (i.zero, i.size, i.bytes)) = some (some (.slice none 0 0), 1, 24) := by kernel_rfl

/-- Patches as values of a row: changes that stand whatever becomes of the row's block. -/
def SvS (w : World) (r : Option Nat) (xs : List Value) (l : List (List Ch)) : Prop :=
  ∀ i, i < l.length → ∃ ac cc, xs[i]? = some (.slice ac (l.getD i []).length cc) ∧ (l.getD i []).length ≤ cc ∧ ∀ w', Gr w w' r → Chs w' ac (l.getD i [])

/-- A row of patches that a call has made. -/
def SOwn (w : World) (B : Nat) (v : Value) (l : List (List Ch)) : Prop := ∃ xs : List Value, w.ownsRow B 22 1 v l.length xs ∧ SvS w v.ownBlock xs l

theorem SOwn.zero (w : World) (B : Nat) : SOwn w B (.slice none 0 0) [] := ⟨[], World.ownsRow_nil w B _ _, fun _ hi => absurd hi (Nat.not_lt_zero _)⟩

theorem SvS.below {w w1 : World} {r : Option Nat} {xs : List Value} {l : List (List Ch)} (h : SvS w r xs l) (hb : Below w.heap.size w w1) : SvS w1 r xs l := by
  intro i hi
  obtain ⟨ac, cc, a1, a2, a3⟩ := h i hi
  exact ⟨ac, cc, a1, a2, fun w' hg => a3 w' (hg.of_below hb)⟩

theorem SOwn.below {w w1 : World} {B : Nat} {v : Value} {l : List (List Ch)} (h : SOwn w B v l) (hb : Below w.heap.size w w1) : SOwn w1 B v l := by
  obtain ⟨xs, h1, h2⟩ := h
  exact ⟨xs, own_later h1 hb, h2.below hb⟩

/-- A patch more. -/
theorem SOwn.snoc {w w' : World} {B : Nat} {v v' : Value} {l : List (List Ch)} {xs : List Value} {p : List Ch} {ac : Option Addr} {cc : Nat}
    (hown : w.ownsRow B 22 1 v l.length xs) (h2 : SvS w v.ownBlock xs l)
    (hown' : w'.ownsRow B 22 1 v' (l.length + 1) (xs ++ [.slice ac p.length cc])) (hg : w.grownBy w' v.ownBlock) (hv : v'.ownBlock = v.ownBlock ∨ v'.ownBlock = some w.heap.size)
    (hc : p.length ≤ cc) (hh : ∀ w2, Gr w w2 v.ownBlock → Chs w2 ac p) : SOwn w' B v' (l ++ [p]) := by
  refine ⟨_, by rw [List.length_append]; exact hown', fun i hi => ?_⟩
  rw [List.length_append] at hi
  simp only [List.length_cons, List.length_nil, Nat.zero_add] at hi
  have hl := hown.1
  by_cases e : i < l.length
  · obtain ⟨g1, c1, a1, a2, a3⟩ := h2 i e
    have e2 : (l ++ [p]).getD i [] = l.getD i [] := by simp [List.getElem?_append, e]
    rw [e2, List.getElem?_append_left (by omega)]
    exact ⟨g1, c1, a1, a2, fun w2 hw2 => a3 w2 (hw2.of_grown hg hv)⟩
  · obtain rfl : i = l.length := by omega
    have e2 : (l ++ [p]).getD l.length [] = p := by simp
    rw [e2, List.getElem?_append_right (by omega), show l.length - xs.length = 0 by omega]
    exact ⟨ac, cc, by simp, hc, fun w2 hw2 => hh w2 (hw2.of_grown hg hv)⟩

theorem SOwn.slc {w : World} {B : Nat} {v : Value} {l : List (List Ch)} (h : SOwn w B v l) : ∃ a n c, v = .slice a n c := by
  obtain ⟨xs, h1, _⟩ := h
  rcases h1.2 with ⟨h0, _⟩ | ⟨g, cap, cur, hv, _⟩
  · exact ⟨_, _, _, h0⟩
  · exact ⟨_, _, _, hv⟩

theorem SOwn.srs {w : World} {B : Nat} {v : Value} {l : List (List Ch)} (h : SOwn w B v l) : ∃ a cap, v = .slice a l.length cap ∧ Srs w a l ∧ l.length ≤ cap := by
  obtain ⟨xs, hown, h2⟩ := h
  rcases hown.2 with ⟨rfl, h0⟩ | ⟨g, cap, cur, rfl, hB, hh, hlc, _, hcs, ht⟩
  · have : l = [] := List.length_eq_zero_iff.1 h0
    subst this
    exact ⟨_, 0, rfl, Srs.nil _ _, Nat.le_refl _⟩
  · refine ⟨some ⟨g, 0, none⟩, cap, rfl, fun i hi => ?_, hlc⟩
    obtain ⟨ac, cc, a1, a2, a3⟩ := h2 i hi
    have hc : ∀ j, j < l.length → w.cell? ⟨g, j, none⟩ = xs[j]? := fun j hj => by
      rw [Lib.cell_of_heap hh, ← Array.getElem?_toList, ← ht, List.getElem?_take, if_pos (by omega)]
    refine ⟨g, 0, ac, cc, rfl, ?_, a3 w (Gr.refl _ _)⟩
    rw [Nat.zero_add, hc _ hi]; exact a1

end Go.Proofs.YtnkdmgekpajfhadGreatDoor

namespace Go.Proofs.YtnkdmgekpajfhadGreatDoor
open Go.RowKit Dist

/-- What lay there lies there. -/
def Ag (w w' : World) : Prop := ∀ k, k < w.heap.size → w'.heap[k]? = w.heap[k]?

theorem Ag.of_below {w w' : World} (h : Below w.heap.size w w') : Ag w w' := fun k hk => by
  cases e : w.heap[k]? with
  | none => rw [Array.getElem?_eq_getElem hk] at e; cases e
  | some o => exact blk_below h hk e

theorem Ag.gr {w w1 w2 : World} {r : Option Nat} (h : Ag w w1) (hs : w.heap.size ≤ w1.heap.size) (hg : Gr w1 w2 r) (hr : ∀ x, r = some x → w.heap.size ≤ x) : Ag w w2 := fun k hk =>
  (hg.2 k (Nat.lt_of_lt_of_le hk hs) (fun e => by have := hr k e.symm; omega)).trans (h k hk)

theorem Ag.cell {w w' : World} (h : Ag w w') {a : Addr} {v : Value} (hc : w.cell? a = some v) : w'.cell? a = some v :=
  (World.cell?_of_block (h a.block (World.block_lt_of_cell? w a hc))).trans hc

theorem Mks.ag {w w' : World} {a : Option Addr} {ms : List (Int × ByteArray)} (h : Mks w a ms) (hg : Ag w w') : Mks w' a ms := by
  intro i hi
  obtain ⟨b, off, e, h1, h2⟩ := h i hi
  exact ⟨b, off, e, hg.cell h1, hg.cell h2⟩

theorem Hks.ag {w w' : World} {a : Option Addr} {hs : List Hk} (h : Hks w a hs) (hg : Ag w w') : Hks w' a hs := by
  intro i hi
  obtain ⟨b, off, am, cm, e, h1, h2, h3, h4, h5⟩ := h i hi
  exact ⟨b, off, am, cm, e, hg.cell h1, hg.cell h2, hg.cell h3, h4.ag hg, h5⟩

theorem hks_block {w : World} {D : Nat} {o n : Int} {am : Option Addr} {ms : List (Int × ByteArray)} {cm : Nat} {t : TypeId} {fr : Nat × Nat} (h : w.heap[D]? = some (.cells #[.int .i64 o, .int .i64 n, .slice am ms.length cm] t fr)) (hm : Mks w am ms) (hc : ms.length ≤ cm) : Hks w (some ⟨D, 0, none⟩) [(o, n, ms)] := by
  intro i hi
  obtain rfl : i = 0 := by simp at hi; omega
  have c0 := Lib.cell_of_heap h 0
  have c1 := Lib.cell_of_heap h 1
  have c2 := Lib.cell_of_heap h 2
  simp at c0 c1 c2
  exact ⟨D, 0, am, cm, rfl, c0, c1, c2, hm, hc⟩

theorem chs_block {w : World} {D : Nat} {wh : Int} {p : ByteArray} {ah : Option Addr} {hs : List Hk} {ch : Nat} {t : TypeId} {fr : Nat × Nat} (h : w.heap[D]? = some (.cells #[.int .i64 wh, .string p, .slice ah hs.length ch] t fr)) (hm : Hks w ah hs) (hc : hs.length ≤ ch) : Chs w (some ⟨D, 0, none⟩) [(wh, p, hs)] := by
  intro i hi
  obtain rfl : i = 0 := by simp at hi; omega
  have c0 := Lib.cell_of_heap h 0
  have c1 := Lib.cell_of_heap h 1
  have c2 := Lib.cell_of_heap h 2
  simp at c0 c1 c2
  exact ⟨D, 0, ah, ch, rfl, c0, c1, c2, hm, hc⟩

theorem Gr.block {w w' : World} {r : Option Nat} (hg : Gr w w' r) {k : Nat} {o : Obj} (h : w.heap[k]? = some o) (hne : r ≠ some k) : w'.heap[k]? = some o := by
  have hk : k < w.heap.size := by
    by_cases e : k < w.heap.size
    · exact e
    · rw [Array.getElem?_eq_none (by omega)] at h; cases h
  rw [hg.2 k hk (fun e => hne e.symm)]; exact h

end Go.Proofs.YtnkdmgekpajfhadGreatDoor
