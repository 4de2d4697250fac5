/-
  Files as they lie in memory, and as values in a row that a call has made. Walks of tree.checkFile and tree.Check: the fault of a file, the first fault of files. Walks of slices.Grow and slices.Concat at lists of files: lists of files behind one another. Rows of files that a call has made and fills; the walk of tree.Copy: the same files in memory of their own.
-/
import Derived.Test.YtnkdmgekpajfhadGreatDoorTrf
import Derived.Maps.AppendAt
import Derived.Lib.AppendZeros
import Derived.Laws.Cover1
import Derived.Deep.RegionWith

namespace Go.Proofs.YtnkdmgekpajfhadGreatDoor
open Go.RowKit

/-- Files as they lie in memory: a path and lines each. -/
def Fls (w : World) (a : Option Addr) (l : List Fl) : Prop :=
  ∀ i : Nat, i < l.length → ∃ b off am cm, a = some ⟨b, off, none⟩ ∧ w.cell? ⟨b, off + i * 2, none⟩ = some (.string (l.getD i fz).1) ∧ w.cell? ⟨b, off + i * 2 + 1, none⟩ = some (.slice am (l.getD i fz).2.length cm) ∧ Strs w am (l.getD i fz).2 ∧ (l.getD i fz).2.length ≤ cm

theorem Fls.below {w w' : World} {a : Option Addr} {l : List Fl} (h : Fls w a l) (hb : Below w.heap.size w w') : Fls w' a l := by
  intro i hi
  obtain ⟨b, off, am, cm, rfl, h1, h2, h3, h4⟩ := h i hi
  exact ⟨b, off, am, cm, rfl, cell_later hb h1, cell_later hb h2, h3.below hb, h4⟩

theorem Fls.nil (w : World) (a : Option Addr) : Fls w a [] := fun _ hi => absurd hi (Nat.not_lt_zero _)

theorem Fls.at {w : World} {b off : Nat} {l : List Fl} (h : Fls w (some ⟨b, off, none⟩) l) {i : Nat} (hi : i < l.length) :
    ∃ am cm, w.cell? ⟨b, off + i * 2, none⟩ = some (.string (l.getD i fz).1) ∧ w.cell? ⟨b, off + i * 2 + 1, none⟩ = some (.slice am (l.getD i fz).2.length cm) ∧ Strs w am (l.getD i fz).2 ∧ (l.getD i fz).2.length ≤ cm := by
  obtain ⟨b', off', am, cm, e, h1, h2, h3, h4⟩ := h i hi
  simp only [Option.some.injEq, Addr.mk.injEq] at e
  obtain ⟨rfl, rfl, _⟩ := e
  exact ⟨am, cm, h1, h2, h3, h4⟩

theorem Fls.addr {w : World} {a : Option Addr} {l : List Fl} (h : Fls w a l) {i : Nat} (hi : i < l.length) : ∃ b off, a = some ⟨b, off, none⟩ := by
  obtain ⟨b, off, am, cm, e, _⟩ := h i hi
  exact ⟨b, off, e⟩

/-- Files as values. -/
def Fvs (w : World) (xs : List Value) (l : List Fl) : Prop :=
  xs.length = l.length * 2 ∧ ∀ i : Nat, i < l.length → ∃ am cm, xs[i * 2]? = some (.string (l.getD i fz).1) ∧ xs[i * 2 + 1]? = some (.slice am (l.getD i fz).2.length cm) ∧ Strs w am (l.getD i fz).2 ∧ (l.getD i fz).2.length ≤ cm

theorem Fvs.below {w w' : World} {xs : List Value} {l : List Fl} (h : Fvs w xs l) (hb : Below w.heap.size w w') : Fvs w' xs l := by
  refine ⟨h.1, fun i hi => ?_⟩
  obtain ⟨am, cm, h1, h2, h3, h4⟩ := h.2 i hi
  exact ⟨am, cm, h1, h2, h3.below hb, h4⟩

theorem Fvs.nil (w : World) : Fvs w [] [] := ⟨rfl, fun _ hi => absurd hi (Nat.not_lt_zero _)⟩

theorem Fvs.append {w : World} {xs ys : List Value} {l m : List Fl} (h : Fvs w xs l) (h' : Fvs w ys m) : Fvs w (xs ++ ys) (l ++ m) := by
  obtain ⟨h1, h2⟩ := h
  obtain ⟨g1, g2⟩ := h'
  refine ⟨by rw [List.length_append, List.length_append, h1, g1]; omega, fun i hi => ?_⟩
  rw [List.length_append] at hi
  by_cases e : i < l.length
  · have e2 : (l ++ m).getD i fz = l.getD i fz := by simp [List.getElem?_append, e]
    rw [e2, List.getElem?_append_left (by omega), List.getElem?_append_left (by omega)]
    exact h2 i e
  · have e2 : (l ++ m).getD i fz = m.getD (i - l.length) fz := by simp [List.getElem?_append, e]
    rw [e2, List.getElem?_append_right (by omega), List.getElem?_append_right (by omega), h1, show i * 2 - l.length * 2 = (i - l.length) * 2 by omega, show i * 2 + 1 - l.length * 2 = (i - l.length) * 2 + 1 by omega]
    exact g2 _ (by omega)

theorem Fvs.one {w : World} {p : ByteArray} {ss : List ByteArray} {am : Option Addr} {cm : Nat} (h : Strs w am ss) (hc : ss.length ≤ cm) : Fvs w [.string p, .slice am ss.length cm] [(p, ss)] := by
  refine ⟨rfl, fun i hi => ?_⟩
  obtain rfl : i = 0 := by simpa using hi
  exact ⟨am, cm, rfl, rfl, h, hc⟩

/-- The values of files that lie in memory. -/
theorem Fls.vals {w : World} {a : Option Addr} {l : List Fl} (h : Fls w a l) : ∃ xs, Fvs w xs l ∧ ∀ j, j < l.length * 2 → ∃ b off, a = some ⟨b, off, none⟩ ∧ w.cell? ⟨b, off + j, none⟩ = xs[j]? := by
  cases a with
  | none =>
    have h0 : l = [] := by
      cases l with
      | nil => rfl
      | cons y r => obtain ⟨b, off, _, _, e, _⟩ := h 0 (by simp); cases e
    subst h0
    exact ⟨[], Fvs.nil _, fun j hj => absurd hj (by simp)⟩
  | some ad =>
    have hx : ∀ j, j < l.length * 2 → ∃ v, w.cell? ⟨ad.block, ad.off + j, none⟩ = some v ∧ ad.spot = none := fun j hj => by
      obtain ⟨b, off, am, cm, e, h1, h2, _⟩ := h (j / 2) (by omega)
      obtain rfl := Option.some.inj e
      rcases Nat.mod_two_eq_zero_or_one j with e | e
      · exact ⟨_, by rw [show j = j / 2 * 2 by omega]; exact h1, rfl⟩
      · exact ⟨_, by rw [show off + j = off + j / 2 * 2 + 1 by omega]; exact h2, rfl⟩
    have hg : ∀ j, j < l.length * 2 → w.cell? ⟨ad.block, ad.off + j, none⟩ = ((List.range (l.length * 2)).map fun j => (w.cell? ⟨ad.block, ad.off + j, none⟩).getD .nilIface)[j]? := fun j hj => by
      obtain ⟨v, hv, _⟩ := hx j hj
      rw [List.getElem?_map, List.getElem?_range hj, Option.map_some, hv]; rfl
    refine ⟨(List.range (l.length * 2)).map fun j => (w.cell? ⟨ad.block, ad.off + j, none⟩).getD .nilIface, ⟨by simp, fun i hi => ?_⟩, fun j hj => ?_⟩
    · obtain ⟨b, off, am, cm, e, h1, h2, h3, h4⟩ := h i hi
      obtain rfl := Option.some.inj e
      refine ⟨am, cm, ?_, ?_, h3, h4⟩
      · rw [← hg _ (by omega)]; exact h1
      · rw [← hg _ (by omega), ← Nat.add_assoc]; exact h2
    · obtain ⟨_, _, hs⟩ := hx j hj
      obtain ⟨b, off, sp⟩ := ad
      simp only at hs
      subst hs
      exact ⟨b, off, rfl, hg j hj⟩

theorem own_lies {B : Nat} {v : Value} {n : Nat} {xs : List Value} {w w' : World} {t : TypeId} {s : Nat} (h : w.ownsRow B t s v n xs) (hb : Below w.heap.size w w') : w'.ownsRow B t s v n xs := by
  refine ⟨h.1, ?_⟩
  rcases h.2 with h0 | ⟨g, cap, cur, hv, hB, hh, hr⟩
  · exact .inl h0
  · have hl : g < w.heap.size := by
      by_cases e : g < w.heap.size
      · exact e
      · rw [Array.getElem?_eq_none (by omega)] at hh; cases hh
    exact .inr ⟨g, cap, cur, hv, hB, blk_below hb hl hh, hr⟩

/-- A row of files that a call has made: files that lie in memory. -/
theorem fls_of_own {B : Nat} {v : Value} {l : List Fl} {xs : List Value} {w : World} (h : w.ownsRow B 83 2 v l.length xs) (hv : Fvs w xs l) : ∃ a cap, v = .slice a l.length cap ∧ Fls w a l ∧ l.length ≤ cap := by
  rcases h.2 with ⟨rfl, h0⟩ | ⟨g, cap, cur, rfl, hB, hh, hc, _, hcs, ht⟩
  · have : l = [] := List.length_eq_zero_iff.1 h0
    subst this
    exact ⟨_, 0, rfl, Fls.nil _ _, Nat.zero_le _⟩
  · refine ⟨some ⟨g, 0, none⟩, cap, rfl, fun i hi => ?_, hc⟩
    obtain ⟨am, cm, a1, a2, a3, a4⟩ := hv.2 i hi
    have hc : ∀ j, j < l.length * 2 → w.cell? ⟨g, j, none⟩ = xs[j]? := fun j hj => by
      rw [Lib.cell_of_heap hh, ← Array.getElem?_toList, ← ht, List.getElem?_take, if_pos hj]
    refine ⟨g, 0, am, cm, rfl, ?_, ?_, a3, a4⟩
    · rw [Nat.zero_add, hc _ (by omega)]; exact a1
    · rw [Nat.zero_add, hc _ (by omega)]; exact a2

theorem Tryz.infoFile : (Tryz.prog.info? 83).map (fun i => (i.zero, i.size, i.bytes)) = some (some (.agg #[.string ByteArray.empty, .slice none 0 0]), 2, 40) := by kernel_rfl

/-- Where a part of files lies. -/
def fa (a : Option Addr) (cap lo : Nat) : Option Addr := if cap = lo then a else a.map (·.add (lo * 2))

theorem run_files_from (a : Option Addr) (len cap lo : Nat) (h1 : lo ≤ len) (w : World) (l : Int) (hl : l = lo) : (Instr.slice 41 (.slice a len cap) (some (.int .i64 l)) none none).run Tryz.prog w = .ok (.slice (fa a cap lo) (len - lo) (cap - lo)) w := by
  obtain ⟨i0, hi0, hz0, hz1, hz2⟩ := info_parts Tryz.infoFile
  subst hl
  have hsz : ∀ w, (Go.sizeOf 83).run Tryz.prog w = .ok 2 w := fun w => by simp [Go.sizeOf, typeInfo, hi0, hz1]
  have b1 : (0 : Int) ≤ lo ∧ (lo : Int) ≤ len := by omega
  simp only [Instr.slice, Instr.sliceBounds, Instr.sliceBound, run_underlying Tryz.underlying41, Sem.run_bind, Sem.run_pure, Result.andThen_ok, asIntOf, b1, hsz, fa, if_true, and_self, Int.toNat_natCast]

theorem run_files_to (a : Option Addr) (len cap hi : Nat) (h2 : hi ≤ cap) (w : World) (h : Int) (hh : h = hi) : (Instr.slice 41 (.slice a len cap) none (some (.int .i64 h)) none).run Tryz.prog w = .ok (.slice (fa a cap 0) hi cap) w := by
  obtain ⟨i0, hi0, hz0, hz1, hz2⟩ := info_parts Tryz.infoFile
  subst hh
  have hsz : ∀ w, (Go.sizeOf 83).run Tryz.prog w = .ok 2 w := fun w => by simp [Go.sizeOf, typeInfo, hi0, hz1]
  have b2 : (0 : Int) ≤ hi ∧ (hi : Int) ≤ cap := by omega
  simp [Instr.slice, Instr.sliceBounds, Instr.sliceBound, run_underlying Tryz.underlying41, asIntOf, b2, hsz, fa]
  intro h; omega

theorem add_some (b off n : Nat) : (⟨b, off, none⟩ : Addr).add n = ⟨b, off + n, none⟩ := by
  unfold Addr.add
  by_cases h0 : n = 0
  · subst h0; rfl
  · simp [h0]

/-- A part of files, where it lies. -/
theorem Fls.part {w : World} {a : Option Addr} {l : List Fl} (h : Fls w a l) {cap : Nat} (hc : l.length ≤ cap) (lo hi : Nat) : Fls w (fa a cap lo) ((l.take hi).drop lo) := by
  intro i hi'
  rw [List.length_drop, List.length_take] at hi'
  obtain ⟨b, off, am, cm, rfl, h1, h2, h3, h4⟩ := h (lo + i) (by omega)
  have e2 : ((l.take hi).drop lo).getD i fz = l.getD (lo + i) fz := by
    simp [List.getElem?_drop, show lo + i < hi by omega]
  rw [e2]
  refine ⟨b, off + lo * 2, am, cm, ?_, ?_, ?_, h3, h4⟩
  · unfold fa
    rw [if_neg (by omega), Option.map_some, add_some]
  · rw [show off + lo * 2 + i * 2 = off + (lo + i) * 2 by omega]; exact h1
  · rw [show off + lo * 2 + i * 2 + 1 = off + (lo + i) * 2 + 1 by omega]; exact h2

theorem Fls.front {w : World} {a : Option Addr} {l : List Fl} (h : Fls w a l) {cap : Nat} (hc : l.length ≤ cap) (hi : Nat) : Fls w (fa a cap 0) (l.take hi) := by
  have := h.part hc 0 hi
  rwa [List.drop_zero] at this
theorem Fls.rest {w : World} {a : Option Addr} {l : List Fl} (h : Fls w a l) {cap : Nat} (hc : l.length ≤ cap) (lo : Nat) : Fls w (fa a cap lo) (l.drop lo) := by
  have := h.part hc lo l.length
  rwa [List.take_length] at this

end Go.Proofs.YtnkdmgekpajfhadGreatDoor

namespace Go.Proofs.YtnkdmgekpajfhadGreatDoor
open Go.RowKit

/-- The two cells of a new block, later. -/
theorem cells2_later {w w1 : World} {x y : Value} {t : TypeId} (hb : Below (w.alloc (.cells #[x, y] t)).heap.size (w.alloc (.cells #[x, y] t)) w1) : w1.cell? ⟨w.heap.size, 0, none⟩ = some x ∧ w1.cell? ⟨w.heap.size, 1, none⟩ = some y := by
  have h := blk_below hb (by simp) (heap_alloc_new w (.cells #[x, y] t))
  exact ⟨Lib.cell_of_heap h 0, Lib.cell_of_heap h 1⟩

set_option maxHeartbeats 1000000 in
theorem checkFile (p : ByteArray) (a : Option Addr) (ss : List ByteArray) (ca : Nat) (w : World) (ha : Strs w a ss) (hm : ss.length ≤ maxLen) :
    Calls Tryz.prog 122 #[.agg #[.string p, .slice a ss.length ca]] w fun e w' => e = .returned (errV (fOne (p, ss))) ∧ Below w.heap.size w w' := by
  have hb0 := below_alloc w (.cells #[.string p, .slice a ss.length ca] 83)
  have hpa := path_any p (w.alloc (.cells #[.string p, .slice a ss.length ca] 83))
  have HCK := fun w' (h : Strs w' a ss) => check_any a ss ca w' h hm
  have HB0 : Hid (Below w.heap.size w (w.alloc (.cells #[.string p, .slice a ss.length ca] 83))) := hb0
  have HA : Hid (Strs w a ss) := ha
  have E1 : Hid (pf p.data.toList ≠ 0 → fOne (p, ss) = pf p.data.toList) := fun h => fOne_path (x := (p, ss)) h
  have E2 : Hid (pf p.data.toList = 0 → fOne (p, ss) = lsf (bts ss)) := fun h => fOne_lines (x := (p, ss)) h
  obtain ⟨n, hn⟩ : ∃ n, ss.length = n := ⟨_, rfl⟩
  obtain ⟨g, hg⟩ : ∃ g, fOne (p, ss) = g := ⟨_, rfl⟩
  rw [hn] at hpa HCK HB0
  rw [hg] at E1 E2 ⊢
  rw [hn]
  clear ha hm hn hb0 hg
  by_cases h1 : pf p.data.toList = 0
  · rw [h1, errV_zero] at hpa
    have HG : Hid (g = lsf (bts ss)) := E2.out h1
    clear h1 E1 E2
    go_enter Tryz.func122, Tryz.ntmps122
    go_wp2_with (go_at_call 75; refine hpa.mono ?_)
    rintro e w1 ⟨rfl, hb1⟩
    obtain ⟨d0, d1⟩ := cells2_later hb1
    have hb1 := HB0.out.trans (hb1.mono HB0.out.size)
    have hck := HCK w1 (HA.out.below hb1)
    clear hpa HB0 HCK
    go_wp2_with (go_at_call 142; refine hck.mono ?_)
    rintro e w2 ⟨rfl, rfl⟩
    go_wp2
    go_ret
    exact ⟨ret_v (by rw [HG.out]; rfl), hb1⟩
  · have HG : Hid (g = pf p.data.toList) := E1.out h1
    rw [errV_not h1] at hpa
    have H1 : Hid (pf p.data.toList ≠ 0) := h1
    clear h1 E1 E2 HCK
    go_enter Tryz.func122, Tryz.ntmps122
    go_wp2_with (go_at_call 75; refine hpa.mono ?_)
    rintro e w1 ⟨rfl, hb1⟩
    have hb1 := HB0.out.trans (hb1.mono HB0.out.size)
    clear hpa HB0
    go_wp2
    go_ret
    refine ⟨ret_v ?_, hb1⟩
    rw [HG.out, errV_not H1.out]; rfl

theorem getD_eta2 (l : List Fl) (k : Nat) {p : ByteArray} {ss : List ByteArray} (h1 : (l.getD k fz).1 = p) (h2 : (l.getD k fz).2 = ss) : l.getD k fz = (p, ss) := by
  rw [← h1, ← h2]

set_option maxRecDepth 100000 in
set_option maxHeartbeats 1000000 in
theorem treeCheck (a : Option Addr) (l : List Fl) (ca : Nat) (w : World) (ha : Fls w a l) (hm : l.length ≤ maxLen) (hms : ∀ x ∈ l, x.2.length ≤ maxLen) :
    Calls Tryz.prog 95 #[.slice a l.length ca] w fun e w' => e = .returned (.tuple #[.int .i64 (tf l).1, errV (tf l).2]) ∧ Below w.heap.size w w' := by
  unfold maxLen at hm
  obtain ⟨n, hn⟩ : ∃ n, l.length = n := ⟨_, rfl⟩
  rw [hn] at hm ⊢
  by_cases hbig : 8 < (n : Int)
  · have he : Hid (tf l = (0, 3)) := tf_big (by rw [hn]; omega)
    clear hn ha hms
    go_enter Tryz.func95, Tryz.ntmps95
    go_wp2
    go_ret2
    refine ⟨?_, Below.refl _ _⟩
    rw [he.out]; rfl
  · have HN : Hid (l.length = n) := hn
    have HL : Hid (l.length ≤ 8) := by show l.length ≤ 8; omega
    have HA : Hid (Fls w a l) := ha
    have HM : Hid (∀ x ∈ l, x.2.length ≤ maxLen) := hms
    clear hn ha hms
    obtain ⟨B, hB⟩ : ∃ B, w.heap.size = B := ⟨_, rfl⟩
    have HB : Hid (w.heap.size = B) := hB
    rw [hB]
    clear hB
    go_enter Tryz.func95, Tryz.ntmps95
    go_wp2
    go_loopw [13] (fun i w1 => ∃ k : Nat, k ≤ n ∧ i = .int .i64 k ∧ Below B w w1 ∧ ∀ j : Nat, j < k → fAt l j = 0) (fun i _ => n - (intOf i).toNat)
    case atStart => exact ⟨0, Nat.zero_le _, rfl, Below.refl _ _, by simp⟩
    case round =>
      obtain ⟨k, hk, rfl, hbl, hall⟩ := hrel
      have HALL : Hid (∀ j : Nat, j < k → fAt l j = 0) := hall
      clear hall
      by_cases hlt : k < n
      · have ha := HA.out
        have hkl : k < l.length := by rw [HN.out]; exact hlt
        obtain ⟨b, off, rfl⟩ := ha.addr hkl
        obtain ⟨am, cm, hc1, hc2, hst, _⟩ := ha.at hkl
        have hb' : Below w.heap.size w wr := by rw [HB.out]; exact hbl
        replace hc1 := cell_later hb' hc1
        replace hc2 := cell_later hb' hc2
        replace hst := hst.below hb'
        have hml := HM.out _ (mem_getDf hkl)
        have HFA : Hid (fAt l k ≠ 0 → tf l = (k, fAt l k)) := tf_at HL.out k HALL.out hkl
        have F1 : Hid (fOne (l.getD k fz) ≠ 0 → fAt l k = fOne (l.getD k fz)) := fAt_one
        have F2 : Hid (fOne (l.getD k fz) = 0 → 0 < k → bl (l.getD (k - 1) fz).1 (l.getD k fz).1 = false → fAt l k = 2) := fAt_falls
        have F3 : Hid (fOne (l.getD k fz) = 0 → (0 < k → bl (l.getD (k - 1) fz).1 (l.getD k fz).1 = true) → fAt l k = 0) := fAt_ok
        obtain ⟨p, hp⟩ : ∃ p, (l.getD k fz).1 = p := ⟨_, rfl⟩
        obtain ⟨ss, hss⟩ : ∃ ss, (l.getD k fz).2 = ss := ⟨_, rfl⟩
        rw [getD_eta2 l k hp hss] at F1 F2 F3
        rw [hp] at hc1
        rw [hss] at hc2 hst hml
        have hb0 := below_alloc wr (.cells #[.string p, .slice am ss.length cm] 83)
        have hck := checkFile p am ss cm _ (hst.below hb0) hml
        have HB0 : Hid (Below wr.heap.size wr (wr.alloc (.cells #[.string p, .slice am ss.length cm] 83))) := hb0
        have hszB : B ≤ wr.heap.size := by have := hbl.size; have := HB.out; omega
        obtain ⟨q, hq⟩ : ∃ q, ss.length = q := ⟨_, rfl⟩
        rw [hq] at hc2 hck HB0
        clear hst hml hb0 hq hp hss
        by_cases h1 : fOne (p, ss) = 0
        · rw [h1, errV_zero] at hck
          have H1 : Hid (fOne (p, ss) = 0) := h1
          clear h1 F1
          by_cases hk0 : 0 < (k : Int)
          · obtain ⟨m, rfl⟩ : ∃ m, k = m + 1 := ⟨k - 1, by omega⟩
            obtain ⟨am2, cm2, hd1, _, _, _⟩ := ha.at (i := m) (by omega)
            replace hd1 := cell_later hb' hd1
            rw [Nat.add_sub_cancel] at F2 F3
            obtain ⟨p2, hp2⟩ : ∃ p2, (l.getD m fz).1 = p2 := ⟨_, rfl⟩
            rw [hp2] at hd1 F2 F3
            have hwm : IntKind.i64.wrap (m : Int) = m := by rw [IntKind.wrap_i64]; omega
            have hmn : m < n := by omega
            clear ha hp2 hkl hk0
            go_wp2_with (go_at_call 122; refine hck.mono ?_; rintro e w1 ⟨rfl, hb1⟩; obtain ⟨d0, d1⟩ := cells2_later hb1; have hb1 := HB0.out.trans (hb1.mono HB0.out.size); replace hd1 := cell_later hb1 hd1; have hb1 := hbl.trans (hb1.mono hszB); clear hck HB0 hbl hc1 hc2 d1 hb')
            by_cases h2 : Op.bytesLess p2.toList p.toList = true
            · have HG : Hid (fAt l (m + 1) = 0) := F3.out H1.out (fun _ => h2)
              go_quiet (fail)
              go_wp2
              go_roundw
              case rel => exact ⟨m + 1 + 1, by omega, by go_num, below_drawn hb1, fun j hj => by
                by_cases e : j = m + 1
                · rw [e]; exact HG.out
                · exact HALL.out j (by omega)⟩
              case measure => simp [intOf]; omega
            · have h2 : Op.bytesLess p2.toList p.toList = false := by simpa using h2
              have HG : Hid (fAt l (m + 1) = 2) := F2.out H1.out (by omega) h2
              go_quiet (fail)
              go_wp2
              go_ret2
              refine ⟨?_, below_drawn hb1⟩
              rw [HFA.out (by rw [HG.out]; decide), HG.out]; rfl
          · have HG : Hid (fAt l k = 0) := F3.out H1.out (fun h => by omega)
            have hkd : decide (0 < k) = false := decide_eq_false (by omega)
            clear ha hkl
            go_wp2_with (go_at_call 122; refine hck.mono ?_; rintro e w1 ⟨rfl, hb1⟩; have hb1 := HB0.out.trans (hb1.mono HB0.out.size); have hb1 := hbl.trans (hb1.mono hszB); clear hck HB0 hbl hc1 hc2 hb')
            go_quiet (fail)
            go_wp2
            go_roundw
            case rel => exact ⟨k + 1, by omega, by go_num, below_drawn hb1, fun j hj => by
              by_cases e : j = k
              · rw [e]; exact HG.out
              · exact HALL.out j (by omega)⟩
            case measure => simp [intOf]; omega
        · have HG : Hid (fAt l k = fOne (p, ss)) := F1.out h1
          rw [errV_not h1] at hck
          have H1 : Hid (fOne (p, ss) ≠ 0) := h1
          clear h1 ha F1 F2 F3 hkl
          go_wp2_with (go_at_call 122; refine hck.mono ?_)
          rintro e w1 ⟨rfl, hb1⟩
          have hb1 := HB0.out.trans (hb1.mono HB0.out.size)
          have hb1 := hbl.trans (hb1.mono hszB)
          clear hck HB0 hbl
          go_wp2
          go_ret2
          refine ⟨?_, hb1⟩
          rw [HFA.out (by rw [HG.out]; exact H1.out), HG.out, errV_not H1.out]; rfl
      · go_wp2
        go_ret2
        refine ⟨?_, hbl⟩
        rw [tf_ok HL.out fun j hj => HALL.out j (by have := HN.out; omega)]; rfl

end Go.Proofs.YtnkdmgekpajfhadGreatDoor

namespace Go.Proofs.YtnkdmgekpajfhadGreatDoor
open Go.RowKit

/-- Nothing behind a row of one's own. -/
theorem run_append_nothing {P : Program} {w : World} (base : Nat) (t ty e : TypeId) (i : TypeInfo) (size c : Nat) (ht : P.underlying t = some (.slice e)) (hi : P.info? e = some i) (v : Value) (n : Nat) (xs : List Value) (hown : w.ownsRow base e size v n xs) :
    (Builtin.append_ #[t, t] ty #[v, .slice none 0 c]).run P w = .ok v w := by
  rcases hown.2 with ⟨rfl, rfl⟩ | ⟨g, cap, cur, rfl, _, _, hnc, _⟩
  · simp [Builtin.append_, run_underlying ht, sizeOf, typeInfo, hi, Builtin.lenOf, Builtin.firstCells]
  · simp [Builtin.append_, run_underlying ht, sizeOf, typeInfo, hi, Builtin.lenOf, Builtin.firstCells, hnc, storeCells]

theorem Fvs.plain {w : World} {xs : List Value} {l : List Fl} (h : Fvs w xs l) : ∀ u ∈ xs, u.oneCell' = true := by
  intro u hu
  obtain ⟨j, hj, rfl⟩ := List.getElem_of_mem hu
  have hl := h.1
  obtain ⟨am, cm, h1, h2, _⟩ := h.2 (j / 2) (by omega)
  rcases Nat.mod_two_eq_zero_or_one j with e | e
  · rw [show j / 2 * 2 = j by omega, List.getElem?_eq_getElem hj] at h1
    rw [Option.some.inj h1]; rfl
  · rw [show j / 2 * 2 + 1 = j by omega, List.getElem?_eq_getElem hj] at h2
    rw [Option.some.inj h2]; rfl

/-- Files behind a row of one's own. -/
theorem append_files {w0 w : World} {ops : Array Oper} {rest : List Oper} {o : Oper} {a : Act} {Q : Exit → Act → World → Prop} (hgd : o.guard = none) (s x : Operand)
    (ho : o.op = .call { callee := .builtin .append, args := #[s, x], argTypes := #[41, 41] }) (B : Nat) (v : Value) (n : Nat) (xs : List Value) (hs : a.eval s = v) (hown : w.ownsRow B 83 2 v n xs)
    (ax : Option Addr) (fs : List Fl) (m c : Nat) (hm : fs.length = m) (hx : a.eval x = .slice ax m c) (hst : Fls w0 ax fs) (hb : Below w0.heap.size w0 w) (h63 : n + m ≤ 100000) (hbase : B ≤ w.heap.size)
    (h : ∀ v' w' ys, w'.ownsRow B 83 2 v' (n + m) (xs ++ ys) → Fvs w0 ys fs → w.grownBy w' v.ownBlock → (v'.ownBlock = v.ownBlock ∨ v'.ownBlock = some w.heap.size) → wpList Tryz.prog ops Q rest (a.put o.dst v') w') : wpList Tryz.prog ops Q (o :: rest) a w := by
  obtain ⟨i0, hi, hz0, hz1, hz2⟩ := info_parts Tryz.infoFile
  subst hm
  obtain ⟨ys, hv, hc⟩ := hst.vals
  cases ax with
  | none =>
    have h0 : fs = [] := by
      cases fs with
      | nil => rfl
      | cons y r => obtain ⟨b, off, e, _⟩ := hc 0 (by simp); cases e
    subst h0
    have hy : ys = [] := List.length_eq_zero_iff.1 (by rw [hv.1]; rfl)
    subst hy
    refine Lib.wpList_append_run w hgd s x 41 41 ho _ _ hs hx v w (run_append_nothing B 41 o.type 83 i0 2 c Tryz.underlying41 hi v n xs hown) ?_
    exact h v w [] (by simpa using hown) hv ⟨rfl, rfl, rfl, Nat.le_refl _, fun _ _ _ => rfl⟩ (.inl rfl)
  | some ad =>
    refine wpList_append_own_at w hgd s x 41 ho B 83 i0 (.agg #[.string ByteArray.empty, .slice none 0 0]) 2 40 Tryz.underlying41 hi hz0 hz1 hz2 rfl (by decide) v n xs hs hown ad fs.length c ys hx hv.1 (fun j u hj => ?_) hv.plain (by unfold maxLen; omega) (by omega) hbase (fun v' w' h1 h2 _ h4 => h v' w' ys h1 hv h2 h4)
    have hjl : j < fs.length * 2 := by
      rw [← hv.1]
      by_cases e : j < ys.length
      · exact e
      · rw [List.getElem?_eq_none (by omega)] at hj; simp at hj
    obtain ⟨b, off, e, hcc⟩ := hc j hjl
    obtain rfl := Option.some.inj e
    rw [add_some]
    exact cell_later hb (hcc.trans hj)

set_option maxHeartbeats 1000000 in
theorem growF (n : Nat) (w : World) (hn : n ≤ 100000) : Calls Tryz.prog 126 #[.slice none 0 0, .int .i64 n] w fun e w' => ∃ v, e = .returned v ∧ w'.ownsRow w.heap.size 83 2 v 0 [] ∧ Below w.heap.size w w' := by
  by_cases h0 : n = 0
  · subst h0
    go_enter Tryz.func126, Tryz.ntmps126
    go_wp2
    go_ret
    exact ⟨_, rfl, World.ownsRow_nil _ _ _ _, Below.refl _ _⟩
  · obtain ⟨i0, hi, hz0, hz1, hz2⟩ := info_parts Tryz.infoFile
    have hrz : ∀ ty, (Builtin.append_ #[41, 3] ty #[.slice none 0 0, .int .i64 n]).run Tryz.prog w = .ok (.slice (some ⟨w.heap.size, 0, none⟩) n (grownCap w n 0 83)) (w.drew.alloc (.cells (Builtin.zeroCells (Value.agg #[.string ByteArray.empty, .slice none 0 0]).cells n ++ Builtin.zeroCells (Value.agg #[.string ByteArray.empty, .slice none 0 0]).cells (grownCap w n 0 83 - n)) 83)) := fun ty =>
      Lib.run_append_nil_zeros w 41 3 ty 83 i0 _ .i64 .i64 Tryz.underlying41 Tryz.underlying3 hi hz0 n (by omega) (by rw [hz1]; decide) (by omega) (by rw [hz2]; omega)
    have hge : n ≤ grownCap w n 0 83 := grownCap_ge w _ _ _
    have hle := grownCap_le_maxLen w n 0 83 (by unfold maxLen; omega)
    obtain ⟨G, hG⟩ : ∃ G, G = grownCap w n 0 83 := ⟨_, rfl⟩
    rw [← hG] at hrz hge hle
    obtain ⟨Z, hZ⟩ : ∃ Z, (Builtin.zeroCells (Value.agg #[.string ByteArray.empty, .slice none 0 0]).cells n ++ Builtin.zeroCells (Value.agg #[.string ByteArray.empty, .slice none 0 0]).cells (G - n)) = Z := ⟨_, rfl⟩
    have hsz : Hid (Z.size = G * 2) := by
      show Z.size = G * 2
      rw [← hZ]
      simp [Builtin.zeroCells, Value.cells]; omega
    rw [hZ] at hrz
    have HLE : Hid (G ≤ maxLen) := hle
    unfold maxLen at hle
    have hpos : 0 < n := by omega
    have hto := fun w => run_files_to (some ⟨w.heap.size, 0, none⟩) n G 0 (Nat.zero_le _) w 0 rfl
    clear hG h0 hi hz0 hz1 hz2 hZ
    go_enter Tryz.func126, Tryz.ntmps126
    go_wp2_with (at_builtin; refine Lib.wpList_append_run _ rfl _ _ _ _ rfl _ _ rfl rfl _ _ (hrz _) ?_)
    go_ret
    refine ⟨_, rfl, ?_, ?_⟩
    · have := World.ownsRow_made (base := w.heap.size) (e := 83) (size := 2) w.drew _ G (Nat.le_refl _) HLE.out hsz.out
      exact this
    · exact (show Below w.heap.size w w.drew from ⟨rfl, rfl, rfl, Nat.le_refl _, fun _ _ => rfl⟩).alloc (Nat.le_refl _) _

/-- Lists of files as they lie in memory. -/
def Fts (w : World) (a : Option Addr) (ps : List (List Fl)) : Prop :=
  ∀ i : Nat, i < ps.length → ∃ b off ai ci, a = some ⟨b, off, none⟩ ∧ w.cell? ⟨b, off + i, none⟩ = some (.slice ai (ps.getD i []).length ci) ∧ Fls w ai (ps.getD i [])

theorem Fts.below {w w' : World} {a : Option Addr} {ps : List (List Fl)} (h : Fts w a ps) (hb : Below w.heap.size w w') : Fts w' a ps := by
  intro i hi
  obtain ⟨b, off, ai, ci, rfl, h1, h2⟩ := h i hi
  exact ⟨b, off, ai, ci, rfl, cell_later hb h1, h2.below hb⟩

theorem flatF_snoc (ps : List (List Fl)) (k : Nat) (hk : k < ps.length) : (ps.take (k + 1)).flatten = (ps.take k).flatten ++ ps.getD k [] := by
  have e : ps.getD k [] = ps[k] := by simp [hk]
  rw [e, List.take_succ_eq_append_getElem hk, List.flatten_append, List.flatten_cons, List.flatten_nil, List.append_nil]

theorem flatF_le (ps : List (List Fl)) (k : Nat) : (ps.take k).flatten.length ≤ ps.flatten.length := by
  conv => rhs; rw [← List.take_append_drop k ps, List.flatten_append, List.length_append]
  omega

set_option maxRecDepth 100000 in
set_option maxHeartbeats 2000000 in
theorem concatF (a : Option Addr) (ps : List (List Fl)) (ca : Nat) (w : World) (ha : Fts w a ps) (hl : ps.flatten.length ≤ 50000) (hn : ps.length ≤ 1000) :
    Calls Tryz.prog 98 #[.slice a ps.length ca] w fun e w' => ∃ a' cap, e = .returned (.slice a' ps.flatten.length cap) ∧ Fls w' a' ps.flatten ∧ Below w.heap.size w w' := by
  obtain ⟨n, hn'⟩ : ∃ n, ps.length = n := ⟨_, rfl⟩
  rw [hn'] at hn ⊢
  have HN : Hid (ps.length = n) := hn'
  have HA : Hid (Fts w a ps) := ha
  have HL : Hid (ps.flatten.length ≤ 50000) := hl
  clear hn' ha hl
  obtain ⟨B, hB⟩ : ∃ B, w.heap.size = B := ⟨_, rfl⟩
  have HB : Hid (w.heap.size = B) := hB
  rw [hB]
  clear hB
  go_enter Tryz.func98, Tryz.ntmps98
  go_wp2
  go_loop [3, 5, 11] (fun v _ i => ∃ k : Nat, k ≤ n ∧ i = .int .i64 k ∧ v = .int .i64 (ps.take k).flatten.length) (fun _ _ i => n - (intOf i).toNat)
  case atStart => exact ⟨0, Nat.zero_le _, rfl, rfl⟩
  case round =>
    obtain ⟨k, hk, rfl, rfl⟩ := hrel
    by_cases hlt : k < n
    · have ha := HA.out
      have hkl : k < ps.length := by rw [HN.out]; exact hlt
      obtain ⟨b, off, ai, ci, rfl, hc, _⟩ := ha k hkl
      have HS : Hid ((ps.take (k + 1)).flatten.length = (ps.take k).flatten.length + (ps.getD k []).length) := by
        show (ps.take (k + 1)).flatten.length = _
        rw [flatF_snoc ps k hkl, List.length_append]
      have h1 := flatF_le ps k
      have h2 := flatF_le ps (k + 1)
      rw [HS.out] at h2
      have h3 := HL.out
      obtain ⟨x, hx⟩ : ∃ x, (ps.getD k []).length = x := ⟨_, rfl⟩
      obtain ⟨d, hd⟩ : ∃ d, (ps.take k).flatten.length = d := ⟨_, rfl⟩
      rw [hx] at hc HS h2
      rw [hd] at HS h1 h2 ⊢
      have h4 : d + x ≤ 50000 := by omega
      clear ha hkl hx hd h1 h2 h3
      go_wp2
      go_round
      case rel => exact ⟨k + 1, by omega, by go_num, by rw [HS.out]; go_num⟩
      case measure => simp [intOf]; omega
    · have e : (ps.take k).flatten.length = ps.flatten.length := by rw [List.take_of_length_le (by have := HN.out; omega)]
      have h3 := HL.out
      rw [e]
      obtain ⟨T, hT⟩ : ∃ T, ps.flatten.length = T := ⟨_, rfl⟩
      have HT : Hid (ps.flatten.length = T) := hT
      rw [hT] at h3
      rw [hT]
      clear e hT
      have hgr := growF T w (by omega)
      rw [HB.out] at hgr
      go_wp2_with (go_at_call 126; refine hgr.mono ?_)
      rintro e w0 v0 rfl ho0 hb0
      have HO0 : Hid (w0.ownsRow B 83 2 v0 0 []) := ho0
      have HB0 : Hid (Below B w w0) := hb0
      clear hgr ho0 hb0
      go_wp2
      go_loopw [6, 8, 27] (fun v _ i w1 => ∃ k : Nat, k ≤ n ∧ i = .int .i64 k ∧ Below B w w1 ∧ ∃ xs, w1.ownsRow B 83 2 v (ps.take k).flatten.length xs ∧ Fvs w xs (ps.take k).flatten) (fun _ _ i _ => n - (intOf i).toNat)
      case atStart => exact ⟨0, Nat.zero_le _, rfl, HB0.out, [], HO0.out, Fvs.nil _⟩
      case round =>
        obtain ⟨k, hk, rfl, hbl, xs, hown, hvs⟩ := hrel
        by_cases hlt : k < n
        · have ha := HA.out
          have hkl : k < ps.length := by rw [HN.out]; exact hlt
          obtain ⟨b, off, ai, ci, rfl, hc, hst⟩ := ha k hkl
          replace hc := cell_later (by rw [HB.out]; exact hbl) hc
          have HS : Hid ((ps.take (k + 1)).flatten = (ps.take k).flatten ++ ps.getD k []) := flatF_snoc ps k hkl
          have h2 := flatF_le ps (k + 1)
          rw [HS.out, List.length_append] at h2
          have h3 := HL.out
          obtain ⟨ss, hss⟩ : ∃ ss, ps.getD k [] = ss := ⟨_, rfl⟩
          obtain ⟨done, hd⟩ : ∃ done, (ps.take k).flatten = done := ⟨_, rfl⟩
          rw [hss] at hc hst HS h2
          rw [hd] at HS hown h2 hvs
          obtain ⟨m, hm⟩ : ∃ m, ss.length = m := ⟨_, rfl⟩
          obtain ⟨dl, hdl⟩ : ∃ dl, done.length = dl := ⟨_, rfl⟩
          have HDL : Hid (done.length = dl) := hdl
          have HM : Hid (ss.length = m) := hm
          have HST : Hid (Fls w ai ss) := hst
          have HVS : Hid (Fvs w xs done) := hvs
          have HBL : Hid (Below w.heap.size w wr) := by rw [HB.out]; exact hbl
          rw [hm] at hc h2
          rw [hdl] at hown h2
          have h4 : dl + m ≤ 100000 := by omega
          have hszB : B ≤ wr.heap.size := by have := hbl.size; have := HB.out; omega
          clear ha hkl hss hd hm hdl hst h2 h3 hvs
          go_wp2_with (at_builtin; refine append_files rfl _ _ rfl B _ _ _ rfl hown ai ss m ci HM.out rfl HST.out HBL.out h4 hszB ?_; intro v' w3 ys hown' hvs' hgrow3 hat3)
          go_roundw
          case rel =>
            refine ⟨k + 1, by omega, by go_num, ?_, xs ++ ys, ?_, ?_⟩
            · exact hbl.grown hgrow3 hszB (fun j hj => (hown.lt j hj).1)
            · rw [HS.out, List.length_append, HDL.out, HM.out]; exact hown'
            · rw [HS.out]; exact HVS.out.append hvs'
          case measure => simp [intOf]; omega
        · go_wp2
          go_ret
          rw [List.take_of_length_le (by have := HN.out; omega)] at hown hvs
          obtain ⟨a', cap, rfl, hst, _⟩ := fls_of_own hown (hvs.below (by rw [HB.out]; exact hbl))
          rw [HT.out] at *
          exact ⟨a', cap, rfl, hst, hbl⟩

end Go.Proofs.YtnkdmgekpajfhadGreatDoor

namespace Go.Proofs.YtnkdmgekpajfhadGreatDoor
open Go.RowKit

/-- A row of files that a call has made: the first k places are filled. -/
def FRow (w : World) (B n k : Nat) (fs : List Fl) : Prop :=
  ∃ cs : Array Value, w.heap[B]? = some (.cells cs 83 (0, 0)) ∧ cs.size = n * 2 ∧ ∀ j, j < k → ∃ g cap, cs[j * 2]? = some (.string (fs.getD j fz).1) ∧ cs[j * 2 + 1]? = some (.slice (some ⟨g, 0, none⟩) (fs.getD j fz).2.length cap) ∧ g ≠ B ∧ Strs w (some ⟨g, 0, none⟩) (fs.getD j fz).2 ∧ (fs.getD j fz).2.length ≤ cap

theorem FRow.any {w : World} {B n k : Nat} {fs : List Fl} (h : FRow w B n k fs) {i : Nat} (hi : i < n * 2) : ∃ v, w.cell? ⟨B, i, none⟩ = some v := by
  obtain ⟨cs, hc, h2, _⟩ := h
  rw [Lib.cell_of_heap hc]
  exact ⟨_, Array.getElem?_eq_getElem (by omega)⟩

theorem FRow.frozen {w : World} {B n k : Nat} {fs : List Fl} (h : FRow w B n k fs) (i : Nat) : w.frozen? ⟨B, i, none⟩ = false := by
  obtain ⟨cs, hc, _⟩ := h
  exact Lib.frozen_of_heap hc i

theorem FRow.lt {w : World} {B n k : Nat} {fs : List Fl} (h : FRow w B n k fs) : B < w.heap.size := by
  obtain ⟨cs, hc, _⟩ := h
  by_cases e : B < w.heap.size
  · exact e
  · rw [Array.getElem?_eq_none (by omega)] at hc; cases hc

theorem FRow.below {w w' : World} {B n k : Nat} {fs : List Fl} (h : FRow w B n k fs) (hb : Below w.heap.size w w') : FRow w' B n k fs := by
  have hl := h.lt
  obtain ⟨cs, hc, hs, hat⟩ := h
  refine ⟨cs, blk_below hb hl hc, hs, fun j hj => ?_⟩
  obtain ⟨g, cap, a1, a2, a3, a4, a5⟩ := hat j hj
  exact ⟨g, cap, a1, a2, a3, a4.below hb, a5⟩

theorem Strs.otherF {w : World} {g B i : Nat} {ss : List ByteArray} (h : Strs w (some ⟨g, 0, none⟩) ss) (hne : g ≠ B) (v : Value) : Strs (w.setCell ⟨B, i, none⟩ v) (some ⟨g, 0, none⟩) ss := by
  intro j hj
  obtain ⟨b, off, e, m1⟩ := h j hj
  obtain rfl : g = b := by
    have := congrArg (fun o => o.map Addr.block) e
    simpa using this
  refine ⟨g, off, e, ?_⟩
  rw [World.cell?_setCell_other]
  · exact m1
  · intro e; have := congrArg Addr.block e; simp only at this; omega

theorem FRow.set {w : World} {B n k : Nat} {fs : List Fl} (h : FRow w B n k fs) (hk : k < n) {p : ByteArray} {ss : List ByteArray} {g cap : Nat} (hh : fs.getD k fz = (p, ss)) (hg : g ≠ B) (hmk : Strs w (some ⟨g, 0, none⟩) ss) (hcp : ss.length ≤ cap) :
    FRow ((w.setCell ⟨B, k * 2, none⟩ (.string p)).setCell ⟨B, k * 2 + 1, none⟩ (.slice (some ⟨g, 0, none⟩) ss.length cap)) B n (k + 1) fs := by
  obtain ⟨cs, hc, hs', hat⟩ := h
  refine ⟨_, blk_set (blk_set hc _) _, by simpa using hs', fun j hj => ?_⟩
  by_cases e : j = k
  · subst e
    rw [hh]
    refine ⟨g, cap, ?_, ?_, hg, (hmk.otherF hg _).otherF hg _, hcp⟩
    · rw [Array.getElem?_setIfInBounds_ne (by omega), Array.getElem?_setIfInBounds_self_of_lt (by omega)]
    · rw [Array.getElem?_setIfInBounds_self_of_lt (by simp; omega)]
  · obtain ⟨g1, c1, a1, a2, a4, a5, a6⟩ := hat j (by omega)
    refine ⟨g1, c1, ?_, ?_, a4, (a5.otherF a4 _).otherF a4 _, a6⟩
    · rw [Array.getElem?_setIfInBounds_ne (by omega), Array.getElem?_setIfInBounds_ne (by omega)]; exact a1
    · rw [Array.getElem?_setIfInBounds_ne (by omega), Array.getElem?_setIfInBounds_ne (by omega)]; exact a2

theorem FRow.fls {w : World} {B n : Nat} {fs : List Fl} (h : FRow w B n fs.length fs) : Fls w (some ⟨B, 0, none⟩) fs := by
  intro i hi
  obtain ⟨cs, hc, _, hat⟩ := h
  obtain ⟨g, cap, a1, a2, _, a5, a6⟩ := hat i hi
  refine ⟨B, 0, some ⟨g, 0, none⟩, cap, rfl, ?_, ?_, a5, a6⟩
  · rw [Nat.zero_add, Lib.cell_of_heap hc]; exact a1
  · rw [Nat.zero_add, Lib.cell_of_heap hc]; exact a2

/-- A row of files, new. -/
theorem run_make_files (kl kc : IntKind) (n : Nat) (hn : n ≤ 1000) (w : World) :
    (Instr.makeSlice 41 (.int kl (n : Int)) (.int kc (n : Int))).run Tryz.prog w = .ok (.slice (some ⟨w.heap.size, 0, none⟩) n n) (w.alloc (.cells (madeCells #[.string ByteArray.empty, .slice none 0 0] (n * 2)) 83)) := by
  obtain ⟨i0, hi, hz0, hz1, hz2⟩ := info_parts Tryz.infoFile
  have hr := run_make (P := Tryz.prog) w 41 83 i0 _ Tryz.underlying41 hi hz0 kl kc n n (by omega) (Int.le_refl _) (by rw [hz2]; omega) (by omega)
  rw [hz1] at hr
  exact hr

set_option maxRecDepth 100000 in
set_option maxHeartbeats 4000000 in
theorem copyFiles (a : Option Addr) (l : List Fl) (ca : Nat) (w : World) (ha : Fls w a l) (hl : l.length ≤ 100) (hone : ∀ x ∈ l, x.1.size ≤ 20 ∧ x.2.length ≤ 60 ∧ ∀ s ∈ x.2, s.size ≤ 80) :
    Calls Tryz.prog 99 #[.slice a l.length ca] w fun e w' => e = .returned (.slice (some ⟨w.heap.size, 0, none⟩) l.length l.length) ∧ Below w.heap.size w w' ∧ Fls w' (some ⟨w.heap.size, 0, none⟩) l := by
  obtain ⟨n, hn⟩ : ∃ n, l.length = n := ⟨_, rfl⟩
  rw [hn] at hl ⊢
  have HN : Hid (l.length = n) := hn
  have HONE : Hid (∀ x ∈ l, x.1.size ≤ 20 ∧ x.2.length ≤ 60 ∧ ∀ s ∈ x.2, s.size ≤ 80) := hone
  have HA0 : Hid (Fls w a l) := ha
  have hmk := fun w => run_make_files .i64 .i64 n (by omega) w
  clear hn ha hone
  obtain ⟨B, hB⟩ : ∃ B, w.heap.size = B := ⟨_, rfl⟩
  have HB : Hid (w.heap.size = B) := hB
  go_enter Tryz.func99, Tryz.ntmps99
  go_wp2
  clear hmk
  go_loopw [11] (fun i w1 => ∃ k : Nat, k ≤ n ∧ i = .int .i64 k ∧ Below B w w1 ∧ FRow w1 B n k l) (fun i _ => n - (intOf i).toNat)
  case atStart =>
    refine ⟨0, Nat.zero_le _, rfl, (Below.refl _ _).alloc (by rw [hB]; exact Nat.le_refl _) _, ?_⟩
    subst hB
    exact ⟨_, heap_alloc_new w _, size_madeCells _ _, fun j hj => absurd hj (Nat.not_lt_zero _)⟩
  case round =>
    clear hB
    obtain ⟨k, hk, rfl, hbl, hrow⟩ := hrel
    by_cases hlt : k < n
    · have ha := HA0.out
      have hkl : k < l.length := by rw [HN.out]; exact hlt
      obtain ⟨b, off, rfl⟩ := ha.addr hkl
      obtain ⟨am, cm, hc1, hc2, hst, _⟩ := ha.at hkl
      clear ha
      have hb' : Below w.heap.size w wr := by rw [HB.out]; exact hbl
      replace hc1 := cell_later hb' hc1
      replace hc2 := cell_later hb' hc2
      replace hst := hst.below hb'
      obtain ⟨hp1, hp2, hp3⟩ := HONE.out _ (mem_getDf hkl)
      obtain ⟨p, hp⟩ : ∃ p, (l.getD k fz).1 = p := ⟨_, rfl⟩
      obtain ⟨ss, hss⟩ : ∃ ss, (l.getD k fz).2 = ss := ⟨_, rfl⟩
      have HGG : Hid (l.getD k fz = (p, ss)) := getD_eta2 l k hp hss
      rw [hp] at hc1 hp1
      rw [hss] at hc2 hst hp2 hp3
      have HCP := fun w (h : Strs w am ss) => copied am ss cm w h hp2 hp3
      have HCL := fun w => clone p w (by omega)
      obtain ⟨q, hq⟩ : ∃ q, ss.length = q := ⟨_, rfl⟩
      rw [hq] at hc2 HCP
      have HQ : Hid (ss.length = q) := hq
      clear hp hss hb' hkl hq hp1 hp2 hp3
      have hb0 := below_alloc wr (.cells #[.string p, .slice am q cm] 83)
      obtain ⟨d0, d1⟩ := cells2_later (Below.refl (wr.alloc (.cells #[.string p, .slice am q cm] 83)).heap.size (wr.alloc (.cells #[.string p, .slice am q cm] 83)))
      have hrow1 := hrow.below hb0
      have hst1 := hst.below hb0
      have hbl1 := hbl.trans (hb0.mono (by have := hbl.size; have := HB.out; omega))
      go_wp2
      generalize wr.alloc (.cells #[.string p, .slice am q cm] 83) = W1 at d0 d1 hrow1 hst1 hbl1 hb0 ⊢
      have hlt1 := hrow1.lt
      obtain ⟨v0, y0⟩ := hrow1.any (i := k * 2) (by omega)
      obtain ⟨v1, y1⟩ := hrow1.any (i := k * 2 + 1) (by omega)
      have hdr : Below W1.heap.size W1 W1.drew := ⟨rfl, rfl, rfl, Nat.le_refl _, fun _ _ => rfl⟩
      have KS : Hid (∀ w2, Below W1.drew.heap.size W1.drew w2 → Strs w2 am ss) := fun w2 h => (hst1.below hdr).below h
      have KG : Hid (∀ w2, Below W1.drew.heap.size W1.drew w2 → w2.heap.size ≠ B) := fun w2 h => by have := h.size; have : W1.drew.heap.size = W1.heap.size := rfl; omega
      have KD : Hid (∀ w2, Below W1.drew.heap.size W1.drew w2 → w2.cell? ⟨wr.heap.size, 0, none⟩ = some (.string p) ∧ w2.cell? ⟨wr.heap.size, 1, none⟩ = some (.slice am q cm)) := fun w2 h => ⟨cell_later h d0, cell_later h d1⟩
      have KY : Hid (∀ w2, Below W1.drew.heap.size W1.drew w2 → w2.cell? ⟨B, k * 2, none⟩ = some v0 ∧ w2.cell? ⟨B, k * 2 + 1, none⟩ = some v1) := fun w2 h => ⟨cell_later h y0, cell_later h y1⟩
      have KR : Hid (∀ w2, Below W1.drew.heap.size W1.drew w2 → FRow w2 B n k l) := fun w2 h => (hrow1.below hdr).below h
      have KB : Hid (∀ w2, Below W1.drew.heap.size W1.drew w2 → Below B w w2) := fun w2 h => hbl1.trans ((hdr.trans h).mono (by omega))
      have hbp : Below W1.drew.heap.size W1.drew W1.drew := Below.refl _ _
      clear y0 y1 hst hst1 hrow hrow1 hbl hbl1 hc1 hc2 hb0 hdr hlt1
      go_region_with (first
        | (go_at_call 70; refine (HCL _).mono ?_; rintro e w2 ⟨rfl, hb2⟩; replace hbp := hbp.trans (hb2.mono hbp.size); obtain ⟨d0, d1⟩ := KD.out _ hbp; obtain ⟨y0, y1⟩ := KY.out _ hbp; have f0 := (KR.out _ hbp).frozen (k * 2); have f1 := (KR.out _ hbp).frozen (k * 2 + 1); try replace hs := hs.below hb2)
        | (go_at_call 127; refine (HCP _ ?_).mono ?_; exact KS.out _ hbp; rintro e w2 ⟨rfl, hb2, hs⟩; have hg := KG.out _ hbp; replace hbp := hbp.trans (hb2.mono hbp.size); obtain ⟨d0, d1⟩ := KD.out _ hbp; obtain ⟨y0, y1⟩ := KY.out _ hbp; have f0 := (KR.out _ hbp).frozen (k * 2); have f1 := (KR.out _ hbp).frozen (k * 2 + 1)))
      all_goals
        have hset := (KR.out _ hbp).set (cap := q) hlt HGG.out hg hs (by rw [HQ.out]; exact Nat.le_refl _)
        rw [HQ.out] at hset
        have hbx := KB.out _ hbp
        clear hs d0 d1 y0 y1 f0 f1 KS KG KD KY KR KB hbp HCP HCL
        go_wp2
        go_roundw
        case rel => exact ⟨k + 1, by omega, by go_num, (hbx.setCell (Nat.le_refl _) _).setCell (Nat.le_refl _) _, hset⟩
        case measure => simp [intOf]; omega
    · go_wp2
      go_ret
      obtain rfl : k = n := by omega
      have hlen := HN.out
      rw [← hlen] at hrow
      rw [HB.out]
      exact ⟨rfl, hbl, hrow.fls⟩

end Go.Proofs.YtnkdmgekpajfhadGreatDoor
