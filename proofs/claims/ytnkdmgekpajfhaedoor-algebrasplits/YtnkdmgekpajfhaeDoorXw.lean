/-
  Files as they lie in memory, and as values in a row that a call has made. Walks of tree.checkFile and tree.Check: the fault of a file, the first fault of files.
-/
import Derived.Test.YtnkdmgekpajfhaeDoorTrf
import Derived.Maps.AppendAt
import Derived.Lib.AppendZeros
import Derived.Laws.Cover1
namespace Go.Proofs.YtnkdmgekpajfhaeDoor
open Go.RowKit

/-- Files as they lie in memory: a path and lines each. -/
def Fls (w : World) (a : Option Addr) (l : List Fl) : Prop :=
  ∀ i : Nat, i < l.length → ∃ b off am cm, a = some ⟨b, off, none⟩ ∧ w.cell? ⟨b, off + i * 2, none⟩ = some (.string (l.getD i fz).1) ∧ w.cell? ⟨b, off + i * 2 + 1, none⟩ = some (.slice am (l.getD i fz).2.length cm) ∧ Strs w am (l.getD i fz).2 ∧ (l.getD i fz).2.length ≤ cm

theorem Fls.below {w w' : World} {a : Option Addr} {l : List Fl} (h : Fls w a l) (hb : Below w.heap.size w w') : Fls w' a l := by
  intro i hi
  obtain ⟨b, off, am, cm, rfl, h1, h2, h3, h4⟩ := h i hi
  exact ⟨b, off, am, cm, rfl, cell_later hb h1, cell_later hb h2, h3.below hb, h4⟩

theorem Fls.nil (w : World) (a : Option Addr) : Fls w a [] := fun _ hi => absurd hi (Nat.not_lt_zero _)

theorem Fls.at {w : World} {b off : Nat} {l : List Fl} (h : Fls w (some ⟨b, off, none⟩) l) {i : Nat} (hi : i < l.length) :
    ∃ am cm, w.cell? ⟨b, off + i * 2, none⟩ = some (.string (l.getD i fz).1) ∧ w.cell? ⟨b, off + i * 2 + 1, none⟩ = some (.slice am (l.getD i fz).2.length cm) ∧ Strs w am (l.getD i fz).2 ∧ (l.getD i fz).2.length ≤ cm := by
  obtain ⟨b', off', am, cm, e, h1, h2, h3, h4⟩ := h i hi
  simp only [Option.some.injEq, Addr.mk.injEq] at e
  obtain ⟨rfl, rfl, _⟩ := e
  exact ⟨am, cm, h1, h2, h3, h4⟩

theorem Fls.addr {w : World} {a : Option Addr} {l : List Fl} (h : Fls w a l) {i : Nat} (hi : i < l.length) : ∃ b off, a = some ⟨b, off, none⟩ := by
  obtain ⟨b, off, am, cm, e, _⟩ := h i hi
  exact ⟨b, off, e⟩

/-- Files as values. -/
def Fvs (w : World) (xs : List Value) (l : List Fl) : Prop :=
  xs.length = l.length * 2 ∧ ∀ i : Nat, i < l.length → ∃ am cm, xs[i * 2]? = some (.string (l.getD i fz).1) ∧ xs[i * 2 + 1]? = some (.slice am (l.getD i fz).2.length cm) ∧ Strs w am (l.getD i fz).2 ∧ (l.getD i fz).2.length ≤ cm

theorem Fvs.below {w w' : World} {xs : List Value} {l : List Fl} (h : Fvs w xs l) (hb : Below w.heap.size w w') : Fvs w' xs l := by
  refine ⟨h.1, fun i hi => ?_⟩
  obtain ⟨am, cm, h1, h2, h3, h4⟩ := h.2 i hi
  exact ⟨am, cm, h1, h2, h3.below hb, h4⟩

theorem Fvs.nil (w : World) : Fvs w [] [] := ⟨rfl, fun _ hi => absurd hi (Nat.not_lt_zero _)⟩

theorem Fvs.append {w : World} {xs ys : List Value} {l m : List Fl} (h : Fvs w xs l) (h' : Fvs w ys m) : Fvs w (xs ++ ys) (l ++ m) := by
  obtain ⟨h1, h2⟩ := h
  obtain ⟨g1, g2⟩ := h'
  refine ⟨by rw [List.length_append, List.length_append, h1, g1]; omega, fun i hi => ?_⟩
  rw [List.length_append] at hi
  by_cases e : i < l.length
  · have e2 : (l ++ m).getD i fz = l.getD i fz := by simp [List.getElem?_append, e]
    rw [e2, List.getElem?_append_left (by omega), List.getElem?_append_left (by omega)]
    exact h2 i e
  · have e2 : (l ++ m).getD i fz = m.getD (i - l.length) fz := by simp [List.getElem?_append, e]
    rw [e2, List.getElem?_append_right (by omega), List.getElem?_append_right (by omega), h1, show i * 2 - l.length * 2 = (i - l.length) * 2 by omega, show i * 2 + 1 - l.length * 2 = (i - l.length) * 2 + 1 by omega]
    exact g2 _ (by omega)

theorem Fvs.one {w : World} {p : ByteArray} {ss : List ByteArray} {am : Option Addr} {cm : Nat} (h : Strs w am ss) (hc : ss.length ≤ cm) : Fvs w [.string p, .slice am ss.length cm] [(p, ss)] := by
  refine ⟨rfl, fun i hi => ?_⟩
  obtain rfl : i = 0 := by simpa using hi
  exact ⟨am, cm, rfl, rfl, h, hc⟩

/-- The values of files that lie in memory. -/
theorem Fls.vals {w : World} {a : Option Addr} {l : List Fl} (h : Fls w a l) : ∃ xs, Fvs w xs l ∧ ∀ j, j < l.length * 2 → ∃ b off, a = some ⟨b, off, none⟩ ∧ w.cell? ⟨b, off + j, none⟩ = xs[j]? := by
  cases a with
  | none =>
    have h0 : l = [] := by
      cases l with
      | nil => rfl
      | cons y r => obtain ⟨b, off, _, _, e, _⟩ := h 0 (by simp); cases e
    subst h0
    exact ⟨[], Fvs.nil _, fun j hj => absurd hj (by simp)⟩
  | some ad =>
    have hx : ∀ j, j < l.length * 2 → ∃ v, w.cell? ⟨ad.block, ad.off + j, none⟩ = some v ∧ ad.spot = none := fun j hj => by
      obtain ⟨b, off, am, cm, e, h1, h2, _⟩ := h (j / 2) (by omega)
      obtain rfl := Option.some.inj e
      rcases Nat.mod_two_eq_zero_or_one j with e | e
      · exact ⟨_, by rw [show j = j / 2 * 2 by omega]; exact h1, rfl⟩
      · exact ⟨_, by rw [show off + j = off + j / 2 * 2 + 1 by omega]; exact h2, rfl⟩
    have hg : ∀ j, j < l.length * 2 → w.cell? ⟨ad.block, ad.off + j, none⟩ = ((List.range (l.length * 2)).map fun j => (w.cell? ⟨ad.block, ad.off + j, none⟩).getD .nilIface)[j]? := fun j hj => by
      obtain ⟨v, hv, _⟩ := hx j hj
      rw [List.getElem?_map, List.getElem?_range hj, Option.map_some, hv]; rfl
    refine ⟨(List.range (l.length * 2)).map fun j => (w.cell? ⟨ad.block, ad.off + j, none⟩).getD .nilIface, ⟨by simp, fun i hi => ?_⟩, fun j hj => ?_⟩
    · obtain ⟨b, off, am, cm, e, h1, h2, h3, h4⟩ := h i hi
      obtain rfl := Option.some.inj e
      refine ⟨am, cm, ?_, ?_, h3, h4⟩
      · rw [← hg _ (by omega)]; exact h1
      · rw [← hg _ (by omega), ← Nat.add_assoc]; exact h2
    · obtain ⟨_, _, hs⟩ := hx j hj
      obtain ⟨b, off, sp⟩ := ad
      simp only at hs
      subst hs
      exact ⟨b, off, rfl, hg j hj⟩

theorem own_lies {B : Nat} {v : Value} {n : Nat} {xs : List Value} {w w' : World} {t : TypeId} {s : Nat} (h : w.ownsRow B t s v n xs) (hb : Below w.heap.size w w') : w'.ownsRow B t s v n xs := by
  refine ⟨h.1, ?_⟩
  rcases h.2 with h0 | ⟨g, cap, cur, hv, hB, hh, hr⟩
  · exact .inl h0
  · have hl : g < w.heap.size := by
      by_cases e : g < w.heap.size
      · exact e
      · rw [Array.getElem?_eq_none (by omega)] at hh; cases hh
    exact .inr ⟨g, cap, cur, hv, hB, blk_below hb hl hh, hr⟩

/-- A row of files that a call has made: files that lie in memory. -/
theorem fls_of_own {B : Nat} {v : Value} {l : List Fl} {xs : List Value} {w : World} (h : w.ownsRow B 70 2 v l.length xs) (hv : Fvs w xs l) : ∃ a cap, v = .slice a l.length cap ∧ Fls w a l ∧ l.length ≤ cap := by
  rcases h.2 with ⟨rfl, h0⟩ | ⟨g, cap, cur, rfl, hB, hh, hc, _, hcs, ht⟩
  · have : l = [] := List.length_eq_zero_iff.1 h0
    subst this
    exact ⟨_, 0, rfl, Fls.nil _ _, Nat.zero_le _⟩
  · refine ⟨some ⟨g, 0, none⟩, cap, rfl, fun i hi => ?_, hc⟩
    obtain ⟨am, cm, a1, a2, a3, a4⟩ := hv.2 i hi
    have hc : ∀ j, j < l.length * 2 → w.cell? ⟨g, j, none⟩ = xs[j]? := fun j hj => by
      rw [Lib.cell_of_heap hh, ← Array.getElem?_toList, ← ht, List.getElem?_take, if_pos hj]
    refine ⟨g, 0, am, cm, rfl, ?_, ?_, a3, a4⟩
    · rw [Nat.zero_add, hc _ (by omega)]; exact a1
    · rw [Nat.zero_add, hc _ (by omega)]; exact a2

theorem Tryd.infoFile : (Tryd.prog.info? 70).map (fun i => (i.zero, i.size, i.bytes)) = some (some (.agg #[.string ByteArray.empty, .slice none 0 0]), 2, 40) := by kernel_rfl

/-- Where a part of files lies. -/
def fa (a : Option Addr) (cap lo : Nat) : Option Addr := if cap = lo then a else a.map (·.add (lo * 2))

theorem run_files_from (a : Option Addr) (len cap lo : Nat) (h1 : lo ≤ len) (w : World) (l : Int) (hl : l = lo) : (Instr.slice 22 (.slice a len cap) (some (.int .i64 l)) none none).run Tryd.prog w = .ok (.slice (fa a cap lo) (len - lo) (cap - lo)) w := by
  obtain ⟨i0, hi0, hz0, hz1, hz2⟩ := info_parts Tryd.infoFile
  subst hl
  have hsz : ∀ w, (Go.sizeOf 70).run Tryd.prog w = .ok 2 w := fun w => by simp [Go.sizeOf, typeInfo, hi0, hz1]
  have b1 : (0 : Int) ≤ lo ∧ (lo : Int) ≤ len := by omega
  simp only [Instr.slice, Instr.sliceBounds, Instr.sliceBound, run_underlying Tryd.underlying22, Sem.run_bind, Sem.run_pure, Result.andThen_ok, asIntOf, b1, hsz, fa, if_true, and_self, Int.toNat_natCast]

theorem run_files_to (a : Option Addr) (len cap hi : Nat) (h2 : hi ≤ cap) (w : World) (h : Int) (hh : h = hi) : (Instr.slice 22 (.slice a len cap) none (some (.int .i64 h)) none).run Tryd.prog w = .ok (.slice (fa a cap 0) hi cap) w := by
  obtain ⟨i0, hi0, hz0, hz1, hz2⟩ := info_parts Tryd.infoFile
  subst hh
  have hsz : ∀ w, (Go.sizeOf 70).run Tryd.prog w = .ok 2 w := fun w => by simp [Go.sizeOf, typeInfo, hi0, hz1]
  have b2 : (0 : Int) ≤ hi ∧ (hi : Int) ≤ cap := by omega
  simp [Instr.slice, Instr.sliceBounds, Instr.sliceBound, run_underlying Tryd.underlying22, asIntOf, b2, hsz, fa]
  intro h; omega

theorem add_some (b off n : Nat) : (⟨b, off, none⟩ : Addr).add n = ⟨b, off + n, none⟩ := by
  unfold Addr.add
  by_cases h0 : n = 0
  · subst h0; rfl
  · simp [h0]

/-- A part of files, where it lies. -/
theorem Fls.part {w : World} {a : Option Addr} {l : List Fl} (h : Fls w a l) {cap : Nat} (hc : l.length ≤ cap) (lo hi : Nat) : Fls w (fa a cap lo) ((l.take hi).drop lo) := by
  intro i hi'
  rw [List.length_drop, List.length_take] at hi'
  obtain ⟨b, off, am, cm, rfl, h1, h2, h3, h4⟩ := h (lo + i) (by omega)
  have e2 : ((l.take hi).drop lo).getD i fz = l.getD (lo + i) fz := by
    simp [List.getElem?_drop, show lo + i < hi by omega]
  rw [e2]
  refine ⟨b, off + lo * 2, am, cm, ?_, ?_, ?_, h3, h4⟩
  · unfold fa
    rw [if_neg (by omega), Option.map_some, add_some]
  · rw [show off + lo * 2 + i * 2 = off + (lo + i) * 2 by omega]; exact h1
  · rw [show off + lo * 2 + i * 2 + 1 = off + (lo + i) * 2 + 1 by omega]; exact h2

theorem Fls.front {w : World} {a : Option Addr} {l : List Fl} (h : Fls w a l) {cap : Nat} (hc : l.length ≤ cap) (hi : Nat) : Fls w (fa a cap 0) (l.take hi) := by
  have := h.part hc 0 hi
  rwa [List.drop_zero] at this
theorem Fls.rest {w : World} {a : Option Addr} {l : List Fl} (h : Fls w a l) {cap : Nat} (hc : l.length ≤ cap) (lo : Nat) : Fls w (fa a cap lo) (l.drop lo) := by
  have := h.part hc lo l.length
  rwa [List.take_length] at this

end Go.Proofs.YtnkdmgekpajfhaeDoor
namespace Go.Proofs.YtnkdmgekpajfhaeDoor
open Go.RowKit

theorem ret_ti {a c : Int} {b d : Value} (h : a = c) (h2 : b = d) : Ending.returned (.tuple #[.int .i64 a, b]) = .returned (.tuple #[.int .i64 c, d]) := by rw [h, h2]

/-- The two cells of a new block, later. -/
theorem cells2_later {w w1 : World} {x y : Value} {t : TypeId} (hb : Below (w.alloc (.cells #[x, y] t)).heap.size (w.alloc (.cells #[x, y] t)) w1) : w1.cell? ⟨w.heap.size, 0, none⟩ = some x ∧ w1.cell? ⟨w.heap.size, 1, none⟩ = some y := by
  have h := blk_below hb (by simp) (heap_alloc_new w (.cells #[x, y] t))
  exact ⟨Lib.cell_of_heap h 0, Lib.cell_of_heap h 1⟩

set_option maxHeartbeats 1000000 in
theorem checkFile (p : ByteArray) (a : Option Addr) (ss : List ByteArray) (ca : Nat) (w : World) (ha : Strs w a ss) (hm : ss.length ≤ maxLen) :
    Calls Tryd.prog 50 #[.agg #[.string p, .slice a ss.length ca]] w fun e w' => e = .returned (errV (fOne (p, ss))) ∧ Below w.heap.size w w' := by
  have hb0 := below_alloc w (.cells #[.string p, .slice a ss.length ca] 70)
  have hpa := path_any p (w.alloc (.cells #[.string p, .slice a ss.length ca] 70))
  have HCK := fun w' (h : Strs w' a ss) => check_any a ss ca w' h hm
  have HB0 : Hid (Below w.heap.size w (w.alloc (.cells #[.string p, .slice a ss.length ca] 70))) := hb0
  have HA : Hid (Strs w a ss) := ha
  have E1 : Hid (pf p.data.toList ≠ 0 → fOne (p, ss) = pf p.data.toList) := fun h => fOne_path (x := (p, ss)) h
  have E2 : Hid (pf p.data.toList = 0 → fOne (p, ss) = lsf (bts ss)) := fun h => fOne_lines (x := (p, ss)) h
  obtain ⟨n, hn⟩ : ∃ n, ss.length = n := ⟨_, rfl⟩
  obtain ⟨g, hg⟩ : ∃ g, fOne (p, ss) = g := ⟨_, rfl⟩
  rw [hn] at hpa HCK HB0
  rw [hg] at E1 E2 ⊢
  rw [hn]
  clear ha hm hn hb0 hg
  by_cases h1 : pf p.data.toList = 0
  · rw [h1, errV_zero] at hpa
    have HG : Hid (g = lsf (bts ss)) := E2.out h1
    clear h1 E1 E2
    go_enter Tryd.func50, Tryd.ntmps50
    go_wp2_with (go_at_call 71; refine hpa.mono ?_)
    rintro e w1 ⟨rfl, hb1⟩
    obtain ⟨d0, d1⟩ := cells2_later hb1
    have hb1 := HB0.out.trans (hb1.mono HB0.out.size)
    have hck := HCK w1 (HA.out.below hb1)
    clear hpa HB0 HCK
    go_wp2_with (go_at_call 40; refine hck.mono ?_)
    rintro e w2 ⟨rfl, rfl⟩
    go_wp2
    go_ret
    exact ⟨ret_v (by rw [HG.out]; rfl), hb1⟩
  · have HG : Hid (g = pf p.data.toList) := E1.out h1
    rw [errV_not h1] at hpa
    have H1 : Hid (pf p.data.toList ≠ 0) := h1
    clear h1 E1 E2 HCK
    go_enter Tryd.func50, Tryd.ntmps50
    go_wp2_with (go_at_call 71; refine hpa.mono ?_)
    rintro e w1 ⟨rfl, hb1⟩
    have hb1 := HB0.out.trans (hb1.mono HB0.out.size)
    clear hpa HB0
    go_wp2
    go_ret
    refine ⟨ret_v ?_, hb1⟩
    rw [HG.out, errV_not H1.out]; rfl

theorem getD_eta2 (l : List Fl) (k : Nat) {p : ByteArray} {ss : List ByteArray} (h1 : (l.getD k fz).1 = p) (h2 : (l.getD k fz).2 = ss) : l.getD k fz = (p, ss) := by
  rw [← h1, ← h2]

set_option maxRecDepth 100000 in
set_option maxHeartbeats 1000000 in
theorem treeCheck (a : Option Addr) (l : List Fl) (ca : Nat) (w : World) (ha : Fls w a l) (hm : l.length ≤ maxLen) (hms : ∀ x ∈ l, x.2.length ≤ maxLen) :
    Calls Tryd.prog 22 #[.slice a l.length ca] w fun e w' => e = .returned (.tuple #[.int .i64 (tf l).1, errV (tf l).2]) ∧ Below w.heap.size w w' := by
  unfold maxLen at hm
  obtain ⟨n, hn⟩ : ∃ n, l.length = n := ⟨_, rfl⟩
  rw [hn] at hm ⊢
  by_cases hbig : 8 < (n : Int)
  · have he : Hid (tf l = (0, 3)) := tf_big (by rw [hn]; omega)
    clear hn ha hms
    go_enter Tryd.func22, Tryd.ntmps22
    go_wp2
    go_ret2
    refine ⟨?_, Below.refl _ _⟩
    rw [he.out]; rfl
  · have HN : Hid (l.length = n) := hn
    have HL : Hid (l.length ≤ 8) := by show l.length ≤ 8; omega
    have HA : Hid (Fls w a l) := ha
    have HM : Hid (∀ x ∈ l, x.2.length ≤ maxLen) := hms
    clear hn ha hms
    obtain ⟨B, hB⟩ : ∃ B, w.heap.size = B := ⟨_, rfl⟩
    have HB : Hid (w.heap.size = B) := hB
    rw [hB]
    clear hB
    go_enter Tryd.func22, Tryd.ntmps22
    go_wp2
    go_loopw [13] (fun i w1 => ∃ k : Nat, k ≤ n ∧ i = .int .i64 k ∧ Below B w w1 ∧ ∀ j : Nat, j < k → fAt l j = 0) (fun i _ => n - (intOf i).toNat)
    case atStart => exact ⟨0, Nat.zero_le _, rfl, Below.refl _ _, by simp⟩
    case round =>
      obtain ⟨k, hk, rfl, hbl, hall⟩ := hrel
      have HALL : Hid (∀ j : Nat, j < k → fAt l j = 0) := hall
      clear hall
      by_cases hlt : k < n
      · have ha := HA.out
        have hkl : k < l.length := by rw [HN.out]; exact hlt
        obtain ⟨b, off, rfl⟩ := ha.addr hkl
        obtain ⟨am, cm, hc1, hc2, hst, _⟩ := ha.at hkl
        have hb' : Below w.heap.size w wr := by rw [HB.out]; exact hbl
        replace hc1 := cell_later hb' hc1
        replace hc2 := cell_later hb' hc2
        replace hst := hst.below hb'
        have hml := HM.out _ (mem_getDf hkl)
        have HFA : Hid (fAt l k ≠ 0 → tf l = (k, fAt l k)) := tf_at HL.out k HALL.out hkl
        have F1 : Hid (fOne (l.getD k fz) ≠ 0 → fAt l k = fOne (l.getD k fz)) := fAt_one
        have F2 : Hid (fOne (l.getD k fz) = 0 → 0 < k → bl (l.getD (k - 1) fz).1 (l.getD k fz).1 = false → fAt l k = 2) := fAt_falls
        have F3 : Hid (fOne (l.getD k fz) = 0 → (0 < k → bl (l.getD (k - 1) fz).1 (l.getD k fz).1 = true) → fAt l k = 0) := fAt_ok
        obtain ⟨p, hp⟩ : ∃ p, (l.getD k fz).1 = p := ⟨_, rfl⟩
        obtain ⟨ss, hss⟩ : ∃ ss, (l.getD k fz).2 = ss := ⟨_, rfl⟩
        rw [getD_eta2 l k hp hss] at F1 F2 F3
        rw [hp] at hc1
        rw [hss] at hc2 hst hml
        have hb0 := below_alloc wr (.cells #[.string p, .slice am ss.length cm] 70)
        have hck := checkFile p am ss cm _ (hst.below hb0) hml
        have HB0 : Hid (Below wr.heap.size wr (wr.alloc (.cells #[.string p, .slice am ss.length cm] 70))) := hb0
        have hszB : B ≤ wr.heap.size := by have := hbl.size; have := HB.out; omega
        obtain ⟨q, hq⟩ : ∃ q, ss.length = q := ⟨_, rfl⟩
        rw [hq] at hc2 hck HB0
        clear hst hml hb0 hq hp hss
        by_cases h1 : fOne (p, ss) = 0
        · rw [h1, errV_zero] at hck
          have H1 : Hid (fOne (p, ss) = 0) := h1
          clear h1 F1
          by_cases hk0 : 0 < (k : Int)
          · obtain ⟨m, rfl⟩ : ∃ m, k = m + 1 := ⟨k - 1, by omega⟩
            obtain ⟨am2, cm2, hd1, _, _, _⟩ := ha.at (i := m) (by omega)
            replace hd1 := cell_later hb' hd1
            rw [Nat.add_sub_cancel] at F2 F3
            obtain ⟨p2, hp2⟩ : ∃ p2, (l.getD m fz).1 = p2 := ⟨_, rfl⟩
            rw [hp2] at hd1 F2 F3
            have hwm : IntKind.i64.wrap (m : Int) = m := by rw [IntKind.wrap_i64]; omega
            have hmn : m < n := by omega
            clear ha hp2 hkl hk0
            go_wp2_with (go_at_call 50; refine hck.mono ?_; rintro e w1 ⟨rfl, hb1⟩; obtain ⟨d0, d1⟩ := cells2_later hb1; have hb1 := HB0.out.trans (hb1.mono HB0.out.size); replace hd1 := cell_later hb1 hd1; have hb1 := hbl.trans (hb1.mono hszB); clear hck HB0 hbl hc1 hc2 d1 hb')
            by_cases h2 : Op.bytesLess p2.toList p.toList = true
            · have HG : Hid (fAt l (m + 1) = 0) := F3.out H1.out (fun _ => h2)
              go_quiet (fail)
              go_wp2
              go_roundw
              case rel => exact ⟨m + 1 + 1, by omega, by go_num, below_drawn hb1, fun j hj => by
                by_cases e : j = m + 1
                · rw [e]; exact HG.out
                · exact HALL.out j (by omega)⟩
              case measure => simp [intOf]; omega
            · have h2 : Op.bytesLess p2.toList p.toList = false := by simpa using h2
              have HG : Hid (fAt l (m + 1) = 2) := F2.out H1.out (by omega) h2
              go_quiet (fail)
              go_wp2
              go_ret2
              refine ⟨?_, below_drawn hb1⟩
              rw [HFA.out (by rw [HG.out]; decide), HG.out]; rfl
          · have HG : Hid (fAt l k = 0) := F3.out H1.out (fun h => by omega)
            have hkd : decide (0 < k) = false := decide_eq_false (by omega)
            clear ha hkl
            go_wp2_with (go_at_call 50; refine hck.mono ?_; rintro e w1 ⟨rfl, hb1⟩; have hb1 := HB0.out.trans (hb1.mono HB0.out.size); have hb1 := hbl.trans (hb1.mono hszB); clear hck HB0 hbl hc1 hc2 hb')
            go_quiet (fail)
            go_wp2
            go_roundw
            case rel => exact ⟨k + 1, by omega, by go_num, below_drawn hb1, fun j hj => by
              by_cases e : j = k
              · rw [e]; exact HG.out
              · exact HALL.out j (by omega)⟩
            case measure => simp [intOf]; omega
        · have HG : Hid (fAt l k = fOne (p, ss)) := F1.out h1
          rw [errV_not h1] at hck
          have H1 : Hid (fOne (p, ss) ≠ 0) := h1
          clear h1 ha F1 F2 F3 hkl
          go_wp2_with (go_at_call 50; refine hck.mono ?_)
          rintro e w1 ⟨rfl, hb1⟩
          have hb1 := HB0.out.trans (hb1.mono HB0.out.size)
          have hb1 := hbl.trans (hb1.mono hszB)
          clear hck HB0 hbl
          go_wp2
          go_ret2
          refine ⟨?_, hb1⟩
          rw [HFA.out (by rw [HG.out]; exact H1.out), HG.out, errV_not H1.out]; rfl
      · go_wp2
        go_ret2
        refine ⟨?_, hbl⟩
        rw [tf_ok HL.out fun j hj => HALL.out j (by have := HN.out; omega)]; rfl

end Go.Proofs.YtnkdmgekpajfhaeDoor
