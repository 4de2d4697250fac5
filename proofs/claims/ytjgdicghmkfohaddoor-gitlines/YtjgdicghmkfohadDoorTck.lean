/-
  Walks of tree.checkFile and tree.Check: the fault of a file, the first fault of files.
-/
import Derived.Test.YtjgdicghmkfohadDoorFls

namespace Go.Proofs.YtjgdicghmkfohadDoor
open Go.RowKit

theorem ret_ti {a c : Int} {b d : Value} (h : a = c) (h2 : b = d) : Ending.returned (.tuple #[.int .i64 a, b]) = .returned (.tuple #[.int .i64 c, d]) := by rw [h, h2]

/-- The two cells of a new block, later. -/
theorem cells2_later {w w1 : World} {x y : Value} {t : TypeId} (hb : Below (w.alloc (.cells #[x, y] t)).heap.size (w.alloc (.cells #[x, y] t)) w1) : w1.cell? ⟨w.heap.size, 0, none⟩ = some x ∧ w1.cell? ⟨w.heap.size, 1, none⟩ = some y := by
  have h := blk_below hb (by simp) (heap_alloc_new w (.cells #[x, y] t))
  exact ⟨Lib.cell_of_heap h 0, Lib.cell_of_heap h 1⟩

set_option maxHeartbeats 1000000 in
theorem checkFile (p : ByteArray) (a : Option Addr) (ss : List ByteArray) (ca : Nat) (w : World) (ha : Strs w a ss) (hm : ss.length ≤ maxLen) :
    Calls Tryd.prog 37 #[.agg #[.string p, .slice a ss.length ca]] w fun e w' => e = .returned (errV (fOne (p, ss))) ∧ Below w.heap.size w w' := by
  have hb0 := below_alloc w (.cells #[.string p, .slice a ss.length ca] 30)
  have hpa := path_any p (w.alloc (.cells #[.string p, .slice a ss.length ca] 30))
  have HCK := fun w' (h : Strs w' a ss) => check_any a ss ca w' h hm
  have HB0 : Hid (Below w.heap.size w (w.alloc (.cells #[.string p, .slice a ss.length ca] 30))) := hb0
  have HA : Hid (Strs w a ss) := ha
  have E1 : Hid (pf p.data.toList ≠ 0 → fOne (p, ss) = pf p.data.toList) := fun h => fOne_path (x := (p, ss)) h
  have E2 : Hid (pf p.data.toList = 0 → fOne (p, ss) = lsf (bts ss)) := fun h => fOne_lines (x := (p, ss)) h
  obtain ⟨n, hn⟩ : ∃ n, ss.length = n := ⟨_, rfl⟩
  obtain ⟨g, hg⟩ : ∃ g, fOne (p, ss) = g := ⟨_, rfl⟩
  rw [hn] at hpa HCK HB0
  rw [hg] at E1 E2 ⊢
  rw [hn]
  clear ha hm hn hb0 hg
  by_cases h1 : pf p.data.toList = 0
  · rw [h1, errV_zero] at hpa
    have HG : Hid (g = lsf (bts ss)) := E2.out h1
    clear h1 E1 E2
    go_enter Tryd.func37, Tryd.ntmps37
    go_wp2_with (go_at_call 34; refine hpa.mono ?_)
    rintro e w1 ⟨rfl, hb1⟩
    obtain ⟨d0, d1⟩ := cells2_later hb1
    have hb1 := HB0.out.trans (hb1.mono HB0.out.size)
    have hck := HCK w1 (HA.out.below hb1)
    clear hpa HB0 HCK
    go_wp2_with (go_at_call 56; refine hck.mono ?_)
    rintro e w2 ⟨rfl, rfl⟩
    go_wp2
    go_ret
    exact ⟨ret_v (by rw [HG.out]; rfl), hb1⟩
  · have HG : Hid (g = pf p.data.toList) := E1.out h1
    rw [errV_not h1] at hpa
    have H1 : Hid (pf p.data.toList ≠ 0) := h1
    clear h1 E1 E2 HCK
    go_enter Tryd.func37, Tryd.ntmps37
    go_wp2_with (go_at_call 34; refine hpa.mono ?_)
    rintro e w1 ⟨rfl, hb1⟩
    have hb1 := HB0.out.trans (hb1.mono HB0.out.size)
    clear hpa HB0
    go_wp2
    go_ret
    refine ⟨ret_v ?_, hb1⟩
    rw [HG.out, errV_not H1.out]; rfl

theorem getD_eta2 (l : List Fl) (k : Nat) {p : ByteArray} {ss : List ByteArray} (h1 : (l.getD k fz).1 = p) (h2 : (l.getD k fz).2 = ss) : l.getD k fz = (p, ss) := by
  rw [← h1, ← h2]

set_option maxRecDepth 100000 in
set_option maxHeartbeats 1000000 in
theorem treeCheck (a : Option Addr) (l : List Fl) (ca : Nat) (w : World) (ha : Fls w a l) (hm : l.length ≤ maxLen) (hms : ∀ x ∈ l, x.2.length ≤ maxLen) :
    Calls Tryd.prog 18 #[.slice a l.length ca] w fun e w' => e = .returned (.tuple #[.int .i64 (tf l).1, errV (tf l).2]) ∧ Below w.heap.size w w' := by
  unfold maxLen at hm
  obtain ⟨n, hn⟩ : ∃ n, l.length = n := ⟨_, rfl⟩
  rw [hn] at hm ⊢
  by_cases hbig : 8 < (n : Int)
  · have he : Hid (tf l = (0, 3)) := tf_big (by rw [hn]; omega)
    clear hn ha hms
    go_enter Tryd.func18, Tryd.ntmps18
    go_wp2
    go_ret2
    refine ⟨?_, Below.refl _ _⟩
    rw [he.out]; rfl
  · have HN : Hid (l.length = n) := hn
    have HL : Hid (l.length ≤ 8) := by show l.length ≤ 8; omega
    have HA : Hid (Fls w a l) := ha
    have HM : Hid (∀ x ∈ l, x.2.length ≤ maxLen) := hms
    clear hn ha hms
    obtain ⟨B, hB⟩ : ∃ B, w.heap.size = B := ⟨_, rfl⟩
    have HB : Hid (w.heap.size = B) := hB
    rw [hB]
    clear hB
    go_enter Tryd.func18, Tryd.ntmps18
    go_wp2
    go_loopw [13] (fun i w1 => ∃ k : Nat, k ≤ n ∧ i = .int .i64 k ∧ Below B w w1 ∧ ∀ j : Nat, j < k → fAt l j = 0) (fun i _ => n - (intOf i).toNat)
    case atStart => exact ⟨0, Nat.zero_le _, rfl, Below.refl _ _, by simp⟩
    case round =>
      obtain ⟨k, hk, rfl, hbl, hall⟩ := hrel
      have HALL : Hid (∀ j : Nat, j < k → fAt l j = 0) := hall
      clear hall
      by_cases hlt : k < n
      · have ha := HA.out
        have hkl : k < l.length := by rw [HN.out]; exact hlt
        obtain ⟨b, off, rfl⟩ := ha.addr hkl
        obtain ⟨am, cm, hc1, hc2, hst, _⟩ := ha.at hkl
        have hb' : Below w.heap.size w wr := by rw [HB.out]; exact hbl
        replace hc1 := cell_later hb' hc1
        replace hc2 := cell_later hb' hc2
        replace hst := hst.below hb'
        have hml := HM.out _ (mem_getDf hkl)
        have HFA : Hid (fAt l k ≠ 0 → tf l = (k, fAt l k)) := tf_at HL.out k HALL.out hkl
        have F1 : Hid (fOne (l.getD k fz) ≠ 0 → fAt l k = fOne (l.getD k fz)) := fAt_one
        have F2 : Hid (fOne (l.getD k fz) = 0 → 0 < k → bl (l.getD (k - 1) fz).1 (l.getD k fz).1 = false → fAt l k = 2) := fAt_falls
        have F3 : Hid (fOne (l.getD k fz) = 0 → (0 < k → bl (l.getD (k - 1) fz).1 (l.getD k fz).1 = true) → fAt l k = 0) := fAt_ok
        obtain ⟨p, hp⟩ : ∃ p, (l.getD k fz).1 = p := ⟨_, rfl⟩
        obtain ⟨ss, hss⟩ : ∃ ss, (l.getD k fz).2 = ss := ⟨_, rfl⟩
        rw [getD_eta2 l k hp hss] at F1 F2 F3
        rw [hp] at hc1
        rw [hss] at hc2 hst hml
        have hb0 := below_alloc wr (.cells #[.string p, .slice am ss.length cm] 30)
        have hck := checkFile p am ss cm _ (hst.below hb0) hml
        have HB0 : Hid (Below wr.heap.size wr (wr.alloc (.cells #[.string p, .slice am ss.length cm] 30))) := hb0
        have hszB : B ≤ wr.heap.size := by have := hbl.size; have := HB.out; omega
        obtain ⟨q, hq⟩ : ∃ q, ss.length = q := ⟨_, rfl⟩
        rw [hq] at hc2 hck HB0
        clear hst hml hb0 hq hp hss
        by_cases h1 : fOne (p, ss) = 0
        · rw [h1, errV_zero] at hck
          have H1 : Hid (fOne (p, ss) = 0) := h1
          clear h1 F1
          by_cases hk0 : 0 < (k : Int)
          · obtain ⟨m, rfl⟩ : ∃ m, k = m + 1 := ⟨k - 1, by omega⟩
            obtain ⟨am2, cm2, hd1, _, _, _⟩ := ha.at (i := m) (by omega)
            replace hd1 := cell_later hb' hd1
            rw [Nat.add_sub_cancel] at F2 F3
            obtain ⟨p2, hp2⟩ : ∃ p2, (l.getD m fz).1 = p2 := ⟨_, rfl⟩
            rw [hp2] at hd1 F2 F3
            have hwm : IntKind.i64.wrap (m : Int) = m := by rw [IntKind.wrap_i64]; omega
            have hmn : m < n := by omega
            clear ha hp2 hkl hk0
            go_wp2_with (go_at_call 37; refine hck.mono ?_; rintro e w1 ⟨rfl, hb1⟩; obtain ⟨d0, d1⟩ := cells2_later hb1; have hb1 := HB0.out.trans (hb1.mono HB0.out.size); replace hd1 := cell_later hb1 hd1; have hb1 := hbl.trans (hb1.mono hszB); clear hck HB0 hbl hc1 hc2 d1 hb')
            by_cases h2 : Op.bytesLess p2.toList p.toList = true
            · have HG : Hid (fAt l (m + 1) = 0) := F3.out H1.out (fun _ => h2)
              go_quiet (fail)
              go_wp2
              go_roundw
              case rel => exact ⟨m + 1 + 1, by omega, by go_num, below_drawn hb1, fun j hj => by
                by_cases e : j = m + 1
                · rw [e]; exact HG.out
                · exact HALL.out j (by omega)⟩
              case measure => simp [intOf]; omega
            · have h2 : Op.bytesLess p2.toList p.toList = false := by simpa using h2
              have HG : Hid (fAt l (m + 1) = 2) := F2.out H1.out (by omega) h2
              go_quiet (fail)
              go_wp2
              go_ret2
              refine ⟨?_, below_drawn hb1⟩
              rw [HFA.out (by rw [HG.out]; decide), HG.out]; rfl
          · have HG : Hid (fAt l k = 0) := F3.out H1.out (fun h => by omega)
            have hkd : decide (0 < k) = false := decide_eq_false (by omega)
            clear ha hkl
            go_wp2_with (go_at_call 37; refine hck.mono ?_; rintro e w1 ⟨rfl, hb1⟩; have hb1 := HB0.out.trans (hb1.mono HB0.out.size); have hb1 := hbl.trans (hb1.mono hszB); clear hck HB0 hbl hc1 hc2 hb')
            go_quiet (fail)
            go_wp2
            go_roundw
            case rel => exact ⟨k + 1, by omega, by go_num, below_drawn hb1, fun j hj => by
              by_cases e : j = k
              · rw [e]; exact HG.out
              · exact HALL.out j (by omega)⟩
            case measure => simp [intOf]; omega
        · have HG : Hid (fAt l k = fOne (p, ss)) := F1.out h1
          rw [errV_not h1] at hck
          have H1 : Hid (fOne (p, ss) ≠ 0) := h1
          clear h1 ha F1 F2 F3 hkl
          go_wp2_with (go_at_call 37; refine hck.mono ?_)
          rintro e w1 ⟨rfl, hb1⟩
          have hb1 := HB0.out.trans (hb1.mono HB0.out.size)
          have hb1 := hbl.trans (hb1.mono hszB)
          clear hck HB0 hbl
          go_wp2
          go_ret2
          refine ⟨?_, hb1⟩
          rw [HFA.out (by rw [HG.out]; exact H1.out), HG.out, errV_not H1.out]; rfl
      · go_wp2
        go_ret2
        refine ⟨?_, hbl⟩
        rw [tf_ok HL.out fun j hj => HALL.out j (by have := HN.out; omega)]; rfl

end Go.Proofs.YtjgdicghmkfohadDoor
