/-
  Walks of the comparison of two hunks and of two lists of the same hunks, and of hunk.Cut and hunk.Turn where there is a fault.
-/
import Derived.Test.YtjgdicghmkfohacGreatDoorCut2
import Derived.Deep.RegionWith

namespace Go.Proofs.YtjgdicghmkfohacGreatDoor
open Go.RowKit Dist

set_option maxHeartbeats 400000 in
theorem turn_bad (a : Option Addr) (l : List (Int × Int × List (Int × ByteArray))) (ca : Nat) (w : World) (ha : Hks w a l) (hm : l.length ≤ maxLen) (hms : ∀ h ∈ l, h.2.2.length ≤ maxLen) (hf0 : (hf l).2 ≠ 0) :
    Calls Tryz.prog 39 #[.slice a l.length ca] w fun e w' => e = .returned (.tuple #[.slice none 0 0, .iface 23 (.int .i64 (hf l).2)]) ∧ Below w.heap.size w w' := by
  have hck := hunkCheck a l ca w ha hm hms
  rw [errV_not hf0] at hck
  obtain ⟨n, hn⟩ : ∃ n, l.length = n := ⟨_, rfl⟩
  obtain ⟨f, hf⟩ : ∃ f, (hf l).2 = f := ⟨_, rfl⟩
  rw [hn, hf] at hck
  rw [hn, hf]
  clear ha hm hms hf0 hn hf
  go_enter Tryz.func39, Tryz.ntmps39
  go_wp2_with (go_at_call 26; refine hck.mono ?_)
  rintro e w0 ⟨rfl, hb0⟩
  clear hck
  go_wp2
  go_ret2
  exact ⟨rfl, hb0⟩

set_option maxHeartbeats 400000 in
theorem hunk_eq (o p : Int) (a b : Option Addr) (ms : List (Int × ByteArray)) (ca cb : Nat) (w : World) (ha : Mks w a ms) (hb : Mks w b ms) (hm : ms.length ≤ maxLen) :
    Calls Tryz.prog 36 #[.agg #[.int .i64 o, .int .i64 p, .slice a ms.length ca], .agg #[.int .i64 o, .int .i64 p, .slice b ms.length cb]] w fun e w' => e = .returned (.bool true) ∧ Below w.heap.size w w' := by
  have hb0 := below_alloc w (.cells #[.int .i64 o, .int .i64 p, .slice a ms.length ca] 42)
  have hb00 := below_alloc (w.alloc (.cells #[.int .i64 o, .int .i64 p, .slice a ms.length ca] 42)) (.cells #[.int .i64 o, .int .i64 p, .slice b ms.length cb] 42)
  have hmk := marks_eq a b ms ca cb _ ((ha.below hb0).below hb00) ((hb.below hb0).below hb00) hm
  have hbb := hb0.trans (hb00.mono hb0.size)
  have d := cells_later hb00
  obtain ⟨q, hq⟩ : ∃ q, ms.length = q := ⟨_, rfl⟩
  rw [hq] at hmk hbb d
  rw [hq]
  have HBB : Hid (Below w.heap.size w ((w.alloc (.cells #[.int .i64 o, .int .i64 p, .slice a q ca] 42)).alloc (.cells #[.int .i64 o, .int .i64 p, .slice b q cb] 42))) := hbb
  have D : Hid (((w.alloc (.cells #[.int .i64 o, .int .i64 p, .slice a q ca] 42)).alloc (.cells #[.int .i64 o, .int .i64 p, .slice b q cb] 42)).cell? ⟨w.heap.size, 0, none⟩ = some (.int .i64 o) ∧ ((w.alloc (.cells #[.int .i64 o, .int .i64 p, .slice a q ca] 42)).alloc (.cells #[.int .i64 o, .int .i64 p, .slice b q cb] 42)).cell? ⟨w.heap.size, 1, none⟩ = some (.int .i64 p)) := ⟨d.1, d.2.1⟩
  clear hb0 hb00 ha hb hm hbb hq d
  go_enter Tryz.func36, Tryz.ntmps36
  go_wp2_with (go_at_call 65; refine hmk.mono ?_)
  rintro e w1 ⟨rfl, hb1⟩
  have c0 := cell_later hb1 D.out.1
  have c1 := cell_later hb1 D.out.2
  have k := cells_later (w := w.alloc (.cells #[.int .i64 o, .int .i64 p, .slice a q ca] 42)) hb1
  obtain ⟨c2, c3, _⟩ := k
  simp at c2 c3
  have hb1 := HBB.out.trans (hb1.mono HBB.out.size)
  clear hmk HBB D
  go_wp2
  go_ret
  exact ⟨rfl, hb1⟩

set_option maxRecDepth 100000 in
set_option maxHeartbeats 2000000 in
theorem hunks_eq (a b : Option Addr) (l : List (Int × Int × List (Int × ByteArray))) (ca cb : Nat) (w : World) (ha : Hks w a l) (hb : Hks w b l) (hm : l.length ≤ maxLen) (hms : ∀ h ∈ l, h.2.2.length ≤ maxLen) :
    Calls Tryz.prog 12 #[.slice a l.length ca, .slice b l.length cb] w fun e w' => e = .returned (.bool true) ∧ Below w.heap.size w w' := by
  unfold maxLen at hm
  obtain ⟨n, hn⟩ : ∃ n, l.length = n := ⟨_, rfl⟩
  rw [hn] at hm ⊢
  have HN : Hid (l.length = n) := hn
  have HA : Hid (Hks w a l) := ha
  have HBB : Hid (Hks w b l) := hb
  have HM : Hid (∀ h ∈ l, h.2.2.length ≤ maxLen) := hms
  clear hn ha hb hms
  obtain ⟨B, hB⟩ : ∃ B, w.heap.size = B := ⟨_, rfl⟩
  have HB : Hid (w.heap.size = B) := hB
  rw [hB]
  clear hB
  go_enter Tryz.func12, Tryz.ntmps12
  go_wp2
  go_loopw [5] (fun i w1 => ∃ k : Nat, k ≤ n ∧ i = .int .i64 k ∧ Below B w w1) (fun i _ => n - (intOf i).toNat)
  case atStart => exact ⟨0, Nat.zero_le _, rfl, Below.refl _ _⟩
  case round =>
    obtain ⟨k, hk, rfl, hbl⟩ := hrel
    by_cases hlt : k < n
    · have ha := HA.out
      have hb := HBB.out
      have hkl : k < l.length := by rw [HN.out]; exact hlt
      obtain ⟨b1, o1, am1, cm1, rfl, hc1, hc2, hc3, hmk1⟩ := ha.at (i := k) hkl
      obtain ⟨b2, o2, am2, cm2, rfl, hd1, hd2, hd3, hmk2⟩ := hb.at (i := k) hkl
      clear ha hb
      have hb' : Below w.heap.size w wr := by rw [HB.out]; exact hbl
      replace hc1 := cell_later hb' hc1
      replace hc2 := cell_later hb' hc2
      replace hc3 := cell_later hb' hc3
      replace hd1 := cell_later hb' hd1
      replace hd2 := cell_later hb' hd2
      replace hd3 := cell_later hb' hd3
      have hml := HM.out _ (mem_getD3 hkl)
      obtain ⟨o, ho⟩ : ∃ o, (l.getD k (0, 0, [])).1 = o := ⟨_, rfl⟩
      obtain ⟨p, hp⟩ : ∃ p, (l.getD k (0, 0, [])).2.1 = p := ⟨_, rfl⟩
      obtain ⟨ms, hms⟩ : ∃ ms, (l.getD k (0, 0, [])).2.2 = ms := ⟨_, rfl⟩
      rw [ho] at hc1 hd1
      rw [hp] at hc2 hd2
      rw [hms] at hc3 hd3 hmk1 hmk2 hml
      have hheq := hunk_eq o p am1 am2 ms cm1 cm2 wr.drew (hmk1.below (hb'.trans (show Below w.heap.size wr wr.drew from ⟨rfl, rfl, rfl, Nat.le_refl _, fun _ _ => rfl⟩))) (hmk2.below (hb'.trans (show Below w.heap.size wr wr.drew from ⟨rfl, rfl, rfl, Nat.le_refl _, fun _ _ => rfl⟩))) hml
      obtain ⟨q, hq⟩ : ∃ q, ms.length = q := ⟨_, rfl⟩
      rw [hq] at hc3 hd3 hheq
      clear ho hp hms hml hb' hmk1 hmk2 hq hkl
      go_wp2
      go_region_with (go_at_call 36; refine hheq.mono ?_; rintro e w2 ⟨rfl, hb2⟩)
      all_goals
        have hb3 : Below B w w2 := (hbl.trans (show Below B wr wr.drew from ⟨rfl, rfl, rfl, Nat.le_refl _, fun _ _ => rfl⟩)).trans (hb2.mono (by have := hbl.size; have := HB.out; show B ≤ wr.heap.size; omega))
        clear hheq hb2
        go_wp2
        go_roundw
        case rel => exact ⟨k + 1, by omega, by go_num, hb3⟩
        case measure => simp [intOf]; omega
    · go_wp2
      go_ret
      exact ⟨rfl, hbl⟩

theorem hunksNil (w : World) : Calls Tryz.prog 12 #[.slice none 0 0, .slice none 0 0] w fun e w' => e = .returned (.bool true) ∧ Below w.heap.size w w' :=
  hunks_eq none none [] 0 0 w (Hks.nil _ _) (Hks.nil _ _) (by simp) (by simp)

end Go.Proofs.YtjgdicghmkfohacGreatDoor
