/-
  Walks of the comparison of two hunks and of two lists of the same hunks, and of hunk.Cut and hunk.Turn where there is a fault.
-/
import Derived.Test.YtnkdmgekpajfhaeDoorCut2
import Derived.Deep.RegionWith

namespace Go.Proofs.YtnkdmgekpajfhaeDoor
open Go.RowKit Dist

set_option maxHeartbeats 400000 in
theorem cut_bad (a : Option Addr) (ms : List (Int × ByteArray)) (ca : Nat) (n : Int) (w : World) (ha : Mks w a ms) (hm : ms.length ≤ maxLen) (hc : cf ms n ≠ 0) :
    Calls Tryd.prog 88 #[.slice a ms.length ca, .int .i64 n] w fun e w' => e = .returned (.tuple #[.slice none 0 0, .iface 45 (.int .i64 (cf ms n))]) ∧ Below w.heap.size w w' := by
  have hb0 := below_alloc w (.cells #[.slice a ms.length ca] 38)
  have hb00 := below_alloc (w.alloc (.cells #[.slice a ms.length ca] 38)) (.cells #[.int .i64 n] 3)
  have hck := checkCut a ms ca n _ ((ha.below hb0).below hb00) hm
  rw [errV_not hc] at hck
  have hbb := hb0.trans (hb00.mono hb0.size)
  obtain ⟨q, hq⟩ : ∃ q, ms.length = q := ⟨_, rfl⟩
  obtain ⟨f, hf⟩ : ∃ f, cf ms n = f := ⟨_, rfl⟩
  rw [hq] at hck hbb
  rw [hq, hf]
  rw [hf] at hck
  have HBB : Hid (Below w.heap.size w ((w.alloc (.cells #[.slice a q ca] 38)).alloc (.cells #[.int .i64 n] 3))) := hbb
  clear hb0 hb00 ha hc hm hbb hq hf
  go_enter Tryd.func88, Tryd.ntmps88
  go_wp2_with (go_at_call 101; refine hck.mono ?_)
  rintro e w0 ⟨rfl, hb0⟩
  have hb0 := HBB.out.trans (hb0.mono HBB.out.size)
  clear hck HBB
  go_wp2
  go_ret2
  exact ⟨rfl, hb0⟩

set_option maxHeartbeats 400000 in
theorem turn_bad (a : Option Addr) (l : List (Int × Int × List (Int × ByteArray))) (ca : Nat) (w : World) (ha : Hks w a l) (hm : l.length ≤ maxLen) (hms : ∀ h ∈ l, h.2.2.length ≤ maxLen) (hf0 : (hf l).2 ≠ 0) :
    Calls Tryd.prog 29 #[.slice a l.length ca] w fun e w' => e = .returned (.tuple #[.slice none 0 0, .iface 45 (.int .i64 (hf l).2)]) ∧ Below w.heap.size w w' := by
  have hck := hunkCheck a l ca w ha hm hms
  rw [errV_not hf0] at hck
  obtain ⟨n, hn⟩ : ∃ n, l.length = n := ⟨_, rfl⟩
  obtain ⟨f, hf⟩ : ∃ f, (hf l).2 = f := ⟨_, rfl⟩
  rw [hn, hf] at hck
  rw [hn, hf]
  clear ha hm hms hf0 hn hf
  go_enter Tryd.func29, Tryd.ntmps29
  go_wp2_with (go_at_call 41; refine hck.mono ?_)
  rintro e w0 ⟨rfl, hb0⟩
  clear hck
  go_wp2
  go_ret2
  exact ⟨rfl, hb0⟩

set_option maxHeartbeats 400000 in
theorem hunk_eq (o p : Int) (a b : Option Addr) (ms : List (Int × ByteArray)) (ca cb : Nat) (w : World) (ha : Mks w a ms) (hb : Mks w b ms) (hm : ms.length ≤ maxLen) :
    Calls Tryd.prog 16 #[.agg #[.int .i64 o, .int .i64 p, .slice a ms.length ca], .agg #[.int .i64 o, .int .i64 p, .slice b ms.length cb]] w fun e w' => e = .returned (.bool true) ∧ Below w.heap.size w w' := by
  have hb0 := below_alloc w (.cells #[.int .i64 o, .int .i64 p, .slice a ms.length ca] 40)
  have hb00 := below_alloc (w.alloc (.cells #[.int .i64 o, .int .i64 p, .slice a ms.length ca] 40)) (.cells #[.int .i64 o, .int .i64 p, .slice b ms.length cb] 40)
  have hmk := marks_eq a b ms ca cb _ ((ha.below hb0).below hb00) ((hb.below hb0).below hb00) hm
  have hbb := hb0.trans (hb00.mono hb0.size)
  have d := cells_later hb00
  obtain ⟨q, hq⟩ : ∃ q, ms.length = q := ⟨_, rfl⟩
  rw [hq] at hmk hbb d
  rw [hq]
  have HBB : Hid (Below w.heap.size w ((w.alloc (.cells #[.int .i64 o, .int .i64 p, .slice a q ca] 40)).alloc (.cells #[.int .i64 o, .int .i64 p, .slice b q cb] 40))) := hbb
  have D : Hid (((w.alloc (.cells #[.int .i64 o, .int .i64 p, .slice a q ca] 40)).alloc (.cells #[.int .i64 o, .int .i64 p, .slice b q cb] 40)).cell? ⟨w.heap.size, 0, none⟩ = some (.int .i64 o) ∧ ((w.alloc (.cells #[.int .i64 o, .int .i64 p, .slice a q ca] 40)).alloc (.cells #[.int .i64 o, .int .i64 p, .slice b q cb] 40)).cell? ⟨w.heap.size, 1, none⟩ = some (.int .i64 p)) := ⟨d.1, d.2.1⟩
  clear hb0 hb00 ha hb hm hbb hq d
  go_enter Tryd.func16, Tryd.ntmps16
  go_wp2_with (go_at_call 39; refine hmk.mono ?_)
  rintro e w1 ⟨rfl, hb1⟩
  have c0 := cell_later hb1 D.out.1
  have c1 := cell_later hb1 D.out.2
  have k := cells_later (w := w.alloc (.cells #[.int .i64 o, .int .i64 p, .slice a q ca] 40)) hb1
  obtain ⟨c2, c3, _⟩ := k
  simp at c2 c3
  have hb1 := HBB.out.trans (hb1.mono HBB.out.size)
  clear hmk HBB D
  go_wp2
  go_ret
  exact ⟨rfl, hb1⟩

end Go.Proofs.YtnkdmgekpajfhaeDoor
