/-
  Walks of the document's TreeFault, Place, DropOf and of the comparison of two trees.
-/
import Derived.Test.YtnkdmgekpajfhaeDoorCcf
import Derived.Test.YtnkdmgekpajfhaeDoorXb
import Derived.Deep.RegionWith
namespace Go.Proofs.YtnkdmgekpajfhaeDoor
open Go.RowKit

theorem ret_tii {a c b d : Int} (h : a = c) (h2 : b = d) : Ending.returned (.tuple #[.int .i64 a, .int .i64 b]) = .returned (.tuple #[.int .i64 c, .int .i64 d]) := by rw [h, h2]

theorem texts_alike (a b : Option Addr) (xs : List ByteArray) (ca cb : Nat) (w : World) (ha : Strs w a xs) (hb : Strs w b xs) (hm : xs.length ≤ maxLen) :
    Calls Tryd.prog 18 #[.slice a xs.length ca, .slice b xs.length cb] w fun e w' => e = .returned (.bool true) ∧ Below w.heap.size w w' := by
  refine (texts_same a b xs xs ca cb w ha hb rfl hm).mono fun e w' ⟨he, n, hw⟩ => ⟨?_, ?_⟩
  · rw [he]; exact ret_b (decide_eq_true rfl)
  · rw [hw]; exact below_drawn (Below.refl _ _)

set_option maxRecDepth 100000 in
set_option maxHeartbeats 2000000 in
theorem trees_eq (a b : Option Addr) (l : List Fl) (ca cb : Nat) (w : World) (ha : Fls w a l) (hb : Fls w b l) (hm : l.length ≤ maxLen) (hms : ∀ x ∈ l, x.2.length ≤ maxLen) :
    Calls Tryd.prog 9 #[.slice a l.length ca, .slice b l.length cb] w fun e w' => e = .returned (.bool true) ∧ Below w.heap.size w w' := by
  unfold maxLen at hm
  obtain ⟨n, hn⟩ : ∃ n, l.length = n := ⟨_, rfl⟩
  rw [hn] at hm ⊢
  have HN : Hid (l.length = n) := hn
  have HA : Hid (Fls w a l) := ha
  have HBB : Hid (Fls w b l) := hb
  have HM : Hid (∀ x ∈ l, x.2.length ≤ maxLen) := hms
  clear hn ha hb hms
  obtain ⟨B, hB⟩ : ∃ B, w.heap.size = B := ⟨_, rfl⟩
  have HB : Hid (w.heap.size = B) := hB
  rw [hB]
  clear hB
  go_enter Tryd.func9, Tryd.ntmps9
  go_wp2
  go_loopw [5] (fun i w1 => ∃ k : Nat, k ≤ n ∧ i = .int .i64 k ∧ Below B w w1) (fun i _ => n - (intOf i).toNat)
  case atStart => exact ⟨0, Nat.zero_le _, rfl, Below.refl _ _⟩
  case round =>
    obtain ⟨k, hk, rfl, hbl⟩ := hrel
    by_cases hlt : k < n
    · have ha := HA.out
      have hb := HBB.out
      have hkl : k < l.length := by rw [HN.out]; exact hlt
      obtain ⟨b1, o1, rfl⟩ := ha.addr hkl
      obtain ⟨b2, o2, rfl⟩ := hb.addr hkl
      obtain ⟨am1, cm1, hc1, hc2, hs1, _⟩ := ha.at hkl
      obtain ⟨am2, cm2, hd1, hd2, hs2, _⟩ := hb.at hkl
      clear ha hb
      have hb' : Below w.heap.size w wr := by rw [HB.out]; exact hbl
      have hdr : Below wr.heap.size wr wr.drew := ⟨rfl, rfl, rfl, Nat.le_refl _, fun _ _ => rfl⟩
      replace hc1 := cell_later hb' hc1
      replace hc2 := cell_later hb' hc2
      replace hd1 := cell_later hb' hd1
      replace hd2 := cell_later hb' hd2
      have hml := HM.out _ (mem_getDf hkl)
      obtain ⟨p, hp⟩ : ∃ p, (l.getD k fz).1 = p := ⟨_, rfl⟩
      obtain ⟨ss, hss⟩ : ∃ ss, (l.getD k fz).2 = ss := ⟨_, rfl⟩
      rw [hp] at hc1 hd1
      rw [hss] at hc2 hd2 hs1 hs2 hml
      have htx := texts_alike am1 am2 ss cm1 cm2 wr.drew ((hs1.below hb').below hdr) ((hs2.below hb').below hdr) hml
      obtain ⟨q, hq⟩ : ∃ q, ss.length = q := ⟨_, rfl⟩
      rw [hq] at hc2 hd2 htx
      have KK : Hid (∀ w2, Below wr.drew.heap.size wr.drew w2 → w2.cell? ⟨b1, o1 + k * 2, none⟩ = some (.string p) ∧ w2.cell? ⟨b2, o2 + k * 2, none⟩ = some (.string p) ∧ Below B w w2) := fun w2 h => by
        have h2 := hdr.trans h
        exact ⟨cell_later h2 hc1, cell_later h2 hd1, hbl.trans (h2.mono (by have := hbl.size; have := HB.out; omega))⟩
      clear hp hss hml hb' hs1 hs2 hq hkl hdr hc1 hd1
      go_wp2
      go_region_with (go_at_call 18; refine htx.mono ?_; rintro e w2 ⟨rfl, hb2⟩)
      all_goals
        obtain ⟨c1, c2, hb3⟩ := KK.out _ hb2
        clear htx hb2 KK hc2 hd2 hbl
        go_wp2
        go_quiet (fail)
        go_wp2
        go_roundw
        case rel => exact ⟨k + 1, by omega, by go_num, below_drawn hb3⟩
        case measure => simp [intOf]; omega
    · go_wp2
      go_ret
      exact ⟨rfl, hbl⟩

end Go.Proofs.YtnkdmgekpajfhaeDoor
