/-
  Changes as they lie in memory; the walk of the comparison of two lists of the same changes.
-/
import Derived.Test.YtnkdmgekpajfhadGreatDoorPa0
import Derived.Test.YtnkdmgekpajfhadGreatDoorXx
import Derived.Deep.RegionWith

namespace Go.Proofs.YtnkdmgekpajfhadGreatDoor
open Go.RowKit Dist

/-- Changes as they lie in memory: what, a path, hunks each. -/
def Chs (w : World) (a : Option Addr) (l : List Ch) : Prop :=
  ∀ i : Nat, i < l.length → ∃ b off ah ch, a = some ⟨b, off, none⟩ ∧ w.cell? ⟨b, off + i * 3, none⟩ = some (.int .i64 (l.getD i cz).1) ∧ w.cell? ⟨b, off + i * 3 + 1, none⟩ = some (.string (l.getD i cz).2.1) ∧ w.cell? ⟨b, off + i * 3 + 2, none⟩ = some (.slice ah (l.getD i cz).2.2.length ch) ∧ Hks w ah (l.getD i cz).2.2 ∧ (l.getD i cz).2.2.length ≤ ch

theorem Chs.below {w w' : World} {a : Option Addr} {l : List Ch} (h : Chs w a l) (hb : Below w.heap.size w w') : Chs w' a l := by
  intro i hi
  obtain ⟨b, off, ah, ch, rfl, h1, h2, h3, h4, h5⟩ := h i hi
  exact ⟨b, off, ah, ch, rfl, cell_later hb h1, cell_later hb h2, cell_later hb h3, h4.below hb, h5⟩

theorem Chs.nil (w : World) (a : Option Addr) : Chs w a [] := fun _ hi => absurd hi (Nat.not_lt_zero _)

theorem Chs.addr {w : World} {a : Option Addr} {l : List Ch} (h : Chs w a l) {i : Nat} (hi : i < l.length) : ∃ b off, a = some ⟨b, off, none⟩ := by
  obtain ⟨b, off, _, _, e, _⟩ := h i hi
  exact ⟨b, off, e⟩

theorem Chs.at {w : World} {b off : Nat} {l : List Ch} (h : Chs w (some ⟨b, off, none⟩) l) {i : Nat} (hi : i < l.length) :
    ∃ ah ch, w.cell? ⟨b, off + i * 3, none⟩ = some (.int .i64 (l.getD i cz).1) ∧ w.cell? ⟨b, off + i * 3 + 1, none⟩ = some (.string (l.getD i cz).2.1) ∧ w.cell? ⟨b, off + i * 3 + 2, none⟩ = some (.slice ah (l.getD i cz).2.2.length ch) ∧ Hks w ah (l.getD i cz).2.2 ∧ (l.getD i cz).2.2.length ≤ ch := by
  obtain ⟨b', off', ah, ch, e, h1, h2, h3, h4, h5⟩ := h i hi
  simp only [Option.some.injEq, Addr.mk.injEq] at e
  obtain ⟨rfl, rfl, _⟩ := e
  exact ⟨ah, ch, h1, h2, h3, h4, h5⟩

theorem getD_etac (l : List Ch) (k : Nat) {wh : Int} {p : ByteArray} {hs : List Hk} (h1 : (l.getD k cz).1 = wh) (h2 : (l.getD k cz).2.1 = p) (h3 : (l.getD k cz).2.2 = hs) : l.getD k cz = (wh, p, hs) := by
  rw [← h1, ← h2, ← h3]

set_option maxRecDepth 100000 in
set_option maxHeartbeats 2000000 in
theorem patches_eq (a b : Option Addr) (l : List Ch) (ca cb : Nat) (w : World) (ha : Chs w a l) (hb : Chs w b l) (hm : l.length ≤ maxLen) (hml : ∀ c ∈ l, c.2.2.length ≤ maxLen) (hms : ∀ c ∈ l, ∀ h ∈ c.2.2, h.2.2.length ≤ maxLen) :
    Calls Tryz.prog 12 #[.slice a l.length ca, .slice b l.length cb] w fun e w' => e = .returned (.bool true) ∧ Below w.heap.size w w' := by
  unfold maxLen at hm
  obtain ⟨n, hn⟩ : ∃ n, l.length = n := ⟨_, rfl⟩
  rw [hn] at hm ⊢
  have HN : Hid (l.length = n) := hn
  have HA : Hid (Chs w a l) := ha
  have HBB : Hid (Chs w b l) := hb
  have HM : Hid (∀ c ∈ l, c.2.2.length ≤ maxLen) := hml
  have HMS : Hid (∀ c ∈ l, ∀ h ∈ c.2.2, h.2.2.length ≤ maxLen) := hms
  clear hn ha hb hms hml
  obtain ⟨B, hB⟩ : ∃ B, w.heap.size = B := ⟨_, rfl⟩
  have HB : Hid (w.heap.size = B) := hB
  rw [hB]
  clear hB
  go_enter Tryz.func12, Tryz.ntmps12
  go_wp2
  go_loopw [5] (fun i w1 => ∃ k : Nat, k ≤ n ∧ i = .int .i64 k ∧ Below B w w1) (fun i _ => n - (intOf i).toNat)
  case atStart => exact ⟨0, Nat.zero_le _, rfl, Below.refl _ _⟩
  case round =>
    obtain ⟨k, hk, rfl, hbl⟩ := hrel
    by_cases hlt : k < n
    · have ha := HA.out
      have hb := HBB.out
      have hkl : k < l.length := by rw [HN.out]; exact hlt
      obtain ⟨b1, o1, rfl⟩ := ha.addr hkl
      obtain ⟨b2, o2, rfl⟩ := hb.addr hkl
      obtain ⟨ah1, ch1, hc0, hc1, hc2, hs1, _⟩ := ha.at hkl
      obtain ⟨ah2, ch2, hd0, hd1, hd2, hs2, _⟩ := hb.at hkl
      clear ha hb
      have hb' : Below w.heap.size w wr := by rw [HB.out]; exact hbl
      have hdr : Below wr.heap.size wr wr.drew := ⟨rfl, rfl, rfl, Nat.le_refl _, fun _ _ => rfl⟩
      replace hc0 := cell_later hb' hc0
      replace hc1 := cell_later hb' hc1
      replace hc2 := cell_later hb' hc2
      replace hd0 := cell_later hb' hd0
      replace hd1 := cell_later hb' hd1
      replace hd2 := cell_later hb' hd2
      have hml := HM.out _ (mem_getDc hkl)
      have hms := HMS.out _ (mem_getDc hkl)
      obtain ⟨wh, hw⟩ : ∃ x, (l.getD k cz).1 = x := ⟨_, rfl⟩
      obtain ⟨p, hp⟩ : ∃ p, (l.getD k cz).2.1 = p := ⟨_, rfl⟩
      obtain ⟨hs, hhs⟩ : ∃ hs, (l.getD k cz).2.2 = hs := ⟨_, rfl⟩
      rw [hw] at hc0 hd0
      rw [hp] at hc1 hd1
      rw [hhs] at hc2 hd2 hs1 hs2 hml hms
      have hhe := hunks_eq ah1 ah2 hs ch1 ch2 wr.drew ((hs1.below hb').below hdr) ((hs2.below hb').below hdr) hml hms
      obtain ⟨q, hq⟩ : ∃ q, hs.length = q := ⟨_, rfl⟩
      rw [hq] at hc2 hd2 hhe
      have KK : Hid (∀ w2, Below wr.drew.heap.size wr.drew w2 → w2.cell? ⟨b1, o1 + k * 3, none⟩ = some (.int .i64 wh) ∧ w2.cell? ⟨b2, o2 + k * 3, none⟩ = some (.int .i64 wh) ∧ w2.cell? ⟨b1, o1 + k * 3 + 1, none⟩ = some (.string p) ∧ w2.cell? ⟨b2, o2 + k * 3 + 1, none⟩ = some (.string p) ∧ Below B w w2) := fun w2 h => by
        have h2 := hdr.trans h
        exact ⟨cell_later h2 hc0, cell_later h2 hd0, cell_later h2 hc1, cell_later h2 hd1, hbl.trans (h2.mono (by have := hbl.size; have := HB.out; omega))⟩
      clear hw hp hhs hml hms hb' hs1 hs2 hq hkl hdr hc1 hd1 hc0 hd0
      go_wp2
      go_region_with (go_at_call 35; refine hhe.mono ?_; rintro e w2 ⟨rfl, hb2⟩)
      all_goals
        obtain ⟨c0, d0, c1, d1, hb3⟩ := KK.out _ hb2
        clear hhe hb2 KK hc2 hd2 hbl
        go_wp2
        go_quiet (fail)
        go_wp2
        go_roundw
        case rel => exact ⟨k + 1, by omega, by go_num, below_drawn hb3⟩
        case measure => simp [intOf]; omega
    · go_wp2
      go_ret
      exact ⟨rfl, hbl⟩

end Go.Proofs.YtnkdmgekpajfhadGreatDoor
