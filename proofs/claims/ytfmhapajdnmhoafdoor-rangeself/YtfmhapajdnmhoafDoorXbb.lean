/-
  Walks of hunk.count, hunk.Size, hunk.isChange, slices.IndexFunc and slices.ContainsFunc at marks, hunk.fits: how many lines marks have of either file, whether one of them changes something, whether lines end within a file. Hunks as they lie in memory; walks of hunk.checkOne and hunk.Check: the fault of a hunk, the first fault of hunks.
-/
import Derived.Test.YtfmhapajdnmhoafDoorHf
import Derived.Test.YtfmhapajdnmhoafDoorLess
import Derived.Test.YtfmhapajdnmhoafDoorXh
namespace Go.Proofs.YtfmhapajdnmhoafDoor
open Go.RowKit Dist

theorem getD_eta (ms : List (Int × ByteArray)) (k : Nat) {c : Int} {t : ByteArray} (h1 : (ms.getD k (0, ByteArray.empty)).1 = c) (h2 : (ms.getD k (0, ByteArray.empty)).2 = t) : ms.getD k (0, ByteArray.empty) = (c, t) := by
  rw [← h1, ← h2]

set_option maxRecDepth 100000 in
set_option maxHeartbeats 1000000 in
theorem countOf (a : Option Addr) (ms : List (Int × ByteArray)) (ca : Nat) (w : World) (ha : Mks w a ms) (hm : ms.length ≤ maxLen) :
    Calls Tryd.prog 64 #[.slice a ms.length ca] w fun e w' => e = .returned (.tuple #[.int .i64 (ob ms), .int .i64 (nb ms)]) ∧ Below w.heap.size w w' := by
  unfold maxLen at hm
  obtain ⟨n, hn⟩ : ∃ n, ms.length = n := ⟨_, rfl⟩
  rw [hn] at hm ⊢
  have HN : Hid (ms.length = n) := hn
  have HA : Hid (Mks w a ms) := ha
  clear hn ha
  obtain ⟨B, hB⟩ : ∃ B, w.heap.size = B := ⟨_, rfl⟩
  have HB : Hid (w.heap.size = B) := hB
  rw [hB]
  clear hB
  go_enter Tryd.func64, Tryd.ntmps64
  go_wp2
  go_loopw [2, 3, 8] (fun v u i w1 => ∃ k : Nat, k ≤ n ∧ i = .int .i64 k ∧ v = .int .i64 (ob (ms.take k)) ∧ u = .int .i64 (nb (ms.take k)) ∧ Below B w w1) (fun _ _ i _ => n - (intOf i).toNat)
  case atStart => exact ⟨0, Nat.zero_le _, rfl, rfl, rfl, Below.refl _ _⟩
  case round =>
    obtain ⟨k, hk, rfl, rfl, rfl, hbl⟩ := hrel
    by_cases hlt : k < n
    · have ha := HA.out
      have hsn := tk_snoc ms k (by rw [HN.out]; exact hlt)
      obtain ⟨b, off, rfl, hc1, hc2⟩ := ha.at (i := k) (by rw [HN.out]; exact hlt)
      clear ha
      replace hc1 := cell_later (by rw [HB.out]; exact hbl) hc1
      replace hc2 := cell_later (by rw [HB.out]; exact hbl) hc2
      obtain ⟨c, hc⟩ : ∃ c, (ms.getD k (0, ByteArray.empty)).1 = c := ⟨_, rfl⟩
      obtain ⟨t, ht⟩ : ∃ t, (ms.getD k (0, ByteArray.empty)).2 = t := ⟨_, rfl⟩
      rw [getD_eta ms k hc ht] at hsn
      rw [hc] at hc1
      rw [ht] at hc2
      have hle := ob_le (ms.take k)
      have hle2 := nb_le (ms.take k)
      rw [List.length_take, HN.out] at hle hle2
      have HS : Hid (ob (ms.take (k + 1)) = ob (ms.take k) + (if c = 32 ∨ c = 45 then 1 else 0)) := by
        show ob (ms.take (k + 1)) = _
        rw [hsn, ob_append, ob_one]
      have HT : Hid (nb (ms.take (k + 1)) = nb (ms.take k) + (if c = 32 ∨ c = 43 then 1 else 0)) := by
        show nb (ms.take (k + 1)) = _
        rw [hsn, nb_append, nb_one]
      obtain ⟨d, hd⟩ : ∃ d, ob (ms.take k) = d := ⟨_, rfl⟩
      obtain ⟨d', hd'⟩ : ∃ d', nb (ms.take k) = d' := ⟨_, rfl⟩
      rw [hd] at HS hle ⊢
      rw [hd'] at HT hle2 ⊢
      clear hd hd' hc ht hsn
      have hszB : B ≤ wr.heap.size := by have := hbl.size; have := HB.out; omega
      by_cases h1 : c = 32
      · subst h1
        go_wp2
        go_roundw
        case rel => exact ⟨k + 1, by omega, by go_num, by rw [HS.out]; go_num, by rw [HT.out]; go_num, hbl.alloc hszB _⟩
        case measure => simp [intOf]; omega
      have h1' : (c == 32) = false := by simpa using h1
      by_cases h2 : c = 45
      · subst h2
        go_wp2
        go_roundw
        case rel => exact ⟨k + 1, by omega, by go_num, by rw [HS.out]; go_num, by rw [HT.out]; go_num, hbl.alloc hszB _⟩
        case measure => simp [intOf]; omega
      have h2' : (c == 45) = false := by simpa using h2
      by_cases h3 : c = 43
      · subst h3
        go_wp2
        go_roundw
        case rel => exact ⟨k + 1, by omega, by go_num, by rw [HS.out]; go_num, by rw [HT.out]; go_num, hbl.alloc hszB _⟩
        case measure => simp [intOf]; omega
      have h3' : (c == 43) = false := by simpa using h3
      have HS2 : Hid (ob (ms.take (k + 1)) = d) := by
        show ob (ms.take (k + 1)) = d
        rw [HS.out, if_neg (by omega)]; rfl
      have HT2 : Hid (nb (ms.take (k + 1)) = d') := by
        show nb (ms.take (k + 1)) = d'
        rw [HT.out, if_neg (by omega)]; rfl
      clear h1 h2 h3
      go_wp2
      go_roundw
      case rel => exact ⟨k + 1, by omega, by go_num, by rw [HS2.out], by rw [HT2.out], hbl.alloc hszB _⟩
      case measure => simp [intOf]; omega
    · go_wp2
      go_ret2
      refine ⟨?_, hbl⟩
      rw [List.take_of_length_le (by have := HN.out; omega)]; rfl

set_option maxHeartbeats 400000 in
theorem hunkSz (o p : Int) (a : Option Addr) (ms : List (Int × ByteArray)) (ca : Nat) (w : World) (ha : Mks w a ms) (hm : ms.length ≤ maxLen) :
    Calls Tryd.prog 49 #[.agg #[.int .i64 o, .int .i64 p, .slice a ms.length ca]] w fun e w' => e = .returned (.tuple #[.int .i64 (ob ms), .int .i64 (nb ms)]) ∧ Below w.heap.size w w' := by
  have hb0 := below_alloc w (.cells #[.int .i64 o, .int .i64 p, .slice a ms.length ca] 51)
  have hct := countOf a ms ca _ (ha.below hb0) hm
  have HB0 : Hid (Below w.heap.size w (w.alloc (.cells #[.int .i64 o, .int .i64 p, .slice a ms.length ca] 51))) := hb0
  obtain ⟨n, hn⟩ : ∃ n, ms.length = n := ⟨_, rfl⟩
  rw [hn] at hct HB0
  rw [hn]
  clear ha hm hn hb0
  go_enter Tryd.func49, Tryd.ntmps49
  go_wp2_with (go_at_call 64; refine hct.mono ?_)
  rintro e w1 ⟨rfl, hb1⟩
  have hb1 := HB0.out.trans (hb1.mono HB0.out.size)
  clear hct HB0
  go_wp2
  go_ret2
  exact ⟨rfl, hb1⟩

set_option maxHeartbeats 400000 in
theorem isChange (c : Int) (t : ByteArray) (w : World) : Calls Tryd.prog 62 #[.agg #[.int .u8 c, .string t]] w fun e w' => e = .returned (.bool (c != 32)) ∧ Below w.heap.size w w' := by
  have HB : Hid (Below w.heap.size w (w.alloc (.cells #[.int .u8 c, .string t] 69))) := below_alloc w _
  go_enter Tryd.func62, Tryd.ntmps62
  go_wp2
  go_ret
  exact ⟨rfl, HB.out⟩

theorem chg_any (ms : List (Int × ByteArray)) (k : Nat) (hk : k < ms.length) (h : (ms.getD k (0, ByteArray.empty)).1 ≠ 32) : 0 < chg ms := by
  unfold chg
  rw [List.length_pos_iff_exists_mem]
  refine ⟨ms.getD k (0, ByteArray.empty), List.mem_filter.2 ⟨?_, by simpa using h⟩⟩
  have e : ms.getD k (0, ByteArray.empty) = ms[k] := by simp [hk]
  rw [e]; exact List.getElem_mem _

theorem chg_none (ms : List (Int × ByteArray)) (h : ∀ j, j < ms.length → (ms.getD j (0, ByteArray.empty)).1 = 32) : chg ms = 0 := by
  unfold chg
  rw [List.length_eq_zero_iff, List.filter_eq_nil_iff]
  intro m hm hne
  obtain ⟨i, hi, rfl⟩ := List.mem_iff_getElem.1 hm
  have := h i hi
  simp [hi] at this
  simp [this] at hne

set_option maxRecDepth 100000 in
set_option maxHeartbeats 1000000 in
theorem indexFunc (a : Option Addr) (ms : List (Int × ByteArray)) (ca : Nat) (w : World) (ha : Mks w a ms) (hm : ms.length ≤ maxLen) :
    Calls Tryd.prog 74 #[.slice a ms.length ca, .func (.func 62) #[] #[]] w fun e w' => ∃ r : Int, e = .returned (.int .i64 r) ∧ (0 ≤ r ↔ 0 < chg ms) ∧ Below w.heap.size w w' := by
  have eg : ∀ args w, (callFunc 62 args).run Tryd.prog w = .ok (.enter 62 args) w := enters_of Tryd.func62 (by kernel_rfl) rfl
  unfold maxLen at hm
  obtain ⟨n, hn⟩ : ∃ n, ms.length = n := ⟨_, rfl⟩
  rw [hn] at hm ⊢
  have HN : Hid (ms.length = n) := hn
  have HA : Hid (Mks w a ms) := ha
  clear hn ha
  obtain ⟨B, hB⟩ : ∃ B, w.heap.size = B := ⟨_, rfl⟩
  have HB : Hid (w.heap.size = B) := hB
  rw [hB]
  clear hB
  go_enter Tryd.func74, Tryd.ntmps74
  go_wp2
  go_loopw [5, 8] (fun _ i w1 => ∃ k : Nat, k ≤ n ∧ i = .int .i64 k ∧ Below B w w1 ∧ ∀ j : Nat, j < k → (ms.getD j (0, ByteArray.empty)).1 = 32) (fun _ i _ => n - (intOf i).toNat)
  case atStart => exact ⟨0, Nat.zero_le _, rfl, Below.refl _ _, by simp⟩
  case round =>
    obtain ⟨k, hk, rfl, hbl, hall⟩ := hrel
    have HALL : Hid (∀ j : Nat, j < k → (ms.getD j (0, ByteArray.empty)).1 = 32) := hall
    clear hall
    by_cases hlt : k < n
    · have ha := HA.out
      obtain ⟨b, off, rfl, hc1, hc2⟩ := ha.at (i := k) (by rw [HN.out]; exact hlt)
      clear ha
      replace hc1 := cell_later (by rw [HB.out]; exact hbl) hc1
      replace hc2 := cell_later (by rw [HB.out]; exact hbl) hc2
      obtain ⟨c, hc⟩ : ∃ c, (ms.getD k (0, ByteArray.empty)).1 = c := ⟨_, rfl⟩
      obtain ⟨t, ht⟩ : ∃ t, (ms.getD k (0, ByteArray.empty)).2 = t := ⟨_, rfl⟩
      rw [hc] at hc1
      rw [ht] at hc2
      have HC : Hid ((ms.getD k (0, ByteArray.empty)).1 = c) := hc
      clear hc ht
      have hszB : B ≤ wr.heap.size := by have := hbl.size; have := HB.out; omega
      have hch := isChange c t wr
      by_cases hcs : c = 32
      · have HCS : Hid (c = 32) := hcs
        rw [show (c != 32) = false by simp [hcs]] at hch
        clear hcs
        go_wp2_with (go_at_fn 62; refine hch.mono ?_)
        rintro e w1 ⟨rfl, hb1⟩
        have hb1 := hbl.trans (hb1.mono hszB)
        clear hch hbl
        go_wp2
        go_roundw
        case rel => exact ⟨k + 1, by omega, by go_num, hb1, fun j hj => by
          by_cases e : j = k
          · rw [e, HC.out]; exact HCS.out
          · exact HALL.out j (by omega)⟩
        case measure => simp [intOf]; omega
      · have HCS : Hid (c ≠ 32) := hcs
        rw [show (c != 32) = true by simp [hcs]] at hch
        clear hcs
        go_wp2_with (go_at_fn 62; refine hch.mono ?_)
        rintro e w1 ⟨rfl, hb1⟩
        have hb1 := hbl.trans (hb1.mono hszB)
        clear hch hbl
        go_wp2
        go_ret
        refine ⟨_, rfl, ⟨fun _ => chg_any ms k (by rw [HN.out]; exact hlt) (by rw [HC.out]; exact HCS.out), fun _ => by omega⟩, hb1⟩
    · go_wp2
      go_ret
      refine ⟨_, rfl, ⟨fun h => absurd h (by decide), fun h => ?_⟩, hbl⟩
      rw [chg_none ms fun j hj => HALL.out j (by have := HN.out; omega)] at h
      exact absurd h (by decide)

set_option maxHeartbeats 400000 in
theorem containsFunc (a : Option Addr) (ms : List (Int × ByteArray)) (ca : Nat) (w : World) (ha : Mks w a ms) (hm : ms.length ≤ maxLen) :
    Calls Tryd.prog 61 #[.slice a ms.length ca, .func (.func 62) #[] #[]] w fun e w' => e = .returned (.bool (decide (0 < chg ms))) ∧ Below w.heap.size w w' := by
  have hix := indexFunc a ms ca w ha hm
  obtain ⟨n, hn⟩ : ∃ n, ms.length = n := ⟨_, rfl⟩
  rw [hn] at hix
  rw [hn]
  clear ha hm hn
  go_enter Tryd.func61, Tryd.ntmps61
  go_wp2_with (go_at_call 74; refine hix.mono ?_)
  rintro e w1 ⟨r, rfl, hr, hb1⟩
  have HR : Hid (0 ≤ r ↔ 0 < chg ms) := hr
  clear hix hr
  go_wp2
  go_ret
  refine ⟨ret_b ?_, hb1⟩
  simp only [HR.out]

/-- Lines end within a file. -/
def fitB (p : Int) (s : Nat) : Bool := decide (0 ≤ p) && (decide (p ≤ 60) && decide (p + s ≤ 60))

set_option maxHeartbeats 400000 in
theorem fits (p : Int) (s : Nat) (w : World) (hs : s ≤ 1000) : Calls Tryd.prog 63 #[.int .i64 p, .int .i64 s] w fun e w' => e = .returned (.bool (fitB p s)) ∧ w' = w := by
  have E : Hid (∀ b, fitB p s = b → Ending.returned (.bool b) = .returned (.bool (fitB p s))) := fun b hb => by rw [hb]
  by_cases h1 : 0 ≤ p
  · by_cases h2 : p ≤ 60
    · by_cases h3 : p + s ≤ 60
      all_goals
        go_enter Tryd.func63, Tryd.ntmps63
        go_wp2
        go_ret
        exact ⟨E.out _ (by simp [fitB, h1, h2, h3]), rfl⟩
    · go_enter Tryd.func63, Tryd.ntmps63
      go_wp2
      go_ret
      exact ⟨E.out _ (by simp [fitB]; omega), rfl⟩
  · go_enter Tryd.func63, Tryd.ntmps63
    go_wp2
    go_ret
    exact ⟨E.out _ (by simp [fitB]; omega), rfl⟩

end Go.Proofs.YtfmhapajdnmhoafDoor
namespace Go.Proofs.YtfmhapajdnmhoafDoor
open Go.RowKit Dist

/-- Hunks as they lie in memory: two places and marks each. -/
def Hks (w : World) (a : Option Addr) (hs : List (Int × Int × List (Int × ByteArray))) : Prop :=
  ∀ i : Nat, i < hs.length → ∃ b off am cm, a = some ⟨b, off, none⟩ ∧ w.cell? ⟨b, off + i * 3, none⟩ = some (.int .i64 (hs.getD i (0, 0, [])).1) ∧ w.cell? ⟨b, off + i * 3 + 1, none⟩ = some (.int .i64 (hs.getD i (0, 0, [])).2.1) ∧ w.cell? ⟨b, off + i * 3 + 2, none⟩ = some (.slice am (hs.getD i (0, 0, [])).2.2.length cm) ∧ Mks w am (hs.getD i (0, 0, [])).2.2 ∧ (hs.getD i (0, 0, [])).2.2.length ≤ cm

theorem Hks.at {w : World} {a : Option Addr} {hs : List (Int × Int × List (Int × ByteArray))} (h : Hks w a hs) {i : Nat} (hi : i < hs.length) :
    ∃ b off am cm, a = some ⟨b, off, none⟩ ∧ w.cell? ⟨b, off + i * 3, none⟩ = some (.int .i64 (hs.getD i (0, 0, [])).1) ∧ w.cell? ⟨b, off + i * 3 + 1, none⟩ = some (.int .i64 (hs.getD i (0, 0, [])).2.1) ∧ w.cell? ⟨b, off + i * 3 + 2, none⟩ = some (.slice am (hs.getD i (0, 0, [])).2.2.length cm) ∧ Mks w am (hs.getD i (0, 0, [])).2.2 := by
  obtain ⟨b, off, am, cm, h0, h1, h2, h3, h4, _⟩ := h i hi
  exact ⟨b, off, am, cm, h0, h1, h2, h3, h4⟩

theorem Hks.below {w w' : World} {a : Option Addr} {hs : List (Int × Int × List (Int × ByteArray))} (h : Hks w a hs) (hb : Below w.heap.size w w') : Hks w' a hs := by
  intro i hi
  obtain ⟨b, off, am, cm, rfl, h1, h2, h3, h4, h5⟩ := h i hi
  exact ⟨b, off, am, cm, rfl, cell_later hb h1, cell_later hb h2, cell_later hb h3, h4.below hb, h5⟩

theorem Hks.nil (w : World) (a : Option Addr) : Hks w a [] := fun _ hi => absurd hi (Nat.not_lt_zero _)

theorem hOne_sf {o p : Int} {ms : List (Int × ByteArray)} (h : sf ms ≠ 0) : hOne (o, p, ms) = sf ms := by unfold hOne; rw [if_pos h]
theorem hOne_none {o p : Int} {ms : List (Int × ByteArray)} (h : sf ms = 0) (h2 : chg ms = 0) : hOne (o, p, ms) = 4 := by unfold hOne; rw [if_neg (fun x => x h), if_pos h2]
theorem hOne_fit {o p : Int} {ms : List (Int × ByteArray)} (h : sf ms = 0) (h2 : chg ms ≠ 0) : hOne (o, p, ms) = if (fitB o (ob ms) && fitB p (nb ms)) = true then 0 else 1 := by
  unfold hOne fitB
  rw [if_neg (fun x => x h), if_neg h2]
  simp only [Bool.and_eq_true, decide_eq_true_eq, and_assoc]

/-- The three cells of a new block, later. -/
theorem cells_later {w w1 : World} {x y z : Value} {t : TypeId} (hb : Below (w.alloc (.cells #[x, y, z] t)).heap.size (w.alloc (.cells #[x, y, z] t)) w1) : w1.cell? ⟨w.heap.size, 0, none⟩ = some x ∧ w1.cell? ⟨w.heap.size, 1, none⟩ = some y ∧ w1.cell? ⟨w.heap.size, 2, none⟩ = some z := by
  have h := blk_below hb (by simp) (heap_alloc_new w (.cells #[x, y, z] t))
  exact ⟨Lib.cell_of_heap h 0, Lib.cell_of_heap h 1, Lib.cell_of_heap h 2⟩

set_option maxRecDepth 100000 in
set_option maxHeartbeats 1000000 in
theorem checkOneH (o p : Int) (a : Option Addr) (ms : List (Int × ByteArray)) (ca : Nat) (w : World) (ha : Mks w a ms) (hm : ms.length ≤ maxLen) :
    Calls Tryd.prog 48 #[.agg #[.int .i64 o, .int .i64 p, .slice a ms.length ca]] w fun e w' => e = .returned (errV (hOne (o, p, ms))) ∧ Below w.heap.size w w' := by
  have hb0 := below_alloc w (.cells #[.int .i64 o, .int .i64 p, .slice a ms.length ca] 51)
  have hck := editCheck a ms ca _ (ha.below hb0) hm
  have HCO := fun w (h : Mks w a ms) => containsFunc a ms ca w h hm
  have HSZ := fun w (h : Mks w a ms) => hunkSz o p a ms ca w h hm
  have HB0 : Hid (Below w.heap.size w (w.alloc (.cells #[.int .i64 o, .int .i64 p, .slice a ms.length ca] 51))) := hb0
  have HA : Hid (Mks w a ms) := ha
  have E1 : Hid (sf ms ≠ 0 → hOne (o, p, ms) = sf ms) := hOne_sf
  have E2 : Hid (sf ms = 0 → chg ms = 0 → hOne (o, p, ms) = 4) := hOne_none
  have E3 : Hid (sf ms = 0 → chg ms ≠ 0 → hOne (o, p, ms) = if (fitB o (ob ms) && fitB p (nb ms)) = true then 0 else 1) := hOne_fit
  have L1 : Hid (sf ms = 0 → ob ms ≤ 1000 ∧ nb ms ≤ 1000) := fun h => by have := (sf_zero h).1; have := ob_le ms; have := nb_le ms; omega
  obtain ⟨n, hn⟩ : ∃ n, ms.length = n := ⟨_, rfl⟩
  rw [hn] at hck HCO HSZ HB0
  rw [hn]
  clear ha hm hn hb0
  obtain ⟨g, hg⟩ : ∃ g, hOne (o, p, ms) = g := ⟨_, rfl⟩
  rw [hg] at E1 E2 E3 ⊢
  clear hg
  by_cases h1 : sf ms = 0
  · rw [h1, errV_zero] at hck
    obtain ⟨l1, l2⟩ := L1.out h1
    have F1 := fun w => fits o (ob ms) w l1
    have F2 := fun w => fits p (nb ms) w l2
    have H1 : Hid (sf ms = 0) := h1
    obtain ⟨k1, hk1⟩ : ∃ k, ob ms = k := ⟨_, rfl⟩
    obtain ⟨k2, hk2⟩ : ∃ k, nb ms = k := ⟨_, rfl⟩
    rw [hk1] at F1 HSZ E3
    rw [hk2] at F2 HSZ E3
    clear h1 hk1 hk2 l1 l2 L1 E1
    by_cases h2 : chg ms = 0
    · have HG : Hid (g = 4) := E2.out H1.out h2
      rw [h2] at HCO
      clear E2 E3 F1 F2 HSZ h2
      go_enter Tryd.func48, Tryd.ntmps48
      go_wp2_with (go_at_call 60; refine hck.mono ?_)
      rintro e w1 ⟨rfl, hb1⟩
      obtain ⟨d0, d1, d2⟩ := cells_later hb1
      have hb1 := HB0.out.trans (hb1.mono HB0.out.size)
      clear hck HB0
      go_wp2_with (go_at_call 61; refine (HCO w1 (HA.out.below hb1)).mono ?_)
      rintro e w2 ⟨rfl, hb2⟩
      have hb2 := hb1.trans (hb2.mono hb1.size)
      clear HCO
      go_wp2
      go_ret
      refine ⟨?_, hb2⟩
      rw [HG.out]; rfl
    · have HG : Hid (g = if (fitB o k1 && fitB p k2) = true then 0 else 1) := E3.out H1.out h2
      rw [decide_eq_true (show 0 < chg ms by omega)] at HCO
      clear E2 E3 h2
      by_cases h3 : fitB o k1 = true
      case' pos =>
        rw [h3] at F1 HG
        clear h3
        obtain ⟨r, hr⟩ : ∃ r, fitB p k2 = r := ⟨_, rfl⟩
        rw [hr] at F2 HG
        clear hr
        cases r
      case' neg =>
        have h3 : fitB o k1 = false := by simpa using h3
        rw [h3] at F1 HG
        clear h3 F2
      all_goals
        go_enter Tryd.func48, Tryd.ntmps48
        go_wp2_with (go_at_call 60; refine hck.mono ?_)
        rintro e w1 ⟨rfl, hb1⟩
        obtain ⟨d0, d1, d2⟩ := cells_later hb1
        have hb1 := HB0.out.trans (hb1.mono HB0.out.size)
        clear hck HB0
        go_wp2_with (go_at_call 61; refine (HCO w1 (HA.out.below hb1)).mono ?_)
        rintro e w2 ⟨rfl, hb2⟩
        replace d0 := cell_later hb2 d0
        replace d1 := cell_later hb2 d1
        replace d2 := cell_later hb2 d2
        have hb2 := hb1.trans (hb2.mono hb1.size)
        clear HCO hb1
        go_wp2_with (go_at_call 49; refine (HSZ w2 (HA.out.below hb2)).mono ?_)
        rintro e w3 ⟨rfl, hb3⟩
        replace d0 := cell_later hb3 d0
        replace d1 := cell_later hb3 d1
        replace d2 := cell_later hb3 d2
        have hb3 := hb2.trans (hb3.mono hb2.size)
        clear HSZ hb2
        go_wp2_with (go_at_call 63; refine (F1 w3).mono ?_)
        rintro e w4 ⟨rfl, hw⟩
        rw [hw]
        clear F1 hw
      · go_wp2
        go_ret
        refine ⟨?_, hb3⟩
        rw [HG.out]; rfl
      · go_wp2_with (go_at_call 63; refine (F2 w3).mono ?_)
        rintro e w4 ⟨rfl, hw⟩
        rw [hw]
        clear F2 hw
        go_wp2
        go_ret
        refine ⟨?_, hb3⟩
        rw [HG.out]; rfl
      · go_wp2_with (go_at_call 63; refine (F2 w3).mono ?_)
        rintro e w4 ⟨rfl, hw⟩
        rw [hw]
        clear F2 hw
        go_wp2
        go_ret
        refine ⟨?_, hb3⟩
        rw [HG.out]; rfl
  · have HG : Hid (g = sf ms) := E1.out h1
    have H1 : Hid (sf ms ≠ 0) := h1
    rw [errV_not h1] at hck
    clear E1 E2 E3 h1 HCO HSZ L1
    go_enter Tryd.func48, Tryd.ntmps48
    go_wp2_with (go_at_call 60; refine hck.mono ?_)
    rintro e w1 ⟨rfl, hb1⟩
    have hb1 := HB0.out.trans (hb1.mono HB0.out.size)
    clear hck HB0
    go_wp2
    go_ret
    refine ⟨?_, hb1⟩
    rw [HG.out, errV_not H1.out]; rfl

theorem getD_eta3 (l : List (Int × Int × List (Int × ByteArray))) (k : Nat) {o p : Int} {ms : List (Int × ByteArray)} (h1 : (l.getD k (0, 0, [])).1 = o) (h2 : (l.getD k (0, 0, [])).2.1 = p) (h3 : (l.getD k (0, 0, [])).2.2 = ms) : l.getD k (0, 0, []) = (o, p, ms) := by
  rw [← h1, ← h2, ← h3]

theorem tk_snoc3 (l : List (Int × Int × List (Int × ByteArray))) (k : Nat) (hk : k < l.length) : l.take (k + 1) = l.take k ++ [l.getD k (0, 0, [])] := by
  have e : l.getD k (0, 0, []) = l[k] := by simp [hk]
  rw [e, List.take_succ_eq_append_getElem hk]

theorem mem_getD3 {l : List (Int × Int × List (Int × ByteArray))} {k : Nat} (hk : k < l.length) : l.getD k (0, 0, []) ∈ l := by
  have e : l.getD k (0, 0, []) = l[k] := by simp [hk]
  rw [e]; exact List.getElem_mem _

/-- Of hunks that have no fault as far as a place what they put, less what they take, is little. -/
theorem sh_bound {l : List (Int × Int × List (Int × ByteArray))} {k : Nat} (hk : k ≤ l.length) (h : ∀ j, j < k → hAt l j = 0) : - (120 * k : Int) ≤ sh (l.take k) ∧ sh (l.take k) ≤ 120 * k := by
  have := sh_small (l := l.take k) (fun x hx => by
    obtain ⟨i, hi, rfl⟩ := List.mem_iff_getElem.1 hx
    rw [List.length_take] at hi
    have h1 := (hOne_zero (hAt_zero (h i (by omega))).1).1
    have e : l.getD i (0, 0, []) = (l.take k)[i]'(by rw [List.length_take]; exact hi) := by simp [show i < l.length by omega]
    rw [e] at h1; exact h1)
  rw [List.length_take, Nat.min_eq_left hk] at this
  exact this

theorem hPut_bad {e s o p : Int} {ms : List (Int × ByteArray)} (h : hOne (o, p, ms) ≠ 0) : hPut e s (o, p, ms) = hOne (o, p, ms) := by unfold hPut; rw [if_pos h]
theorem hPut_shape {e s o p : Int} {ms : List (Int × ByteArray)} (h : hOne (o, p, ms) = 0) (h2 : o < e ∨ p ≠ o + s) : hPut e s (o, p, ms) = 2 := by unfold hPut; rw [if_neg (fun x => x h), if_pos h2]
theorem hPut_ok {e s o p : Int} {ms : List (Int × ByteArray)} (h : hOne (o, p, ms) = 0) (h2 : ¬ (o < e ∨ p ≠ o + s)) : hPut e s (o, p, ms) = 0 := by unfold hPut; rw [if_neg (fun x => x h), if_neg h2]

theorem ret_t {a c : Int} {b d : Value} (h : a = c) (h2 : b = d) : Ending.returned (.tuple #[.int .i64 a, b]) = .returned (.tuple #[.int .i64 c, d]) := by rw [h, h2]

set_option maxRecDepth 100000 in
set_option maxHeartbeats 1000000 in
theorem hunkCheck (a : Option Addr) (l : List (Int × Int × List (Int × ByteArray))) (ca : Nat) (w : World) (ha : Hks w a l) (hm : l.length ≤ maxLen) (hms : ∀ h ∈ l, h.2.2.length ≤ maxLen) :
    Calls Tryd.prog 38 #[.slice a l.length ca] w fun e w' => e = .returned (.tuple #[.int .i64 (hf l).1, errV (hf l).2]) ∧ Below w.heap.size w w' := by
  unfold maxLen at hm
  obtain ⟨n, hn⟩ : ∃ n, l.length = n := ⟨_, rfl⟩
  rw [hn] at hm ⊢
  by_cases hbig : 60 < (n : Int)
  · have he : Hid (hf l = (0, 3)) := hf_big (by rw [hn]; omega)
    clear hn ha hms
    go_enter Tryd.func38, Tryd.ntmps38
    go_wp2
    go_ret2
    refine ⟨?_, Below.refl _ _⟩
    rw [he.out]; rfl
  · have HN : Hid (l.length = n) := hn
    have HL : Hid (l.length ≤ 60) := by show l.length ≤ 60; omega
    have HA : Hid (Hks w a l) := ha
    have HM : Hid (∀ h ∈ l, h.2.2.length ≤ maxLen) := hms
    clear hn ha hms
    obtain ⟨B, hB⟩ : ∃ B, w.heap.size = B := ⟨_, rfl⟩
    have HB : Hid (w.heap.size = B) := hB
    rw [hB]
    clear hB
    go_enter Tryd.func38, Tryd.ntmps38
    go_wp2
    go_loopw [4, 5, 17] (fun v u i w1 => ∃ k : Nat, k ≤ n ∧ i = .int .i64 k ∧ v = .int .i64 (eo (l.take k)) ∧ u = .int .i64 (sh (l.take k)) ∧ Below B w w1 ∧ ∀ j : Nat, j < k → hAt l j = 0) (fun _ _ i _ => n - (intOf i).toNat)
    case atStart => exact ⟨0, Nat.zero_le _, rfl, rfl, rfl, Below.refl _ _, by simp⟩
    case round =>
      obtain ⟨k, hk, rfl, rfl, rfl, hbl, hall⟩ := hrel
      have HALL : Hid (∀ j : Nat, j < k → hAt l j = 0) := hall
      clear hall
      by_cases hlt : k < n
      · have ha := HA.out
        have hkl : k < l.length := by rw [HN.out]; exact hlt
        have hsn := tk_snoc3 l k hkl
        obtain ⟨b, off, am, cm, rfl, hc1, hc2, hc3, hmk⟩ := ha.at (i := k) hkl
        clear ha
        have hb' : Below w.heap.size w wr := by rw [HB.out]; exact hbl
        replace hc1 := cell_later hb' hc1
        replace hc2 := cell_later hb' hc2
        replace hc3 := cell_later hb' hc3
        replace hmk := hmk.below hb'
        have hml := HM.out _ (mem_getD3 hkl)
        obtain ⟨s1, s2⟩ := sh_bound (k := k) (by omega) HALL.out
        have HAT : Hid (hAt l k = hPut (eo (l.take k)) (sh (l.take k)) (l.getD k (0, 0, []))) := rfl
        have HFA : Hid (hAt l k ≠ 0 → hf l = (k, hAt l k)) := hf_at HL.out k HALL.out hkl
        obtain ⟨o, ho⟩ : ∃ o, (l.getD k (0, 0, [])).1 = o := ⟨_, rfl⟩
        obtain ⟨p, hp⟩ : ∃ p, (l.getD k (0, 0, [])).2.1 = p := ⟨_, rfl⟩
        obtain ⟨ms, hms⟩ : ∃ ms, (l.getD k (0, 0, [])).2.2 = ms := ⟨_, rfl⟩
        rw [getD_eta3 l k ho hp hms] at hsn HAT
        rw [ho] at hc1
        rw [hp] at hc2
        rw [hms] at hc3 hmk hml
        clear ho hp hms hb'
        have hb0 := below_alloc wr (.cells #[.int .i64 o, .int .i64 p, .slice am ms.length cm] 51)
        have hck := checkOneH o p am ms cm _ (hmk.below hb0) hml
        have HSZ := fun w (h : Mks w am ms) => hunkSz o p am ms cm w h hml
        have HMK : Hid (Mks wr am ms) := hmk
        have HB0 : Hid (Below wr.heap.size wr (wr.alloc (.cells #[.int .i64 o, .int .i64 p, .slice am ms.length cm] 51))) := hb0
        have hszB : B ≤ wr.heap.size := by have := hbl.size; have := HB.out; omega
        have HSN : Hid (l.take (k + 1) = l.take k ++ [(o, p, ms)]) := hsn
        have HZ : Hid (hOne (o, p, ms) = 0 → sf ms = 0 ∧ 0 < chg ms ∧ 0 ≤ o ∧ o ≤ 60 ∧ o + ob ms ≤ 60 ∧ 0 ≤ p ∧ p ≤ 60 ∧ p + nb ms ≤ 60) := fun h => hOne_zero h
        obtain ⟨E, hE⟩ : ∃ E, eo (l.take k) = E := ⟨_, rfl⟩
        obtain ⟨S, hS⟩ : ∃ S, sh (l.take k) = S := ⟨_, rfl⟩
        have HS : Hid (sh (l.take k) = S) := hS
        rw [hE] at HAT ⊢
        rw [hS] at HAT s1 s2 ⊢
        obtain ⟨q, hq⟩ : ∃ q, ms.length = q := ⟨_, rfl⟩
        rw [hq] at hc3 hck HSZ HB0
        clear hmk hml hb0 hE hS hq hsn hkl
        by_cases h1 : hOne (o, p, ms) = 0
        · obtain ⟨z1, z2, z3, z4, z5, z6, z7, z8⟩ := HZ.out h1
          rw [h1, errV_zero] at hck
          have H1 : Hid (hOne (o, p, ms) = 0) := h1
          clear HZ h1 z1 z2
          go_wp2_with (go_at_call 48; refine hck.mono ?_)
          rintro e w1 ⟨rfl, hb1⟩
          obtain ⟨d0, d1, d2⟩ := cells_later hb1
          have hb1 := HB0.out.trans (hb1.mono HB0.out.size)
          have hm1 := HMK.out.below hb1
          have hb1 := hbl.trans (hb1.mono hszB)
          have hs1 : B ≤ w1.heap.size := by have := hb1.size; have := HB.out; omega
          clear hck HB0 hbl HMK hc1 hc2 hc3
          by_cases h2 : o < E
          · have HG : Hid (hAt l k = 2) := by show hAt l k = 2; rw [HAT.out]; exact hPut_shape H1.out (.inl h2)
            go_wp2
            go_ret2
            refine ⟨?_, hb1⟩
            rw [HFA.out (by rw [HG.out]; decide), HG.out]; rfl
          · by_cases h3 : p = o + S
            · have HG : Hid (hAt l k = 0) := by show hAt l k = 0; rw [HAT.out]; exact hPut_ok H1.out (by omega)
              have h3' : (p != o + S) = false := by simpa using h3
              have HE2 : Hid (eo (l.take (k + 1)) = o + ob ms) := by show eo (l.take (k + 1)) = _; rw [HSN.out, eo_snoc]
              have HS2 : Hid (sh (l.take (k + 1)) = S + ((nb ms : Int) - ob ms)) := by show sh (l.take (k + 1)) = _; rw [HSN.out, sh_snoc, HS.out]
              have hsz := HSZ w1 hm1
              obtain ⟨k1, hk1⟩ : ∃ k1, ob ms = k1 := ⟨_, rfl⟩
              obtain ⟨k2, hk2⟩ : ∃ k2, nb ms = k2 := ⟨_, rfl⟩
              rw [hk1] at hsz z5 HE2 HS2
              rw [hk2] at hsz z8 HS2
              have HP : Hid (p = o + S) := h3
              clear HSZ hk1 hk2 h3
              go_wp2_with (go_at_call 49; refine hsz.mono ?_)
              rintro e w2 ⟨rfl, hb2⟩
              replace d0 := cell_later hb2 d0
              have hb2 := hb1.trans (hb2.mono hs1)
              clear hsz hb1 d1 d2
              go_wp2
              go_roundw
              case rel => exact ⟨k + 1, by omega, by go_num, by rw [HE2.out], by rw [HS2.out], hb2, fun j hj => by
                by_cases e : j = k
                · rw [e]; exact HG.out
                · exact HALL.out j (by omega)⟩
              case measure => simp [intOf]; omega
            · have HG : Hid (hAt l k = 2) := by show hAt l k = 2; rw [HAT.out]; exact hPut_shape H1.out (.inr h3)
              have h3' : (p != o + S) = true := by simpa using h3
              clear h3
              go_wp2
              go_ret2
              refine ⟨?_, hb1⟩
              rw [HFA.out (by rw [HG.out]; decide), HG.out]; rfl
        · have HG : Hid (hAt l k = hOne (o, p, ms)) := by show hAt l k = _; rw [HAT.out]; exact hPut_bad h1
          rw [errV_not h1] at hck
          have H1 : Hid (hOne (o, p, ms) ≠ 0) := h1
          clear HZ h1
          go_wp2_with (go_at_call 48; refine hck.mono ?_)
          rintro e w1 ⟨rfl, hb1⟩
          have hb1 := HB0.out.trans (hb1.mono HB0.out.size)
          have hb1 := hbl.trans (hb1.mono hszB)
          clear hck HB0 hbl
          go_wp2
          go_ret2
          refine ⟨?_, hb1⟩
          rw [HFA.out (by rw [HG.out]; exact H1.out), HG.out, errV_not H1.out]; rfl
      · go_wp2
        go_ret2
        refine ⟨?_, hbl⟩
        rw [hf_ok HL.out fun j hj => HALL.out j (by have := HN.out; omega)]; rfl

end Go.Proofs.YtfmhapajdnmhoafDoor
