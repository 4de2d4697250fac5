/-
  Walks of hunk.count, hunk.Size, hunk.isChange, slices.IndexFunc and slices.ContainsFunc at marks, hunk.fits: how many lines marks have of either file, whether one of them changes something, whether lines end within a file.
-/
import Derived.Test.YtnkdmgekpajfhaeDoorHf
import Derived.Test.YtnkdmgekpajfhaeDoorLess
import Derived.Test.YtnkdmgekpajfhaeDoorXh
namespace Go.Proofs.YtnkdmgekpajfhaeDoor
open Go.RowKit Dist

theorem getD_eta (ms : List (Int × ByteArray)) (k : Nat) {c : Int} {t : ByteArray} (h1 : (ms.getD k (0, ByteArray.empty)).1 = c) (h2 : (ms.getD k (0, ByteArray.empty)).2 = t) : ms.getD k (0, ByteArray.empty) = (c, t) := by
  rw [← h1, ← h2]

set_option maxRecDepth 100000 in
set_option maxHeartbeats 1000000 in
theorem countOf (a : Option Addr) (ms : List (Int × ByteArray)) (ca : Nat) (w : World) (ha : Mks w a ms) (hm : ms.length ≤ maxLen) :
    Calls Tryd.prog 80 #[.slice a ms.length ca] w fun e w' => e = .returned (.tuple #[.int .i64 (ob ms), .int .i64 (nb ms)]) ∧ Below w.heap.size w w' := by
  unfold maxLen at hm
  obtain ⟨n, hn⟩ : ∃ n, ms.length = n := ⟨_, rfl⟩
  rw [hn] at hm ⊢
  have HN : Hid (ms.length = n) := hn
  have HA : Hid (Mks w a ms) := ha
  clear hn ha
  obtain ⟨B, hB⟩ : ∃ B, w.heap.size = B := ⟨_, rfl⟩
  have HB : Hid (w.heap.size = B) := hB
  rw [hB]
  clear hB
  go_enter Tryd.func80, Tryd.ntmps80
  go_wp2
  go_loopw [2, 3, 8] (fun v u i w1 => ∃ k : Nat, k ≤ n ∧ i = .int .i64 k ∧ v = .int .i64 (ob (ms.take k)) ∧ u = .int .i64 (nb (ms.take k)) ∧ Below B w w1) (fun _ _ i _ => n - (intOf i).toNat)
  case atStart => exact ⟨0, Nat.zero_le _, rfl, rfl, rfl, Below.refl _ _⟩
  case round =>
    obtain ⟨k, hk, rfl, rfl, rfl, hbl⟩ := hrel
    by_cases hlt : k < n
    · have ha := HA.out
      have hsn := tk_snoc ms k (by rw [HN.out]; exact hlt)
      obtain ⟨b, off, rfl, hc1, hc2⟩ := ha.at (i := k) (by rw [HN.out]; exact hlt)
      clear ha
      replace hc1 := cell_later (by rw [HB.out]; exact hbl) hc1
      replace hc2 := cell_later (by rw [HB.out]; exact hbl) hc2
      obtain ⟨c, hc⟩ : ∃ c, (ms.getD k (0, ByteArray.empty)).1 = c := ⟨_, rfl⟩
      obtain ⟨t, ht⟩ : ∃ t, (ms.getD k (0, ByteArray.empty)).2 = t := ⟨_, rfl⟩
      rw [getD_eta ms k hc ht] at hsn
      rw [hc] at hc1
      rw [ht] at hc2
      have hle := ob_le (ms.take k)
      have hle2 := nb_le (ms.take k)
      rw [List.length_take, HN.out] at hle hle2
      have HS : Hid (ob (ms.take (k + 1)) = ob (ms.take k) + (if c = 32 ∨ c = 45 then 1 else 0)) := by
        show ob (ms.take (k + 1)) = _
        rw [hsn, ob_append, ob_one]
      have HT : Hid (nb (ms.take (k + 1)) = nb (ms.take k) + (if c = 32 ∨ c = 43 then 1 else 0)) := by
        show nb (ms.take (k + 1)) = _
        rw [hsn, nb_append, nb_one]
      obtain ⟨d, hd⟩ : ∃ d, ob (ms.take k) = d := ⟨_, rfl⟩
      obtain ⟨d', hd'⟩ : ∃ d', nb (ms.take k) = d' := ⟨_, rfl⟩
      rw [hd] at HS hle ⊢
      rw [hd'] at HT hle2 ⊢
      clear hd hd' hc ht hsn
      have hszB : B ≤ wr.heap.size := by have := hbl.size; have := HB.out; omega
      by_cases h1 : c = 32
      · subst h1
        go_wp2
        go_roundw
        case rel => exact ⟨k + 1, by omega, by go_num, by rw [HS.out]; go_num, by rw [HT.out]; go_num, hbl.alloc hszB _⟩
        case measure => simp [intOf]; omega
      have h1' : (c == 32) = false := by simpa using h1
      by_cases h2 : c = 45
      · subst h2
        go_wp2
        go_roundw
        case rel => exact ⟨k + 1, by omega, by go_num, by rw [HS.out]; go_num, by rw [HT.out]; go_num, hbl.alloc hszB _⟩
        case measure => simp [intOf]; omega
      have h2' : (c == 45) = false := by simpa using h2
      by_cases h3 : c = 43
      · subst h3
        go_wp2
        go_roundw
        case rel => exact ⟨k + 1, by omega, by go_num, by rw [HS.out]; go_num, by rw [HT.out]; go_num, hbl.alloc hszB _⟩
        case measure => simp [intOf]; omega
      have h3' : (c == 43) = false := by simpa using h3
      have HS2 : Hid (ob (ms.take (k + 1)) = d) := by
        show ob (ms.take (k + 1)) = d
        rw [HS.out, if_neg (by omega)]; rfl
      have HT2 : Hid (nb (ms.take (k + 1)) = d') := by
        show nb (ms.take (k + 1)) = d'
        rw [HT.out, if_neg (by omega)]; rfl
      clear h1 h2 h3
      go_wp2
      go_roundw
      case rel => exact ⟨k + 1, by omega, by go_num, by rw [HS2.out], by rw [HT2.out], hbl.alloc hszB _⟩
      case measure => simp [intOf]; omega
    · go_wp2
      go_ret2
      refine ⟨?_, hbl⟩
      rw [List.take_of_length_le (by have := HN.out; omega)]; rfl

set_option maxHeartbeats 400000 in
theorem hunkSz (o p : Int) (a : Option Addr) (ms : List (Int × ByteArray)) (ca : Nat) (w : World) (ha : Mks w a ms) (hm : ms.length ≤ maxLen) :
    Calls Tryd.prog 62 #[.agg #[.int .i64 o, .int .i64 p, .slice a ms.length ca]] w fun e w' => e = .returned (.tuple #[.int .i64 (ob ms), .int .i64 (nb ms)]) ∧ Below w.heap.size w w' := by
  have hb0 := below_alloc w (.cells #[.int .i64 o, .int .i64 p, .slice a ms.length ca] 40)
  have hct := countOf a ms ca _ (ha.below hb0) hm
  have HB0 : Hid (Below w.heap.size w (w.alloc (.cells #[.int .i64 o, .int .i64 p, .slice a ms.length ca] 40))) := hb0
  obtain ⟨n, hn⟩ : ∃ n, ms.length = n := ⟨_, rfl⟩
  rw [hn] at hct HB0
  rw [hn]
  clear ha hm hn hb0
  go_enter Tryd.func62, Tryd.ntmps62
  go_wp2_with (go_at_call 80; refine hct.mono ?_)
  rintro e w1 ⟨rfl, hb1⟩
  have hb1 := HB0.out.trans (hb1.mono HB0.out.size)
  clear hct HB0
  go_wp2
  go_ret2
  exact ⟨rfl, hb1⟩

set_option maxHeartbeats 400000 in
theorem isChange (c : Int) (t : ByteArray) (w : World) : Calls Tryd.prog 84 #[.agg #[.int .u8 c, .string t]] w fun e w' => e = .returned (.bool (c != 32)) ∧ Below w.heap.size w w' := by
  have HB : Hid (Below w.heap.size w (w.alloc (.cells #[.int .u8 c, .string t] 37))) := below_alloc w _
  go_enter Tryd.func84, Tryd.ntmps84
  go_wp2
  go_ret
  exact ⟨rfl, HB.out⟩

theorem chg_any (ms : List (Int × ByteArray)) (k : Nat) (hk : k < ms.length) (h : (ms.getD k (0, ByteArray.empty)).1 ≠ 32) : 0 < chg ms := by
  unfold chg
  rw [List.length_pos_iff_exists_mem]
  refine ⟨ms.getD k (0, ByteArray.empty), List.mem_filter.2 ⟨?_, by simpa using h⟩⟩
  have e : ms.getD k (0, ByteArray.empty) = ms[k] := by simp [hk]
  rw [e]; exact List.getElem_mem _

theorem chg_none (ms : List (Int × ByteArray)) (h : ∀ j, j < ms.length → (ms.getD j (0, ByteArray.empty)).1 = 32) : chg ms = 0 := by
  unfold chg
  rw [List.length_eq_zero_iff, List.filter_eq_nil_iff]
  intro m hm hne
  obtain ⟨i, hi, rfl⟩ := List.mem_iff_getElem.1 hm
  have := h i hi
  simp [hi] at this
  simp [this] at hne

set_option maxRecDepth 100000 in
set_option maxHeartbeats 1000000 in
theorem indexFunc (a : Option Addr) (ms : List (Int × ByteArray)) (ca : Nat) (w : World) (ha : Mks w a ms) (hm : ms.length ≤ maxLen) :
    Calls Tryd.prog 97 #[.slice a ms.length ca, .func (.func 84) #[] #[]] w fun e w' => ∃ r : Int, e = .returned (.int .i64 r) ∧ (0 ≤ r ↔ 0 < chg ms) ∧ Below w.heap.size w w' := by
  have eg : ∀ args w, (callFunc 84 args).run Tryd.prog w = .ok (.enter 84 args) w := enters_of Tryd.func84 (by kernel_rfl) rfl
  unfold maxLen at hm
  obtain ⟨n, hn⟩ : ∃ n, ms.length = n := ⟨_, rfl⟩
  rw [hn] at hm ⊢
  have HN : Hid (ms.length = n) := hn
  have HA : Hid (Mks w a ms) := ha
  clear hn ha
  obtain ⟨B, hB⟩ : ∃ B, w.heap.size = B := ⟨_, rfl⟩
  have HB : Hid (w.heap.size = B) := hB
  rw [hB]
  clear hB
  go_enter Tryd.func97, Tryd.ntmps97
  go_wp2
  go_loopw [5, 8] (fun _ i w1 => ∃ k : Nat, k ≤ n ∧ i = .int .i64 k ∧ Below B w w1 ∧ ∀ j : Nat, j < k → (ms.getD j (0, ByteArray.empty)).1 = 32) (fun _ i _ => n - (intOf i).toNat)
  case atStart => exact ⟨0, Nat.zero_le _, rfl, Below.refl _ _, by simp⟩
  case round =>
    obtain ⟨k, hk, rfl, hbl, hall⟩ := hrel
    have HALL : Hid (∀ j : Nat, j < k → (ms.getD j (0, ByteArray.empty)).1 = 32) := hall
    clear hall
    by_cases hlt : k < n
    · have ha := HA.out
      obtain ⟨b, off, rfl, hc1, hc2⟩ := ha.at (i := k) (by rw [HN.out]; exact hlt)
      clear ha
      replace hc1 := cell_later (by rw [HB.out]; exact hbl) hc1
      replace hc2 := cell_later (by rw [HB.out]; exact hbl) hc2
      obtain ⟨c, hc⟩ : ∃ c, (ms.getD k (0, ByteArray.empty)).1 = c := ⟨_, rfl⟩
      obtain ⟨t, ht⟩ : ∃ t, (ms.getD k (0, ByteArray.empty)).2 = t := ⟨_, rfl⟩
      rw [hc] at hc1
      rw [ht] at hc2
      have HC : Hid ((ms.getD k (0, ByteArray.empty)).1 = c) := hc
      clear hc ht
      have hszB : B ≤ wr.heap.size := by have := hbl.size; have := HB.out; omega
      have hch := isChange c t wr
      by_cases hcs : c = 32
      · have HCS : Hid (c = 32) := hcs
        rw [show (c != 32) = false by simp [hcs]] at hch
        clear hcs
        go_wp2_with (go_at_fn 84; refine hch.mono ?_)
        rintro e w1 ⟨rfl, hb1⟩
        have hb1 := hbl.trans (hb1.mono hszB)
        clear hch hbl
        go_wp2
        go_roundw
        case rel => exact ⟨k + 1, by omega, by go_num, hb1, fun j hj => by
          by_cases e : j = k
          · rw [e, HC.out]; exact HCS.out
          · exact HALL.out j (by omega)⟩
        case measure => simp [intOf]; omega
      · have HCS : Hid (c ≠ 32) := hcs
        rw [show (c != 32) = true by simp [hcs]] at hch
        clear hcs
        go_wp2_with (go_at_fn 84; refine hch.mono ?_)
        rintro e w1 ⟨rfl, hb1⟩
        have hb1 := hbl.trans (hb1.mono hszB)
        clear hch hbl
        go_wp2
        go_ret
        refine ⟨_, rfl, ⟨fun _ => chg_any ms k (by rw [HN.out]; exact hlt) (by rw [HC.out]; exact HCS.out), fun _ => by omega⟩, hb1⟩
    · go_wp2
      go_ret
      refine ⟨_, rfl, ⟨fun h => absurd h (by decide), fun h => ?_⟩, hbl⟩
      rw [chg_none ms fun j hj => HALL.out j (by have := HN.out; omega)] at h
      exact absurd h (by decide)

set_option maxHeartbeats 400000 in
theorem containsFunc (a : Option Addr) (ms : List (Int × ByteArray)) (ca : Nat) (w : World) (ha : Mks w a ms) (hm : ms.length ≤ maxLen) :
    Calls Tryd.prog 83 #[.slice a ms.length ca, .func (.func 84) #[] #[]] w fun e w' => e = .returned (.bool (decide (0 < chg ms))) ∧ Below w.heap.size w w' := by
  have hix := indexFunc a ms ca w ha hm
  obtain ⟨n, hn⟩ : ∃ n, ms.length = n := ⟨_, rfl⟩
  rw [hn] at hix
  rw [hn]
  clear ha hm hn
  go_enter Tryd.func83, Tryd.ntmps83
  go_wp2_with (go_at_call 97; refine hix.mono ?_)
  rintro e w1 ⟨r, rfl, hr, hb1⟩
  have HR : Hid (0 ≤ r ↔ 0 < chg ms) := hr
  clear hix hr
  go_wp2
  go_ret
  refine ⟨ret_b ?_, hb1⟩
  simp only [HR.out]

/-- Lines end within a file. -/
def fitB (p : Int) (s : Nat) : Bool := decide (0 ≤ p) && (decide (p ≤ 60) && decide (p + s ≤ 60))

set_option maxHeartbeats 400000 in
theorem fits (p : Int) (s : Nat) (w : World) (hs : s ≤ 1000) : Calls Tryd.prog 85 #[.int .i64 p, .int .i64 s] w fun e w' => e = .returned (.bool (fitB p s)) ∧ w' = w := by
  have E : Hid (∀ b, fitB p s = b → Ending.returned (.bool b) = .returned (.bool (fitB p s))) := fun b hb => by rw [hb]
  by_cases h1 : 0 ≤ p
  · by_cases h2 : p ≤ 60
    · by_cases h3 : p + s ≤ 60
      all_goals
        go_enter Tryd.func85, Tryd.ntmps85
        go_wp2
        go_ret
        exact ⟨E.out _ (by simp [fitB, h1, h2, h3]), rfl⟩
    · go_enter Tryd.func85, Tryd.ntmps85
      go_wp2
      go_ret
      exact ⟨E.out _ (by simp [fitB]; omega), rfl⟩
  · go_enter Tryd.func85, Tryd.ntmps85
    go_wp2
    go_ret
    exact ⟨E.out _ (by simp [fitB]; omega), rfl⟩

end Go.Proofs.YtnkdmgekpajfhaeDoor
