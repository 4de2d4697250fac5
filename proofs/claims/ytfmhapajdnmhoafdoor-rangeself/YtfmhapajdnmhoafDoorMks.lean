/-
  Marks as they lie in memory; walks of edit.checkMark and edit.Check: the fault of a mark, the fault of a script.
-/
import Derived.Test.YtfmhapajdnmhoafDoorXm
import Derived.Test.YtfmhapajdnmhoafDoorXi
namespace Go.Proofs.YtfmhapajdnmhoafDoor
open Go.RowKit Dist

/-- Marks as they lie in memory: a sign and a text each. -/
def Mks (w : World) (a : Option Addr) (ms : List (Int × ByteArray)) : Prop :=
  ∀ i : Nat, i < ms.length → ∃ b off, a = some ⟨b, off, none⟩ ∧ w.cell? ⟨b, off + i * 2, none⟩ = some (.int .u8 (ms.getD i (0, ByteArray.empty)).1) ∧ w.cell? ⟨b, off + i * 2 + 1, none⟩ = some (.string (ms.getD i (0, ByteArray.empty)).2)

theorem Mks.at {w : World} {a : Option Addr} {ms : List (Int × ByteArray)} (h : Mks w a ms) {i : Nat} (hi : i < ms.length) :
    ∃ b off, a = some ⟨b, off, none⟩ ∧ w.cell? ⟨b, off + i * 2, none⟩ = some (.int .u8 (ms.getD i (0, ByteArray.empty)).1) ∧ w.cell? ⟨b, off + i * 2 + 1, none⟩ = some (.string (ms.getD i (0, ByteArray.empty)).2) := h i hi

theorem Mks.below {w w' : World} {a : Option Addr} {ms : List (Int × ByteArray)} (h : Mks w a ms) (hb : Below w.heap.size w w') : Mks w' a ms := by
  intro i hi
  obtain ⟨b, off, rfl, h1, h2⟩ := h i hi
  exact ⟨b, off, rfl, cell_later hb h1, cell_later hb h2⟩

/-- The fault of a mark. -/
def mf (c : Int) (t : List UInt8) : Int := if c = 32 ∨ c = 45 ∨ c = 43 then lf t else 1

/-- The fault of marks, mark by mark. -/
def sg : List (Int × ByteArray) → Int
  | [] => 0
  | m :: r => if mf m.1 m.2.data.toList = 0 then sg r else mf m.1 m.2.data.toList

/-- The fault of a script. -/
def sf (ms : List (Int × ByteArray)) : Int := if 120 < ms.length then 3 else sg ms

theorem sg_drop (ms : List (Int × ByteArray)) (k : Nat) (h : ∀ j, j < k → mf (ms.getD j (0, ByteArray.empty)).1 (ms.getD j (0, ByteArray.empty)).2.data.toList = 0) (hk : k ≤ ms.length) : sg ms = sg (ms.drop k) := by
  induction k generalizing ms with
  | zero => simp
  | succ k ih =>
    cases ms with
    | nil => simp at hk
    | cons s t =>
      have h0 := h 0 (by omega)
      simp at h0
      have := ih t (fun j hj => by simpa using h (j + 1) (by omega)) (by simpa using hk)
      simp only [List.drop_succ_cons]
      rw [← this]
      simp [sg, h0]

theorem sg_at (ms : List (Int × ByteArray)) (k : Nat) (h : ∀ j, j < k → mf (ms.getD j (0, ByteArray.empty)).1 (ms.getD j (0, ByteArray.empty)).2.data.toList = 0) (hk : k < ms.length)
    (hb : mf (ms.getD k (0, ByteArray.empty)).1 (ms.getD k (0, ByteArray.empty)).2.data.toList ≠ 0) : sg ms = mf (ms.getD k (0, ByteArray.empty)).1 (ms.getD k (0, ByteArray.empty)).2.data.toList := by
  rw [sg_drop ms k h (by omega)]
  rw [List.drop_eq_getElem_cons hk]
  have e : ms.getD k (0, ByteArray.empty) = ms[k] := by simp [hk]
  rw [e] at hb ⊢
  rw [sg, if_neg hb]

theorem sg_zero {ms : List (Int × ByteArray)} (h : sg ms = 0) : ∀ m ∈ ms, mf m.1 m.2.data.toList = 0 := by
  induction ms with
  | nil => intro m hm; simp at hm
  | cons s t ih =>
    unfold sg at h
    by_cases e : mf s.1 s.2.data.toList = 0
    · rw [if_pos e] at h
      intro m hm
      rcases List.mem_cons.1 hm with rfl | hm
      · exact e
      · exact ih h m hm
    · rw [if_neg e] at h; exact absurd h e

theorem sf_zero {ms : List (Int × ByteArray)} (h : sf ms = 0) : ms.length ≤ 120 ∧ ∀ m ∈ ms, sgn m.1 ∧ lf m.2.data.toList = 0 := by
  unfold sf at h
  by_cases e : 120 < ms.length
  · rw [if_pos e] at h; simp at h
  · rw [if_neg e] at h
    refine ⟨by omega, fun m hm => ?_⟩
    have := sg_zero h m hm
    unfold mf at this
    by_cases hs : m.1 = 32 ∨ m.1 = 45 ∨ m.1 = 43
    · rw [if_pos hs] at this; exact ⟨hs, this⟩
    · rw [if_neg hs] at this; simp at this

theorem sf_of {ms : List (Int × ByteArray)} (hl : ms.length ≤ 120) (h : ∀ m ∈ ms, sgn m.1 ∧ lf m.2.data.toList = 0) : sf ms = 0 := by
  unfold sf
  rw [if_neg (by omega)]
  clear hl
  induction ms with
  | nil => rfl
  | cons s t ih =>
    have hs := h s (by simp)
    have e : mf s.1 s.2.data.toList = 0 := by unfold mf; exact (if_pos hs.1).trans hs.2
    rw [sg, if_pos e]
    exact ih fun m hm => h m (List.mem_cons_of_mem _ hm)

theorem checkOne_any (s : ByteArray) (w : World) : Calls Tryd.prog 78 #[.string s] w fun e w' => e = .returned (errV (lf s.data.toList)) ∧ w' = w := by
  by_cases h : lf s.data.toList = 0
  · rw [h, errV_zero]; exact checkOne_ok s w h
  · rw [errV_not h]; exact checkOne_bad s w h

set_option maxHeartbeats 400000 in
theorem checkMark (c : Int) (t : ByteArray) (w : World) : Calls Tryd.prog 73 #[.agg #[.int .u8 c, .string t]] w fun e w' => e = .returned (errV (mf c t.data.toList)) ∧ Below w.heap.size w w' := by
  have hone := fun w => checkOne_any t w
  have hb := below_alloc w (.cells #[.int .u8 c, .string t] 69)
  have HB : Hid (Below w.heap.size w (w.alloc (.cells #[.int .u8 c, .string t] 69))) := hb
  have e1 : Hid (sgn c → mf c t.data.toList = lf t.data.toList) := fun h => by unfold mf; exact if_pos h
  have e2 : Hid (¬ sgn c → mf c t.data.toList = 1) := fun h => by unfold mf; exact if_neg h
  obtain ⟨f, hf⟩ : ∃ f, errV (lf t.data.toList) = f := ⟨_, rfl⟩
  rw [hf] at hone
  have HF : Hid (errV (lf t.data.toList) = f) := hf
  clear hb hf
  by_cases h1 : c = 32
  case' pos =>
    subst h1
    go_enter Tryd.func73, Tryd.ntmps73
    go_wp2_with (go_at_call 78; refine (hone _).mono ?_; rintro e w' ⟨rfl, hw⟩; rw [hw])
    go_ret
    refine ⟨?_, HB.out⟩
    rw [e1.out (by unfold sgn; omega), HF.out]; rfl
  have h1 : (c == 32) = false := by simpa using h1
  by_cases h2 : c = 45
  case' pos =>
    subst h2
    go_enter Tryd.func73, Tryd.ntmps73
    go_wp2_with (go_at_call 78; refine (hone _).mono ?_; rintro e w' ⟨rfl, hw⟩; rw [hw])
    go_ret
    refine ⟨?_, HB.out⟩
    rw [e1.out (by unfold sgn; omega), HF.out]; rfl
  have h2 : (c == 45) = false := by simpa using h2
  by_cases h3 : c = 43
  case' pos =>
    subst h3
    go_enter Tryd.func73, Tryd.ntmps73
    go_wp2_with (go_at_call 78; refine (hone _).mono ?_; rintro e w' ⟨rfl, hw⟩; rw [hw])
    go_ret
    refine ⟨?_, HB.out⟩
    rw [e1.out (by unfold sgn; omega), HF.out]; rfl
  have h3 : (c == 43) = false := by simpa using h3
  have e3 : Hid (mf c t.data.toList = 1) := e2.out (by unfold sgn; simp at h1 h2 h3; omega)
  clear e1 e2 hone HF
  go_enter Tryd.func73, Tryd.ntmps73
  go_wp2
  go_ret
  refine ⟨?_, HB.out⟩
  rw [e3.out]; rfl

set_option maxRecDepth 100000 in
set_option maxHeartbeats 1000000 in
theorem editCheck (a : Option Addr) (ms : List (Int × ByteArray)) (ca : Nat) (w : World) (ha : Mks w a ms) (hm : ms.length ≤ maxLen) :
    Calls Tryd.prog 60 #[.slice a ms.length ca] w fun e w' => e = .returned (errV (sf ms)) ∧ Below w.heap.size w w' := by
  unfold maxLen at hm
  obtain ⟨n, hn⟩ : ∃ n, ms.length = n := ⟨_, rfl⟩
  rw [hn] at hm ⊢
  by_cases hbig : 120 < (n : Int)
  · have he : sf ms = 3 := by unfold sf; rw [hn, if_pos (by omega)]
    rw [he]
    clear he hn
    go_enter Tryd.func60, Tryd.ntmps60
    go_wp2
    go_ret
    exact ⟨rfl, Below.refl _ _⟩
  · have he : Hid (sf ms = sg ms) := by show sf ms = _; unfold sf; rw [hn, if_neg (by omega)]
    have HN : Hid (ms.length = n) := hn
    have HA : Hid (Mks w a ms) := ha
    clear hn ha
    obtain ⟨B, hB⟩ : ∃ B, w.heap.size = B := ⟨_, rfl⟩
    have HB : Hid (w.heap.size = B) := hB
    rw [hB]
    clear hB
    go_enter Tryd.func60, Tryd.ntmps60
    go_wp2
    go_loopw [12] (fun i w1 => ∃ k : Nat, k ≤ n ∧ i = .int .i64 k ∧ Below B w w1 ∧ ∀ j : Nat, j < k → mf (ms.getD j (0, ByteArray.empty)).1 (ms.getD j (0, ByteArray.empty)).2.data.toList = 0) (fun i _ => n - (intOf i).toNat)
    case atStart => exact ⟨0, Nat.zero_le _, rfl, Below.refl _ _, by simp⟩
    case round =>
      obtain ⟨k, hk, rfl, hbl, hall⟩ := hrel
      have HALL : Hid (∀ j : Nat, j < k → mf (ms.getD j (0, ByteArray.empty)).1 (ms.getD j (0, ByteArray.empty)).2.data.toList = 0) := hall
      clear hall
      by_cases hlt : k < n
      · have ha := HA.out
        have hsat := sg_at ms k HALL.out (by rw [HN.out]; exact hlt)
        obtain ⟨b, off, rfl, hc1, hc2⟩ := ha.at (i := k) (by rw [HN.out]; exact hlt)
        clear ha
        replace hc1 := cell_later (by rw [HB.out]; exact hbl) hc1
        replace hc2 := cell_later (by rw [HB.out]; exact hbl) hc2
        obtain ⟨c, hc⟩ : ∃ c, (ms.getD k (0, ByteArray.empty)).1 = c := ⟨_, rfl⟩
        obtain ⟨t, ht⟩ : ∃ t, (ms.getD k (0, ByteArray.empty)).2 = t := ⟨_, rfl⟩
        rw [hc] at hc1 hsat
        rw [ht] at hc2 hsat
        have HC : Hid ((ms.getD k (0, ByteArray.empty)).1 = c) := hc
        have HT : Hid ((ms.getD k (0, ByteArray.empty)).2 = t) := ht
        have HSAT : Hid (mf c t.data.toList ≠ 0 → sg ms = mf c t.data.toList) := hsat
        clear hc ht hsat
        have hsz := hbl.size
        have hck := checkMark c t (wr.alloc (.cells #[.int .u8 c, .string t] 69))
        by_cases hf : mf c t.data.toList = 0
        · rw [hf, errV_zero] at hck
          have HF : Hid (mf c t.data.toList = 0) := hf
          clear hf
          go_wp2_with (go_at_call 73; refine hck.mono ?_)
          rintro e w1 ⟨rfl, hb1⟩
          clear hck
          have hb1 : Below B w w1 := (hbl.alloc (by have := HB.out; omega) _).trans (hb1.mono (by have := HB.out; simp; omega))
          go_wp2
          go_roundw
          case rel => exact ⟨k + 1, by omega, by go_num, hb1, fun j hj => by
            by_cases e : j = k
            · subst e; rw [HC.out, HT.out]; exact HF.out
            · exact HALL.out j (by omega)⟩
          case measure => simp [intOf]; omega
        · have HF : Hid (mf c t.data.toList ≠ 0) := hf
          rw [errV_not hf] at hck
          clear hf
          go_wp2_with (go_at_call 73; refine hck.mono ?_)
          rintro e w1 ⟨rfl, hb1⟩
          clear hck
          have hb1 : Below B w w1 := (hbl.alloc (by have := HB.out; omega) _).trans (hb1.mono (by have := HB.out; simp; omega))
          go_wp2
          go_ret
          refine ⟨ret_v ?_, hb1⟩
          rw [he.out, HSAT.out HF.out, errV_not HF.out]; rfl
      · go_wp2
        go_ret
        refine ⟨ret_v ?_, hbl⟩
        have h1 := sg_drop ms k HALL.out (by have := HN.out; omega)
        rw [List.drop_of_length_le (by have := HN.out; omega)] at h1
        rw [he.out, h1]; rfl

end Go.Proofs.YtfmhapajdnmhoafDoor
