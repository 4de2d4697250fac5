/-
  Marks as they lie in memory; walks of edit.checkMark and edit.Check: the fault of a mark, the fault of a script. Rows that a call has made and lengthens; walks of edit.without, edit.Old, edit.New: the lines that a script leads from and to.
-/
import Derived.Test.YtnkdmgekpajfhadGreatDoorXm
import Derived.Test.YtnkdmgekpajfhadGreatDoorXi
import Derived.Maps.AppendAt

namespace Go.Proofs.YtnkdmgekpajfhadGreatDoor
open Go.RowKit Dist

/-- Marks as they lie in memory: a sign and a text each. -/
def Mks (w : World) (a : Option Addr) (ms : List (Int × ByteArray)) : Prop :=
  ∀ i : Nat, i < ms.length → ∃ b off, a = some ⟨b, off, none⟩ ∧ w.cell? ⟨b, off + i * 2, none⟩ = some (.int .u8 (ms.getD i (0, ByteArray.empty)).1) ∧ w.cell? ⟨b, off + i * 2 + 1, none⟩ = some (.string (ms.getD i (0, ByteArray.empty)).2)

theorem Mks.at {w : World} {a : Option Addr} {ms : List (Int × ByteArray)} (h : Mks w a ms) {i : Nat} (hi : i < ms.length) :
    ∃ b off, a = some ⟨b, off, none⟩ ∧ w.cell? ⟨b, off + i * 2, none⟩ = some (.int .u8 (ms.getD i (0, ByteArray.empty)).1) ∧ w.cell? ⟨b, off + i * 2 + 1, none⟩ = some (.string (ms.getD i (0, ByteArray.empty)).2) := h i hi

theorem Mks.below {w w' : World} {a : Option Addr} {ms : List (Int × ByteArray)} (h : Mks w a ms) (hb : Below w.heap.size w w') : Mks w' a ms := by
  intro i hi
  obtain ⟨b, off, rfl, h1, h2⟩ := h i hi
  exact ⟨b, off, rfl, cell_later hb h1, cell_later hb h2⟩

/-- The fault of a mark. -/
def mf (c : Int) (t : List UInt8) : Int := if c = 32 ∨ c = 45 ∨ c = 43 then lf t else 1

/-- The fault of marks, mark by mark. -/
def sg : List (Int × ByteArray) → Int
  | [] => 0
  | m :: r => if mf m.1 m.2.data.toList = 0 then sg r else mf m.1 m.2.data.toList

/-- The fault of a script. -/
def sf (ms : List (Int × ByteArray)) : Int := if 120 < ms.length then 3 else sg ms

theorem sg_drop (ms : List (Int × ByteArray)) (k : Nat) (h : ∀ j, j < k → mf (ms.getD j (0, ByteArray.empty)).1 (ms.getD j (0, ByteArray.empty)).2.data.toList = 0) (hk : k ≤ ms.length) : sg ms = sg (ms.drop k) := by
  induction k generalizing ms with
  | zero => simp
  | succ k ih =>
    cases ms with
    | nil => simp at hk
    | cons s t =>
      have h0 := h 0 (by omega)
      simp at h0
      have := ih t (fun j hj => by simpa using h (j + 1) (by omega)) (by simpa using hk)
      simp only [List.drop_succ_cons]
      rw [← this]
      simp [sg, h0]

theorem sg_at (ms : List (Int × ByteArray)) (k : Nat) (h : ∀ j, j < k → mf (ms.getD j (0, ByteArray.empty)).1 (ms.getD j (0, ByteArray.empty)).2.data.toList = 0) (hk : k < ms.length)
    (hb : mf (ms.getD k (0, ByteArray.empty)).1 (ms.getD k (0, ByteArray.empty)).2.data.toList ≠ 0) : sg ms = mf (ms.getD k (0, ByteArray.empty)).1 (ms.getD k (0, ByteArray.empty)).2.data.toList := by
  rw [sg_drop ms k h (by omega)]
  rw [List.drop_eq_getElem_cons hk]
  have e : ms.getD k (0, ByteArray.empty) = ms[k] := by simp [hk]
  rw [e] at hb ⊢
  rw [sg, if_neg hb]

theorem sg_zero {ms : List (Int × ByteArray)} (h : sg ms = 0) : ∀ m ∈ ms, mf m.1 m.2.data.toList = 0 := by
  induction ms with
  | nil => intro m hm; simp at hm
  | cons s t ih =>
    unfold sg at h
    by_cases e : mf s.1 s.2.data.toList = 0
    · rw [if_pos e] at h
      intro m hm
      rcases List.mem_cons.1 hm with rfl | hm
      · exact e
      · exact ih h m hm
    · rw [if_neg e] at h; exact absurd h e

theorem sf_zero {ms : List (Int × ByteArray)} (h : sf ms = 0) : ms.length ≤ 120 ∧ ∀ m ∈ ms, sgn m.1 ∧ lf m.2.data.toList = 0 := by
  unfold sf at h
  by_cases e : 120 < ms.length
  · rw [if_pos e] at h; simp at h
  · rw [if_neg e] at h
    refine ⟨by omega, fun m hm => ?_⟩
    have := sg_zero h m hm
    unfold mf at this
    by_cases hs : m.1 = 32 ∨ m.1 = 45 ∨ m.1 = 43
    · rw [if_pos hs] at this; exact ⟨hs, this⟩
    · rw [if_neg hs] at this; simp at this

theorem sf_of {ms : List (Int × ByteArray)} (hl : ms.length ≤ 120) (h : ∀ m ∈ ms, sgn m.1 ∧ lf m.2.data.toList = 0) : sf ms = 0 := by
  unfold sf
  rw [if_neg (by omega)]
  clear hl
  induction ms with
  | nil => rfl
  | cons s t ih =>
    have hs := h s (by simp)
    have e : mf s.1 s.2.data.toList = 0 := by unfold mf; exact (if_pos hs.1).trans hs.2
    rw [sg, if_pos e]
    exact ih fun m hm => h m (List.mem_cons_of_mem _ hm)

theorem checkOne_any (s : ByteArray) (w : World) : Calls Tryz.prog 152 #[.string s] w fun e w' => e = .returned (errV (lf s.data.toList)) ∧ w' = w := by
  by_cases h : lf s.data.toList = 0
  · rw [h, errV_zero]; exact checkOne_ok s w h
  · rw [errV_not h]; exact checkOne_bad s w h

set_option maxHeartbeats 400000 in
theorem checkMark (c : Int) (t : ByteArray) (w : World) : Calls Tryz.prog 132 #[.agg #[.int .u8 c, .string t]] w fun e w' => e = .returned (errV (mf c t.data.toList)) ∧ Below w.heap.size w w' := by
  have hone := fun w => checkOne_any t w
  have hb := below_alloc w (.cells #[.int .u8 c, .string t] 97)
  have HB : Hid (Below w.heap.size w (w.alloc (.cells #[.int .u8 c, .string t] 97))) := hb
  have e1 : Hid (sgn c → mf c t.data.toList = lf t.data.toList) := fun h => by unfold mf; exact if_pos h
  have e2 : Hid (¬ sgn c → mf c t.data.toList = 1) := fun h => by unfold mf; exact if_neg h
  obtain ⟨f, hf⟩ : ∃ f, errV (lf t.data.toList) = f := ⟨_, rfl⟩
  rw [hf] at hone
  have HF : Hid (errV (lf t.data.toList) = f) := hf
  clear hb hf
  by_cases h1 : c = 32
  case' pos =>
    subst h1
    go_enter Tryz.func132, Tryz.ntmps132
    go_wp2_with (go_at_call 152; refine (hone _).mono ?_; rintro e w' ⟨rfl, hw⟩; rw [hw])
    go_ret
    refine ⟨?_, HB.out⟩
    rw [e1.out (by unfold sgn; omega), HF.out]; rfl
  have h1 : (c == 32) = false := by simpa using h1
  by_cases h2 : c = 45
  case' pos =>
    subst h2
    go_enter Tryz.func132, Tryz.ntmps132
    go_wp2_with (go_at_call 152; refine (hone _).mono ?_; rintro e w' ⟨rfl, hw⟩; rw [hw])
    go_ret
    refine ⟨?_, HB.out⟩
    rw [e1.out (by unfold sgn; omega), HF.out]; rfl
  have h2 : (c == 45) = false := by simpa using h2
  by_cases h3 : c = 43
  case' pos =>
    subst h3
    go_enter Tryz.func132, Tryz.ntmps132
    go_wp2_with (go_at_call 152; refine (hone _).mono ?_; rintro e w' ⟨rfl, hw⟩; rw [hw])
    go_ret
    refine ⟨?_, HB.out⟩
    rw [e1.out (by unfold sgn; omega), HF.out]; rfl
  have h3 : (c == 43) = false := by simpa using h3
  have e3 : Hid (mf c t.data.toList = 1) := e2.out (by unfold sgn; simp at h1 h2 h3; omega)
  clear e1 e2 hone HF
  go_enter Tryz.func132, Tryz.ntmps132
  go_wp2
  go_ret
  refine ⟨?_, HB.out⟩
  rw [e3.out]; rfl

set_option maxRecDepth 100000 in
set_option maxHeartbeats 1000000 in
theorem editCheck (a : Option Addr) (ms : List (Int × ByteArray)) (ca : Nat) (w : World) (ha : Mks w a ms) (hm : ms.length ≤ maxLen) :
    Calls Tryz.prog 106 #[.slice a ms.length ca] w fun e w' => e = .returned (errV (sf ms)) ∧ Below w.heap.size w w' := by
  unfold maxLen at hm
  obtain ⟨n, hn⟩ : ∃ n, ms.length = n := ⟨_, rfl⟩
  rw [hn] at hm ⊢
  by_cases hbig : 120 < (n : Int)
  · have he : sf ms = 3 := by unfold sf; rw [hn, if_pos (by omega)]
    rw [he]
    clear he hn
    go_enter Tryz.func106, Tryz.ntmps106
    go_wp2
    go_ret
    exact ⟨rfl, Below.refl _ _⟩
  · have he : Hid (sf ms = sg ms) := by show sf ms = _; unfold sf; rw [hn, if_neg (by omega)]
    have HN : Hid (ms.length = n) := hn
    have HA : Hid (Mks w a ms) := ha
    clear hn ha
    obtain ⟨B, hB⟩ : ∃ B, w.heap.size = B := ⟨_, rfl⟩
    have HB : Hid (w.heap.size = B) := hB
    rw [hB]
    clear hB
    go_enter Tryz.func106, Tryz.ntmps106
    go_wp2
    go_loopw [12] (fun i w1 => ∃ k : Nat, k ≤ n ∧ i = .int .i64 k ∧ Below B w w1 ∧ ∀ j : Nat, j < k → mf (ms.getD j (0, ByteArray.empty)).1 (ms.getD j (0, ByteArray.empty)).2.data.toList = 0) (fun i _ => n - (intOf i).toNat)
    case atStart => exact ⟨0, Nat.zero_le _, rfl, Below.refl _ _, by simp⟩
    case round =>
      obtain ⟨k, hk, rfl, hbl, hall⟩ := hrel
      have HALL : Hid (∀ j : Nat, j < k → mf (ms.getD j (0, ByteArray.empty)).1 (ms.getD j (0, ByteArray.empty)).2.data.toList = 0) := hall
      clear hall
      by_cases hlt : k < n
      · have ha := HA.out
        have hsat := sg_at ms k HALL.out (by rw [HN.out]; exact hlt)
        obtain ⟨b, off, rfl, hc1, hc2⟩ := ha.at (i := k) (by rw [HN.out]; exact hlt)
        clear ha
        replace hc1 := cell_later (by rw [HB.out]; exact hbl) hc1
        replace hc2 := cell_later (by rw [HB.out]; exact hbl) hc2
        obtain ⟨c, hc⟩ : ∃ c, (ms.getD k (0, ByteArray.empty)).1 = c := ⟨_, rfl⟩
        obtain ⟨t, ht⟩ : ∃ t, (ms.getD k (0, ByteArray.empty)).2 = t := ⟨_, rfl⟩
        rw [hc] at hc1 hsat
        rw [ht] at hc2 hsat
        have HC : Hid ((ms.getD k (0, ByteArray.empty)).1 = c) := hc
        have HT : Hid ((ms.getD k (0, ByteArray.empty)).2 = t) := ht
        have HSAT : Hid (mf c t.data.toList ≠ 0 → sg ms = mf c t.data.toList) := hsat
        clear hc ht hsat
        have hsz := hbl.size
        have hck := checkMark c t (wr.alloc (.cells #[.int .u8 c, .string t] 97))
        by_cases hf : mf c t.data.toList = 0
        · rw [hf, errV_zero] at hck
          have HF : Hid (mf c t.data.toList = 0) := hf
          clear hf
          go_wp2_with (go_at_call 132; refine hck.mono ?_)
          rintro e w1 ⟨rfl, hb1⟩
          clear hck
          have hb1 : Below B w w1 := (hbl.alloc (by have := HB.out; omega) _).trans (hb1.mono (by have := HB.out; simp; omega))
          go_wp2
          go_roundw
          case rel => exact ⟨k + 1, by omega, by go_num, hb1, fun j hj => by
            by_cases e : j = k
            · subst e; rw [HC.out, HT.out]; exact HF.out
            · exact HALL.out j (by omega)⟩
          case measure => simp [intOf]; omega
        · have HF : Hid (mf c t.data.toList ≠ 0) := hf
          rw [errV_not hf] at hck
          clear hf
          go_wp2_with (go_at_call 132; refine hck.mono ?_)
          rintro e w1 ⟨rfl, hb1⟩
          clear hck
          have hb1 : Below B w w1 := (hbl.alloc (by have := HB.out; omega) _).trans (hb1.mono (by have := HB.out; simp; omega))
          go_wp2
          go_ret
          refine ⟨ret_v ?_, hb1⟩
          rw [he.out, HSAT.out HF.out, errV_not HF.out]; rfl
      · go_wp2
        go_ret
        refine ⟨ret_v ?_, hbl⟩
        have h1 := sg_drop ms k HALL.out (by have := HN.out; omega)
        rw [List.drop_of_length_le (by have := HN.out; omega)] at h1
        rw [he.out, h1]; rfl

end Go.Proofs.YtnkdmgekpajfhadGreatDoor

namespace Go.Proofs.YtnkdmgekpajfhadGreatDoor
open Go.RowKit Dist

theorem own_later {B : Nat} {e : TypeId} {k : Nat} {v : Value} {n : Nat} {xs : List Value} {w w' : World} (h : w.ownsRow B e k v n xs) (hb : Below w.heap.size w w') : w'.ownsRow B e k v n xs := by
  refine ⟨h.1, ?_⟩
  rcases h.2 with h0 | ⟨g, cap, cur, hv, hB, hh, hr⟩
  · exact .inl h0
  · have hg : g < w.heap.size := by
      by_cases e : g < w.heap.size
      · exact e
      · rw [Array.getElem?_eq_none (by omega)] at hh; cases hh
    exact .inr ⟨g, cap, cur, hv, hB, blk_below hb hg hh, hr⟩

theorem own_ne {w : World} {B : Nat} {e : TypeId} {k : Nat} {v : Value} {n : Nat} {xs : List Value} (h : w.ownsRow B e k v n xs) {G i : Nat} (hG : v.ownBlock ≠ some G) (x : Value) : (w.setCell ⟨G, i, none⟩ x).ownsRow B e k v n xs := by
  refine ⟨h.1, ?_⟩
  rcases h.2 with h0 | ⟨g, cap, cur, hv, hB, hh, hr⟩
  · exact .inl h0
  · refine .inr ⟨g, cap, cur, hv, hB, ?_, hr⟩
    have hne : g ≠ G := by
      intro e
      apply hG
      rw [hv, e]; rfl
    have e : (w.setCell ⟨G, i, none⟩ x).heap[g]? = w.heap[g]? := by
      simp only [World.setCell, Array.getElem?_modify]
      rw [if_neg (fun e => hne e.symm)]
    rw [e]; exact hh

theorem strs_of_own {B : Nat} {v : Value} {ss : List ByteArray} {w : World} (h : w.ownsRow B 9 1 v ss.length (ss.map Value.string)) : ∃ a cap, v = .slice a ss.length cap ∧ Strs w a ss := by
  rcases h.2 with ⟨rfl, h0⟩ | ⟨g, cap, cur, rfl, hB, hh, _, _, hcs, ht⟩
  · have : ss = [] := List.length_eq_zero_iff.1 h0
    subst this
    exact ⟨none, 0, rfl, fun i hi => absurd hi (by simp)⟩
  · refine ⟨some ⟨g, 0, none⟩, cap, rfl, fun i hi => ⟨g, 0, rfl, ?_⟩⟩
    rw [Nat.zero_add, Lib.cell_of_heap hh]
    rw [Nat.mul_one] at ht
    have h1 : (cur.toList.take ss.length)[i]? = (ss.map Value.string)[i]? := by rw [ht]
    rw [List.getElem?_take, if_pos hi, List.getElem?_map] at h1
    rw [← Array.getElem?_toList, h1]
    simp [hi]

/-- The cells of marks. -/
def mcells (ms : List (Int × ByteArray)) : List Value := ms.flatMap fun m => [.int .u8 m.1, .string m.2]

theorem mcells_append (a b : List (Int × ByteArray)) : mcells (a ++ b) = mcells a ++ mcells b := by unfold mcells; rw [List.flatMap_append]

theorem mcells_at (ms : List (Int × ByteArray)) (i : Nat) (hi : i < ms.length) : (mcells ms)[i * 2]? = some (.int .u8 (ms.getD i (0, ByteArray.empty)).1) ∧ (mcells ms)[i * 2 + 1]? = some (.string (ms.getD i (0, ByteArray.empty)).2) := by
  induction ms generalizing i with
  | nil => simp at hi
  | cons m r ih =>
    have e : mcells (m :: r) = .int .u8 m.1 :: .string m.2 :: mcells r := rfl
    rw [e]
    cases i with
    | zero => simp
    | succ i =>
      have := ih i (by simpa using hi)
      rw [show (i + 1) * 2 = i * 2 + 1 + 1 by omega]
      simpa using this

theorem mks_of_own {B : Nat} {v : Value} {ms : List (Int × ByteArray)} {w : World} (h : w.ownsRow B 97 2 v ms.length (mcells ms)) : ∃ a cap, v = .slice a ms.length cap ∧ Mks w a ms := by
  rcases h.2 with ⟨rfl, h0⟩ | ⟨g, cap, cur, rfl, hB, hh, _, _, hcs, ht⟩
  · have : ms = [] := List.length_eq_zero_iff.1 h0
    subst this
    exact ⟨none, 0, rfl, fun i hi => absurd hi (by simp)⟩
  · refine ⟨some ⟨g, 0, none⟩, cap, rfl, fun i hi => ⟨g, 0, rfl, ?_⟩⟩
    obtain ⟨c1, c2⟩ := mcells_at ms i hi
    rw [Nat.zero_add, Lib.cell_of_heap hh, Lib.cell_of_heap hh, ← Array.getElem?_toList, ← Array.getElem?_toList]
    rw [← ht, List.getElem?_take, if_pos (by omega)] at c1 c2
    exact ⟨c1, c2⟩

theorem lessOf_append (c : Int) (a b : List (Int × ByteArray)) : lessOf c (a ++ b) = lessOf c a ++ lessOf c b := by
  unfold lessOf; rw [List.filter_append, List.map_append]

theorem lessOf_len (c : Int) (a : List (Int × ByteArray)) : (lessOf c a).length ≤ a.length := by
  unfold lessOf; rw [List.length_map]; exact List.length_filter_le _ _

theorem take_snoc (ms : List (Int × ByteArray)) (k : Nat) (hk : k < ms.length) : ms.take (k + 1) = ms.take k ++ [((ms.getD k (0, ByteArray.empty)).1, (ms.getD k (0, ByteArray.empty)).2)] := by
  have e : ms.getD k (0, ByteArray.empty) = ms[k] := by simp [hk]
  rw [e, List.take_succ_eq_append_getElem hk]

set_option maxRecDepth 100000 in
set_option maxHeartbeats 1000000 in
theorem without_own (a : Option Addr) (ms : List (Int × ByteArray)) (ca : Nat) (s : Int) (w : World) (ha : Mks w a ms) (hf : sf ms = 0) :
    Calls Tryz.prog 177 #[.slice a ms.length ca, .int .u8 s] w fun e w' => ∃ v, e = .returned (.tuple #[v, .nilIface]) ∧ w'.ownsRow w.heap.size 9 1 v (lessOf s ms).length ((lessOf s ms).map Value.string) ∧ Below w.heap.size w w' := by
  obtain ⟨hl, hgood⟩ := sf_zero hf
  have hck := editCheck a ms ca w ha (by unfold maxLen; omega)
  rw [hf, errV_zero] at hck
  obtain ⟨i0, hi, hz0, hz1, hz2⟩ := info_parts Tryz.info9
  obtain ⟨n, hn⟩ : ∃ n, ms.length = n := ⟨_, rfl⟩
  rw [hn] at hl hck ⊢
  have HN : Hid (ms.length = n) := hn
  have HA : Hid (Mks w a ms) := ha
  have HG : Hid (∀ m ∈ ms, sgn m.1 ∧ lf m.2.data.toList = 0) := hgood
  clear hn ha hgood hf
  obtain ⟨B, hB⟩ : ∃ B, w.heap.size = B := ⟨_, rfl⟩
  have HB : Hid (w.heap.size = B) := hB
  rw [hB]
  rw [hB] at hck
  clear hB
  go_enter Tryz.func177, Tryz.ntmps177
  go_wp2_with (go_at_call 106; refine hck.mono ?_)
  rintro e w0 ⟨rfl, hb0⟩
  have HB0 : Hid (Below B w w0) := hb0
  clear hck hb0
  go_wp2
  go_loopw [7, 17] (fun v i w1 => ∃ k : Nat, k ≤ n ∧ i = .int .i64 k ∧ Below B w w1 ∧ w1.ownsRow B 9 1 v (lessOf s (ms.take k)).length ((lessOf s (ms.take k)).map Value.string)) (fun _ i _ => n - (intOf i).toNat)
  case atStart => exact ⟨0, Nat.zero_le _, rfl, HB0.out, ⟨rfl, Or.inl ⟨rfl, rfl⟩⟩⟩
  case round =>
    obtain ⟨k, hk, rfl, hbl, hown⟩ := hrel
    clear HB0
    by_cases hlt : k < n
    · have ha := HA.out
      have hsn := take_snoc ms k (by rw [HN.out]; exact hlt)
      obtain ⟨b, off, rfl, hc1, hc2⟩ := ha.at (i := k) (by rw [HN.out]; exact hlt)
      clear ha
      replace hc1 := cell_later (by rw [HB.out]; exact hbl) hc1
      replace hc2 := cell_later (by rw [HB.out]; exact hbl) hc2
      have hlf : lf (ms.getD k (0, ByteArray.empty)).2.data.toList = 0 := (HG.out _ (by
        have h' : k < ms.length := by rw [HN.out]; exact hlt
        have e : ms.getD k (0, ByteArray.empty) = ms[k] := by simp [h']
        rw [e]; exact List.getElem_mem _)).2
      have hll := lessOf_len s (ms.take k)
      rw [List.length_take, HN.out] at hll
      obtain ⟨c, hc⟩ : ∃ c, (ms.getD k (0, ByteArray.empty)).1 = c := ⟨_, rfl⟩
      obtain ⟨t, ht⟩ : ∃ t, (ms.getD k (0, ByteArray.empty)).2 = t := ⟨_, rfl⟩
      rw [hc] at hc1 hsn
      rw [ht] at hc2 hsn hlf
      have hts : t.size ≤ 80 := by have := (lf_zero hlf).2; rw [Lib.size_eq]; exact this
      have HS : Hid (lessOf s (ms.take (k + 1)) = lessOf s (ms.take k) ++ lessOf s [(c, t)]) := by
        show lessOf s (ms.take (k + 1)) = _
        rw [hsn, lessOf_append]
      obtain ⟨done, hd⟩ : ∃ done, lessOf s (ms.take k) = done := ⟨_, rfl⟩
      rw [hd] at hown hll HS
      clear hd hc ht hsn hlf
      have hsz := hbl.size
      have hszB : B ≤ wr.heap.size := by have := HB.out; omega
      by_cases hcs : c = s
      · subst hcs
        have HS2 : Hid (lessOf c (ms.take (k + 1)) = done) := by
          show lessOf c (ms.take (k + 1)) = done
          rw [HS.out, lessOf_skip]; simp [lessOf]
        go_wp2
        go_roundw
        case rel => exact ⟨k + 1, by omega, by go_num, hbl.alloc hszB _, by rw [HS2.out]; exact hown.alloc _⟩
        case measure => simp [intOf]; omega
      · have hne : (c != s) = true := by simpa using hcs
        have HS2 : Hid (lessOf s (ms.take (k + 1)) = done ++ [t]) := by
          show lessOf s (ms.take (k + 1)) = _
          rw [HS.out, lessOf_hit _ _ _ _ hcs]; simp [lessOf]
        have hcl := clone t (wr.alloc (.cells #[.int .u8 c, .string t] 97)) (by omega)
        go_wp2_with (go_at_call 70; refine hcl.mono ?_)
        rintro e w1 ⟨rfl, hb1⟩
        clear hcl
        have hown1 := own_later (hown.alloc _) hb1
        have hb1' : Below B w w1 := (hbl.alloc hszB _).trans (hb1.mono (by simp; omega))
        have hs1 : B ≤ w1.heap.size := by have := hb1.size; simp at this; omega
        clear hb1 hown hbl
        go_wp2_with (at_builtin; refine wpList_append_own _ rfl _ _ 58 rfl B 9 i0 (.string ByteArray.empty) 1 16 Tryz.underlying58 hi hz0 hz1 hz2 rfl (by decide) _ _ _ rfl (hown1.alloc _) ⟨w1.heap.size, 0, none⟩ 1 1 [.string t] rfl rfl (cell_one_new _ _ _) (fun x hx => by simp at hx; subst hx; rfl) (by unfold maxLen; omega) (by omega) (by simp; omega) ?_; intro v' w3 hown' hgrow3 hnil3)
        go_roundw
        case rel =>
          refine ⟨k + 1, by omega, by go_num, ?_, ?_⟩
          · exact (hb1'.alloc (by omega) _).grown hgrow3 (by simp; omega) (fun j hj => (hown1.lt j hj).1)
          · rw [HS2.out, List.map_append, List.length_append]; exact hown'
        case measure => simp [intOf]; omega
    · go_wp2
      go_ret2
      rw [List.take_of_length_le (by have := HN.out; omega)] at hown
      exact ⟨_, rfl, hown, hbl⟩

set_option maxHeartbeats 400000 in
theorem old_own (a : Option Addr) (ms : List (Int × ByteArray)) (ca : Nat) (w : World) (ha : Mks w a ms) (hf : sf ms = 0) :
    Calls Tryz.prog 164 #[.slice a ms.length ca] w fun e w' => ∃ v, e = .returned (.tuple #[v, .nilIface]) ∧ w'.ownsRow w.heap.size 9 1 v (lessOf 43 ms).length ((lessOf 43 ms).map Value.string) ∧ Below w.heap.size w w' := by
  have hwo := without_own a ms ca 43 w ha hf
  obtain ⟨n, hn⟩ : ∃ n, ms.length = n := ⟨_, rfl⟩
  obtain ⟨B, hB⟩ : ∃ B, w.heap.size = B := ⟨_, rfl⟩
  rw [hn, hB] at hwo
  rw [hn, hB]
  clear hn hB ha hf
  go_enter Tryz.func164, Tryz.ntmps164
  go_wp2_with (go_at_call 177; refine hwo.mono ?_)
  rintro e w0 ⟨v, rfl, hst, hb0⟩
  clear hwo
  go_wp2
  go_ret2
  exact ⟨v, rfl, hst, hb0⟩

set_option maxHeartbeats 400000 in
theorem new_own (a : Option Addr) (ms : List (Int × ByteArray)) (ca : Nat) (w : World) (ha : Mks w a ms) (hf : sf ms = 0) :
    Calls Tryz.prog 165 #[.slice a ms.length ca] w fun e w' => ∃ v, e = .returned (.tuple #[v, .nilIface]) ∧ w'.ownsRow w.heap.size 9 1 v (lessOf 45 ms).length ((lessOf 45 ms).map Value.string) ∧ Below w.heap.size w w' := by
  have hwo := without_own a ms ca 45 w ha hf
  obtain ⟨n, hn⟩ : ∃ n, ms.length = n := ⟨_, rfl⟩
  obtain ⟨B, hB⟩ : ∃ B, w.heap.size = B := ⟨_, rfl⟩
  rw [hn, hB] at hwo
  rw [hn, hB]
  clear hn hB ha hf
  go_enter Tryz.func165, Tryz.ntmps165
  go_wp2_with (go_at_call 177; refine hwo.mono ?_)
  rintro e w0 ⟨v, rfl, hst, hb0⟩
  clear hwo
  go_wp2
  go_ret2
  exact ⟨v, rfl, hst, hb0⟩

end Go.Proofs.YtnkdmgekpajfhadGreatDoor
