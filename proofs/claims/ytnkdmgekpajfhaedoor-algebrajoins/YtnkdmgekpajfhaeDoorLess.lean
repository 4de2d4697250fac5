/-
  Rows that a call has made and lengthens; walks of edit.without, edit.Old, edit.New: the lines that a script leads from and to.
-/
import Derived.Test.YtnkdmgekpajfhaeDoorMks
import Derived.Maps.AppendAt

namespace Go.Proofs.YtnkdmgekpajfhaeDoor
open Go.RowKit Dist

theorem own_later {B : Nat} {e : TypeId} {k : Nat} {v : Value} {n : Nat} {xs : List Value} {w w' : World} (h : w.ownsRow B e k v n xs) (hb : Below w.heap.size w w') : w'.ownsRow B e k v n xs := by
  refine ⟨h.1, ?_⟩
  rcases h.2 with h0 | ⟨g, cap, cur, hv, hB, hh, hr⟩
  · exact .inl h0
  · have hg : g < w.heap.size := by
      by_cases e : g < w.heap.size
      · exact e
      · rw [Array.getElem?_eq_none (by omega)] at hh; cases hh
    exact .inr ⟨g, cap, cur, hv, hB, blk_below hb hg hh, hr⟩

theorem own_ne {w : World} {B : Nat} {e : TypeId} {k : Nat} {v : Value} {n : Nat} {xs : List Value} (h : w.ownsRow B e k v n xs) {G i : Nat} (hG : v.ownBlock ≠ some G) (x : Value) : (w.setCell ⟨G, i, none⟩ x).ownsRow B e k v n xs := by
  refine ⟨h.1, ?_⟩
  rcases h.2 with h0 | ⟨g, cap, cur, hv, hB, hh, hr⟩
  · exact .inl h0
  · refine .inr ⟨g, cap, cur, hv, hB, ?_, hr⟩
    have hne : g ≠ G := by
      intro e
      apply hG
      rw [hv, e]; rfl
    have e : (w.setCell ⟨G, i, none⟩ x).heap[g]? = w.heap[g]? := by
      simp only [World.setCell, Array.getElem?_modify]
      rw [if_neg (fun e => hne e.symm)]
    rw [e]; exact hh

theorem strs_of_own {B : Nat} {v : Value} {ss : List ByteArray} {w : World} (h : w.ownsRow B 9 1 v ss.length (ss.map Value.string)) : ∃ a cap, v = .slice a ss.length cap ∧ Strs w a ss := by
  rcases h.2 with ⟨rfl, h0⟩ | ⟨g, cap, cur, rfl, hB, hh, _, _, hcs, ht⟩
  · have : ss = [] := List.length_eq_zero_iff.1 h0
    subst this
    exact ⟨none, 0, rfl, fun i hi => absurd hi (by simp)⟩
  · refine ⟨some ⟨g, 0, none⟩, cap, rfl, fun i hi => ⟨g, 0, rfl, ?_⟩⟩
    rw [Nat.zero_add, Lib.cell_of_heap hh]
    rw [Nat.mul_one] at ht
    have h1 : (cur.toList.take ss.length)[i]? = (ss.map Value.string)[i]? := by rw [ht]
    rw [List.getElem?_take, if_pos hi, List.getElem?_map] at h1
    rw [← Array.getElem?_toList, h1]
    simp [hi]

/-- The cells of marks. -/
def mcells (ms : List (Int × ByteArray)) : List Value := ms.flatMap fun m => [.int .u8 m.1, .string m.2]

theorem mcells_length (ms : List (Int × ByteArray)) : (mcells ms).length = ms.length * 2 := by
  induction ms with
  | nil => rfl
  | cons m r ih => unfold mcells at ih ⊢; rw [List.flatMap_cons, List.length_append, ih]; simp; omega

theorem mcells_append (a b : List (Int × ByteArray)) : mcells (a ++ b) = mcells a ++ mcells b := by unfold mcells; rw [List.flatMap_append]

theorem mcells_at (ms : List (Int × ByteArray)) (i : Nat) (hi : i < ms.length) : (mcells ms)[i * 2]? = some (.int .u8 (ms.getD i (0, ByteArray.empty)).1) ∧ (mcells ms)[i * 2 + 1]? = some (.string (ms.getD i (0, ByteArray.empty)).2) := by
  induction ms generalizing i with
  | nil => simp at hi
  | cons m r ih =>
    have e : mcells (m :: r) = .int .u8 m.1 :: .string m.2 :: mcells r := rfl
    rw [e]
    cases i with
    | zero => simp
    | succ i =>
      have := ih i (by simpa using hi)
      rw [show (i + 1) * 2 = i * 2 + 1 + 1 by omega]
      simpa using this

theorem mks_of_own {B : Nat} {v : Value} {ms : List (Int × ByteArray)} {w : World} (h : w.ownsRow B 37 2 v ms.length (mcells ms)) : ∃ a cap, v = .slice a ms.length cap ∧ Mks w a ms := by
  rcases h.2 with ⟨rfl, h0⟩ | ⟨g, cap, cur, rfl, hB, hh, _, _, hcs, ht⟩
  · have : ms = [] := List.length_eq_zero_iff.1 h0
    subst this
    exact ⟨none, 0, rfl, fun i hi => absurd hi (by simp)⟩
  · refine ⟨some ⟨g, 0, none⟩, cap, rfl, fun i hi => ⟨g, 0, rfl, ?_⟩⟩
    obtain ⟨c1, c2⟩ := mcells_at ms i hi
    rw [Nat.zero_add, Lib.cell_of_heap hh, Lib.cell_of_heap hh, ← Array.getElem?_toList, ← Array.getElem?_toList]
    rw [← ht, List.getElem?_take, if_pos (by omega)] at c1 c2
    exact ⟨c1, c2⟩

theorem lessOf_append (c : Int) (a b : List (Int × ByteArray)) : lessOf c (a ++ b) = lessOf c a ++ lessOf c b := by
  unfold lessOf; rw [List.filter_append, List.map_append]

theorem lessOf_len (c : Int) (a : List (Int × ByteArray)) : (lessOf c a).length ≤ a.length := by
  unfold lessOf; rw [List.length_map]; exact List.length_filter_le _ _

theorem lessOf_mem (c : Int) (a : List (Int × ByteArray)) (x : ByteArray) (h : x ∈ lessOf c a) : ∃ m ∈ a, m.2 = x := by
  unfold lessOf at h
  obtain ⟨m, hm, e⟩ := List.mem_map.1 h
  exact ⟨m, (List.mem_filter.1 hm).1, e⟩

theorem take_snoc (ms : List (Int × ByteArray)) (k : Nat) (hk : k < ms.length) : ms.take (k + 1) = ms.take k ++ [((ms.getD k (0, ByteArray.empty)).1, (ms.getD k (0, ByteArray.empty)).2)] := by
  have e : ms.getD k (0, ByteArray.empty) = ms[k] := by simp [hk]
  rw [e, List.take_succ_eq_append_getElem hk]

set_option maxRecDepth 100000 in
set_option maxHeartbeats 1000000 in
theorem without_own (a : Option Addr) (ms : List (Int × ByteArray)) (ca : Nat) (s : Int) (w : World) (ha : Mks w a ms) (hf : sf ms = 0) :
    Calls Tryd.prog 86 #[.slice a ms.length ca, .int .u8 s] w fun e w' => ∃ v, e = .returned (.tuple #[v, .nilIface]) ∧ w'.ownsRow w.heap.size 9 1 v (lessOf s ms).length ((lessOf s ms).map Value.string) ∧ Below w.heap.size w w' := by
  obtain ⟨hl, hgood⟩ := sf_zero hf
  have hck := editCheck a ms ca w ha (by unfold maxLen; omega)
  rw [hf, errV_zero] at hck
  obtain ⟨i0, hi, hz0, hz1, hz2⟩ := info_parts Tryd.info9
  obtain ⟨n, hn⟩ : ∃ n, ms.length = n := ⟨_, rfl⟩
  rw [hn] at hl hck ⊢
  have HN : Hid (ms.length = n) := hn
  have HA : Hid (Mks w a ms) := ha
  have HG : Hid (∀ m ∈ ms, sgn m.1 ∧ lf m.2.data.toList = 0) := hgood
  clear hn ha hgood hf
  obtain ⟨B, hB⟩ : ∃ B, w.heap.size = B := ⟨_, rfl⟩
  have HB : Hid (w.heap.size = B) := hB
  rw [hB]
  rw [hB] at hck
  clear hB
  go_enter Tryd.func86, Tryd.ntmps86
  go_wp2_with (go_at_call 82; refine hck.mono ?_)
  rintro e w0 ⟨rfl, hb0⟩
  have HB0 : Hid (Below B w w0) := hb0
  clear hck hb0
  go_wp2
  go_loopw [7, 17] (fun v i w1 => ∃ k : Nat, k ≤ n ∧ i = .int .i64 k ∧ Below B w w1 ∧ w1.ownsRow B 9 1 v (lessOf s (ms.take k)).length ((lessOf s (ms.take k)).map Value.string)) (fun _ i _ => n - (intOf i).toNat)
  case atStart => exact ⟨0, Nat.zero_le _, rfl, HB0.out, ⟨rfl, Or.inl ⟨rfl, rfl⟩⟩⟩
  case round =>
    obtain ⟨k, hk, rfl, hbl, hown⟩ := hrel
    clear HB0
    by_cases hlt : k < n
    · have ha := HA.out
      have hsn := take_snoc ms k (by rw [HN.out]; exact hlt)
      obtain ⟨b, off, rfl, hc1, hc2⟩ := ha.at (i := k) (by rw [HN.out]; exact hlt)
      clear ha
      replace hc1 := cell_later (by rw [HB.out]; exact hbl) hc1
      replace hc2 := cell_later (by rw [HB.out]; exact hbl) hc2
      have hlf : lf (ms.getD k (0, ByteArray.empty)).2.data.toList = 0 := (HG.out _ (by
        have h' : k < ms.length := by rw [HN.out]; exact hlt
        have e : ms.getD k (0, ByteArray.empty) = ms[k] := by simp [h']
        rw [e]; exact List.getElem_mem _)).2
      have hll := lessOf_len s (ms.take k)
      rw [List.length_take, HN.out] at hll
      obtain ⟨c, hc⟩ : ∃ c, (ms.getD k (0, ByteArray.empty)).1 = c := ⟨_, rfl⟩
      obtain ⟨t, ht⟩ : ∃ t, (ms.getD k (0, ByteArray.empty)).2 = t := ⟨_, rfl⟩
      rw [hc] at hc1 hsn
      rw [ht] at hc2 hsn hlf
      have hts : t.size ≤ 80 := by have := (lf_zero hlf).2; rw [Lib.size_eq]; exact this
      have HS : Hid (lessOf s (ms.take (k + 1)) = lessOf s (ms.take k) ++ lessOf s [(c, t)]) := by
        show lessOf s (ms.take (k + 1)) = _
        rw [hsn, lessOf_append]
      obtain ⟨done, hd⟩ : ∃ done, lessOf s (ms.take k) = done := ⟨_, rfl⟩
      rw [hd] at hown hll HS
      clear hd hc ht hsn hlf
      have hsz := hbl.size
      have hszB : B ≤ wr.heap.size := by have := HB.out; omega
      by_cases hcs : c = s
      · subst hcs
        have HS2 : Hid (lessOf c (ms.take (k + 1)) = done) := by
          show lessOf c (ms.take (k + 1)) = done
          rw [HS.out, lessOf_skip]; simp [lessOf]
        go_wp2
        go_roundw
        case rel => exact ⟨k + 1, by omega, by go_num, hbl.alloc hszB _, by rw [HS2.out]; exact hown.alloc _⟩
        case measure => simp [intOf]; omega
      · have hne : (c != s) = true := by simpa using hcs
        have HS2 : Hid (lessOf s (ms.take (k + 1)) = done ++ [t]) := by
          show lessOf s (ms.take (k + 1)) = _
          rw [HS.out, lessOf_hit _ _ _ _ hcs]; simp [lessOf]
        have hcl := clone t (wr.alloc (.cells #[.int .u8 c, .string t] 37)) (by omega)
        go_wp2_with (go_at_call 31; refine hcl.mono ?_)
        rintro e w1 ⟨rfl, hb1⟩
        clear hcl
        have hown1 := own_later (hown.alloc _) hb1
        have hb1' : Below B w w1 := (hbl.alloc hszB _).trans (hb1.mono (by simp; omega))
        have hs1 : B ≤ w1.heap.size := by have := hb1.size; simp at this; omega
        clear hb1 hown hbl
        go_wp2_with (at_builtin; refine wpList_append_own _ rfl _ _ 52 rfl B 9 i0 (.string ByteArray.empty) 1 16 Tryd.underlying52 hi hz0 hz1 hz2 rfl (by decide) _ _ _ rfl (hown1.alloc _) ⟨w1.heap.size, 0, none⟩ 1 1 [.string t] rfl rfl (cell_one_new _ _ _) (fun x hx => by simp at hx; subst hx; rfl) (by unfold maxLen; omega) (by omega) (by simp; omega) ?_; intro v' w3 hown' hgrow3 hnil3)
        go_roundw
        case rel =>
          refine ⟨k + 1, by omega, by go_num, ?_, ?_⟩
          · exact (hb1'.alloc (by omega) _).grown hgrow3 (by simp; omega) (fun j hj => (hown1.lt j hj).1)
          · rw [HS2.out, List.map_append, List.length_append]; exact hown'
        case measure => simp [intOf]; omega
    · go_wp2
      go_ret2
      rw [List.take_of_length_le (by have := HN.out; omega)] at hown
      exact ⟨_, rfl, hown, hbl⟩

theorem without_ok (a : Option Addr) (ms : List (Int × ByteArray)) (ca : Nat) (s : Int) (w : World) (ha : Mks w a ms) (hf : sf ms = 0) :
    Calls Tryd.prog 86 #[.slice a ms.length ca, .int .u8 s] w fun e w' => ∃ a' cap, e = .returned (.tuple #[.slice a' (lessOf s ms).length cap, .nilIface]) ∧ Strs w' a' (lessOf s ms) ∧ Below w.heap.size w w' :=
  (without_own a ms ca s w ha hf).mono fun e w' ⟨v, he, ho, hb⟩ => by
    obtain ⟨a', cap, rfl, hst⟩ := strs_of_own ho
    exact ⟨a', cap, he, hst, hb⟩

set_option maxHeartbeats 400000 in
theorem without_bad (a : Option Addr) (ms : List (Int × ByteArray)) (ca : Nat) (s : Int) (w : World) (ha : Mks w a ms) (hm : ms.length ≤ maxLen) (hf : sf ms ≠ 0) :
    Calls Tryd.prog 86 #[.slice a ms.length ca, .int .u8 s] w fun e w' => e = .returned (.tuple #[.slice none 0 0, .iface 45 (.int .i64 (sf ms))]) ∧ Below w.heap.size w w' := by
  have hck := editCheck a ms ca w ha hm
  rw [errV_not hf] at hck
  obtain ⟨n, hn⟩ : ∃ n, ms.length = n := ⟨_, rfl⟩
  obtain ⟨f, hff⟩ : ∃ f, sf ms = f := ⟨_, rfl⟩
  obtain ⟨B, hB⟩ : ∃ B, w.heap.size = B := ⟨_, rfl⟩
  rw [hn, hff, hB] at hck
  rw [hn, hff, hB]
  clear hn hff ha hm hf hB
  go_enter Tryd.func86, Tryd.ntmps86
  go_wp2_with (go_at_call 82; refine hck.mono ?_)
  rintro e w0 ⟨rfl, hb0⟩
  clear hck
  go_wp2
  go_ret2
  exact ⟨rfl, hb0⟩

set_option maxHeartbeats 400000 in
theorem old_own (a : Option Addr) (ms : List (Int × ByteArray)) (ca : Nat) (w : World) (ha : Mks w a ms) (hf : sf ms = 0) :
    Calls Tryd.prog 66 #[.slice a ms.length ca] w fun e w' => ∃ v, e = .returned (.tuple #[v, .nilIface]) ∧ w'.ownsRow w.heap.size 9 1 v (lessOf 43 ms).length ((lessOf 43 ms).map Value.string) ∧ Below w.heap.size w w' := by
  have hwo := without_own a ms ca 43 w ha hf
  obtain ⟨n, hn⟩ : ∃ n, ms.length = n := ⟨_, rfl⟩
  obtain ⟨B, hB⟩ : ∃ B, w.heap.size = B := ⟨_, rfl⟩
  rw [hn, hB] at hwo
  rw [hn, hB]
  clear hn hB ha hf
  go_enter Tryd.func66, Tryd.ntmps66
  go_wp2_with (go_at_call 86; refine hwo.mono ?_)
  rintro e w0 ⟨v, rfl, hst, hb0⟩
  clear hwo
  go_wp2
  go_ret2
  exact ⟨v, rfl, hst, hb0⟩

theorem old_ok (a : Option Addr) (ms : List (Int × ByteArray)) (ca : Nat) (w : World) (ha : Mks w a ms) (hf : sf ms = 0) :
    Calls Tryd.prog 66 #[.slice a ms.length ca] w fun e w' => ∃ a' cap, e = .returned (.tuple #[.slice a' (lessOf 43 ms).length cap, .nilIface]) ∧ Strs w' a' (lessOf 43 ms) ∧ Below w.heap.size w w' :=
  (old_own a ms ca w ha hf).mono fun e w' ⟨v, he, ho, hb⟩ => by
    obtain ⟨a', cap, rfl, hst⟩ := strs_of_own ho
    exact ⟨a', cap, he, hst, hb⟩

set_option maxHeartbeats 400000 in
theorem new_own (a : Option Addr) (ms : List (Int × ByteArray)) (ca : Nat) (w : World) (ha : Mks w a ms) (hf : sf ms = 0) :
    Calls Tryd.prog 67 #[.slice a ms.length ca] w fun e w' => ∃ v, e = .returned (.tuple #[v, .nilIface]) ∧ w'.ownsRow w.heap.size 9 1 v (lessOf 45 ms).length ((lessOf 45 ms).map Value.string) ∧ Below w.heap.size w w' := by
  have hwo := without_own a ms ca 45 w ha hf
  obtain ⟨n, hn⟩ : ∃ n, ms.length = n := ⟨_, rfl⟩
  obtain ⟨B, hB⟩ : ∃ B, w.heap.size = B := ⟨_, rfl⟩
  rw [hn, hB] at hwo
  rw [hn, hB]
  clear hn hB ha hf
  go_enter Tryd.func67, Tryd.ntmps67
  go_wp2_with (go_at_call 86; refine hwo.mono ?_)
  rintro e w0 ⟨v, rfl, hst, hb0⟩
  clear hwo
  go_wp2
  go_ret2
  exact ⟨v, rfl, hst, hb0⟩

theorem new_ok (a : Option Addr) (ms : List (Int × ByteArray)) (ca : Nat) (w : World) (ha : Mks w a ms) (hf : sf ms = 0) :
    Calls Tryd.prog 67 #[.slice a ms.length ca] w fun e w' => ∃ a' cap, e = .returned (.tuple #[.slice a' (lessOf 45 ms).length cap, .nilIface]) ∧ Strs w' a' (lessOf 45 ms) ∧ Below w.heap.size w w' :=
  (new_own a ms ca w ha hf).mono fun e w' ⟨v, he, ho, hb⟩ => by
    obtain ⟨a', cap, rfl, hst⟩ := strs_of_own ho
    exact ⟨a', cap, he, hst, hb⟩

set_option maxHeartbeats 400000 in
theorem old_bad (a : Option Addr) (ms : List (Int × ByteArray)) (ca : Nat) (w : World) (ha : Mks w a ms) (hm : ms.length ≤ maxLen) (hf : sf ms ≠ 0) :
    Calls Tryd.prog 66 #[.slice a ms.length ca] w fun e w' => e = .returned (.tuple #[.slice none 0 0, .iface 45 (.int .i64 (sf ms))]) ∧ Below w.heap.size w w' := by
  have hwo := without_bad a ms ca 43 w ha hm hf
  obtain ⟨n, hn⟩ : ∃ n, ms.length = n := ⟨_, rfl⟩
  obtain ⟨B, hB⟩ : ∃ B, w.heap.size = B := ⟨_, rfl⟩
  obtain ⟨f, hff⟩ : ∃ f, sf ms = f := ⟨_, rfl⟩
  rw [hn, hB, hff] at hwo
  rw [hn, hB, hff]
  clear hn hB hff ha hf hm
  go_enter Tryd.func66, Tryd.ntmps66
  go_wp2_with (go_at_call 86; refine hwo.mono ?_)
  rintro e w0 ⟨rfl, hb0⟩
  clear hwo
  go_wp2
  go_ret2
  exact ⟨rfl, hb0⟩

set_option maxHeartbeats 400000 in
theorem new_bad (a : Option Addr) (ms : List (Int × ByteArray)) (ca : Nat) (w : World) (ha : Mks w a ms) (hm : ms.length ≤ maxLen) (hf : sf ms ≠ 0) :
    Calls Tryd.prog 67 #[.slice a ms.length ca] w fun e w' => e = .returned (.tuple #[.slice none 0 0, .iface 45 (.int .i64 (sf ms))]) ∧ Below w.heap.size w w' := by
  have hwo := without_bad a ms ca 45 w ha hm hf
  obtain ⟨n, hn⟩ : ∃ n, ms.length = n := ⟨_, rfl⟩
  obtain ⟨B, hB⟩ : ∃ B, w.heap.size = B := ⟨_, rfl⟩
  obtain ⟨f, hff⟩ : ∃ f, sf ms = f := ⟨_, rfl⟩
  rw [hn, hB, hff] at hwo
  rw [hn, hB, hff]
  clear hn hB hff ha hf hm
  go_enter Tryd.func67, Tryd.ntmps67
  go_wp2_with (go_at_call 86; refine hwo.mono ?_)
  rintro e w0 ⟨rfl, hb0⟩
  clear hwo
  go_wp2
  go_ret2
  exact ⟨rfl, hb0⟩

end Go.Proofs.YtnkdmgekpajfhaeDoor
