/-
  Walks of package line's small functions: a byte of a name, a name. Walks of strings.Split at a slash and of line.Path.
-/
import Derived.Test.YtfmhapajdnmhoafDoorXm
import Derived.Test.YtfmhapajdnmhoafDoorXa
namespace Go.Proofs.YtfmhapajdnmhoafDoor
open Go.RowKit

/-- May a byte be in a name? -/
def nb (c : Int) : Bool := decide ((97 ≤ c ∧ c ≤ 122) ∨ (48 ≤ c ∧ c ≤ 57) ∨ c = 46 ∨ c = 45)

set_option maxHeartbeats 400000 in
theorem nameByte (c : Int) (w : World) : Calls Tryd.prog 71 #[.int .u8 c] w fun e w' => e = .returned (.bool (nb c)) ∧ w' = w := by
  by_cases h1 : 97 ≤ c <;> by_cases h2 : c ≤ 122 <;> by_cases h3 : 48 ≤ c <;> by_cases h4 : c ≤ 57 <;> by_cases h5 : c = 46 <;> by_cases h6 : c = 45
  all_goals first | omega | skip
  all_goals
    go_enter Tryd.func71, Tryd.ntmps71
    go_wp2
    go_ret
    exact ⟨ret_b (by first | (unfold nb; rw [Bool.eq_iff_iff]; simp; omega) | simp [nb, *]), rfl⟩

/-- Is it a name? -/
def isNm (l : List UInt8) : Bool := !(l == []) && !(l == [46]) && !(l == [46, 46]) && l.all fun c => nb c.toNat

theorem isNm_no {l : List UInt8} {k : Nat} {c : UInt8} (h : l[k]? = some c) (hc : nb c.toNat = false) : isNm l = false := by
  have : (l.all fun c => nb c.toNat) = false := by
    rw [List.all_eq_false]; exact ⟨c, List.mem_of_getElem? h, by simp [hc]⟩
  simp [isNm, this]

set_option maxHeartbeats 400000 in
theorem isName (s : ByteArray) (w : World) (hs : s.size ≤ maxLen) : Calls Tryd.prog 58 #[.string s] w fun e w' => e = .returned (.bool (isNm s.data.toList)) ∧ w' = w := by
  unfold maxLen at hs
  have htl : s.toList = s.data.toList := Lib.toList_data s
  by_cases h0 : s.toList.isEmpty = true
  · have h0' : s.toList = [] := by simpa using h0
    have hf : isNm s.data.toList = false := by rw [← htl, h0']; rfl
    clear htl h0'
    go_enter Tryd.func58, Tryd.ntmps58
    go_wp2
    go_ret
    exact ⟨ret_b hf.symm, rfl⟩
  have h0 : s.toList.isEmpty = false := by simpa using h0
  by_cases h1 : (s.toList == [46]) = true
  · have hf : isNm s.data.toList = false := by rw [← htl, beq_iff_eq.1 h1]; rfl
    clear htl
    go_enter Tryd.func58, Tryd.ntmps58
    go_wp2
    go_ret
    exact ⟨ret_b hf.symm, rfl⟩
  have h1 : (s.toList == [46]) = false := by simpa using h1
  by_cases h2 : (s.toList == [46, 46]) = true
  · have hf : isNm s.data.toList = false := by rw [← htl, beq_iff_eq.1 h2]; rfl
    clear htl
    go_enter Tryd.func58, Tryd.ntmps58
    go_wp2
    go_ret
    exact ⟨ret_b hf.symm, rfl⟩
  have h2 : (s.toList == [46, 46]) = false := by simpa using h2
  have hyes : Hid ((∀ (k : Nat) (h : k < s.size), nb s[k].toNat = true) → isNm s.data.toList = true) := by
    refine fun hk => ?_
    have ha : (s.data.toList.all fun c => nb c.toNat) = true := by
      rw [List.all_eq_true]
      intro x hx
      obtain ⟨j, hj, rfl⟩ := List.getElem_of_mem hx
      exact hk j (by simpa using hj)
    unfold isNm
    rw [← htl, h1, h2, htl, ha, ← htl]
    simpa using h0
  have hno : Hid (∀ (k : Nat) (h : k < s.size), nb s[k].toNat = false → isNm s.data.toList = false) :=
    fun k h hb => isNm_no (k := k) (c := s[k]) (by simp [h]; rfl) hb
  clear htl
  go_enter Tryd.func58, Tryd.ntmps58
  go_wp2
  go_loop [16] (fun i => ∃ k : Nat, k ≤ s.size ∧ i = .int .i64 k ∧ ∀ (j : Nat) (h : j < s.size), j < k → nb s[j].toNat = true) (fun i => s.size - (intOf i).toNat)
  case atStart => exact ⟨0, Nat.zero_le _, rfl, by simp⟩
  case round =>
    obtain ⟨k, hk, rfl, hall⟩ := hrel
    have HA : Hid (∀ (j : Nat) (h : j < s.size), j < k → nb s[j].toNat = true) := hall
    clear hall
    by_cases hlt : k < s.size
    · by_cases hb : nb s[k].toNat = true
      · go_wp2_with (go_at_call 71; refine (nameByte _ _).mono ?_; rintro e w' ⟨rfl, rfl⟩)
        go_round
        case rel => exact ⟨k + 1, by omega, by go_num, fun j h hj => by
          by_cases e : j = k
          · subst e; exact hb
          · exact HA.out j h (by omega)⟩
        case measure => simp [intOf]; omega
      · have hb : nb s[k].toNat = false := by simpa using hb
        go_wp2_with (go_at_call 71; refine (nameByte _ _).mono ?_; rintro e w' ⟨rfl, rfl⟩)
        go_ret
        exact ⟨ret_b (hno.out k hlt hb).symm, rfl⟩
    · go_wp2
      go_ret
      exact ⟨ret_b (hyes.out fun j h => HA.out j h (by omega)).symm, rfl⟩

end Go.Proofs.YtfmhapajdnmhoafDoor
namespace Go.Proofs.YtfmhapajdnmhoafDoor
open Go.RowKit

/-- The names of a path. -/
def names (p : List UInt8) : List (List UInt8) := (parts 47 p).1 ++ [(parts 47 p).2]
def pn (p : List UInt8) : Int := if (names p).all isNm = true then 0 else 5
/-- A path's fault. -/
def pf (p : List UInt8) : Int := if 20 < p.length then 3 else pn p

theorem count_joinC (c : UInt8) (i : List (List UInt8)) (h : ∀ x ∈ i, c ∉ x) : (joinC c i).count c = i.length := by
  induction i with
  | nil => simp [joinC]
  | cons x t ih =>
    have := ih (fun y hy => h y (by simp [hy]))
    have hx : x.count c = 0 := List.count_eq_zero.2 (h x (by simp))
    simp [joinC, this, hx]

theorem count_parts (c : UInt8) (s : List UInt8) : s.count c = (parts c s).1.length := by
  have h := parts_join c s
  have h1 := count_joinC c _ (parts_free1 c s)
  have h2 : (parts c s).2.count c = 0 := List.count_eq_zero.2 (parts_free2 c s)
  have := congrArg (List.count c) h
  rw [List.count_append, h1, h2] at this
  omega

set_option maxHeartbeats 1000000 in
theorem strSplit (s : ByteArray) (w : World) (hs : s.size ≤ 1000) :
    Calls Tryd.prog 16 #[.string s, .string ⟨#[47]⟩] w fun e w' => ∃ (ps : List ByteArray) (cap : Nat), e = .returned (.slice (some ⟨w.heap.size, 0, none⟩) ps.length cap) ∧
      bts ps = names s.data.toList ∧ Below w.heap.size w w' ∧ Strs w' (some ⟨w.heap.size, 0, none⟩) ps := by
  have hcnt : Lib.countB s ⟨#[47]⟩ = (parts 47 s.data.toList).1.length := by
    show Lib.count s.data.toList [47] = _
    rw [Lib.count_one, count_parts]
  have hle : (parts 47 s.data.toList).1.length ≤ s.size := by rw [Lib.size_eq]; exact parts_len 47 _
  obtain ⟨k, hk⟩ : ∃ k, (parts 47 s.data.toList).1.length = k := ⟨_, rfl⟩
  rw [hk] at hcnt hle
  have hC : Calls Tryd.prog 43 #[.string s, .string ⟨#[47]⟩] w fun e w' => e = .returned (.int .i64 (Lib.countB s ⟨#[47]⟩)) ∧ w' = w := by
    refine (Tryd.strings_Count_one s 47 w).mono ?_
    rintro e w' ⟨he, hw⟩
    refine ⟨?_, hw⟩
    rw [he, hcnt]
    unfold Lib.countByte
    rw [count_parts, hk]
  have hg := Any.strings_genSplit_core Tryd.lays221 Tryd.info9 s ⟨#[47]⟩ 0 (-1) (k + 1) w (by omega) (by decide) (Nat.zero_le _)
    (fun x c _ => (Tryd.strings_Index_one x 47 _).mono (fun e w' ⟨he, hw⟩ => ⟨by rw [he, indexB_one], hw⟩)) hC (by decide) (by decide) (by rw [if_pos (by decide), hcnt]; omega)
  rw [Nat.add_sub_cancel] at hg
  have hd := Lib.splitB_data ⟨#[47]⟩ 0 k s
  obtain ⟨r, hr, hr2⟩ := splitK_parts 47 k s.data.toList
  rw [show (ByteArray.mk #[47]).data.toList = [47] from rfl, hr, hr2 (by omega), List.take_of_length_le (by omega)] at hd
  obtain ⟨pieces, hp⟩ : ∃ pieces, Lib.splitB ⟨#[47]⟩ 0 k s = pieces := ⟨_, rfl⟩
  rw [hp] at hg hd
  have HD : Hid (bts pieces = names s.data.toList) := hd
  have hlen : pieces.length ≤ k + 1 := by
    have := Lib.splitB_length_le ⟨#[47]⟩ 0 k s
    rw [hp] at this; exact this
  have hg2 : Calls Tryd.prog 31 #[.string s, .string ⟨#[47]⟩, .int .i64 0, .int .i64 (-1)] w fun e w' => e = .returned (.slice (some ⟨w.heap.size, 0, none⟩) pieces.length (k + 1)) ∧ w' = w.alloc (.cells (Lib.cellsOf pieces (k + 1)) 9) := hg
  clear hg hd hp hr hr2 hC hcnt hle hk hs
  go_enter Tryd.func16, Tryd.ntmps16
  go_wp2_with (go_at_call 31; refine hg2.mono ?_; rintro e w' ⟨rfl, hw⟩; rw [hw])
  go_ret
  refine ⟨pieces, k + 1, rfl, HD.out, (Below.refl _ _).alloc (Nat.le_refl _) _, ?_⟩
  intro i hi
  refine ⟨_, 0, rfl, ?_⟩
  have hblk := heap_alloc_new w (.cells (Lib.cellsOf pieces (k + 1)) 9)
  rw [Nat.zero_add, Lib.cell_of_heap hblk, cellsOf_at pieces (k + 1) i hi]

set_option maxHeartbeats 1000000 in
theorem path_long (p : ByteArray) (w : World) (h : 20 < (p.size : Int)) : Calls Tryd.prog 46 #[.string p] w fun e w' => e = .returned (.iface 33 (.int .i64 3)) ∧ w' = w := by
  go_enter Tryd.func46, Tryd.ntmps46
  go_wp2
  go_ret
  exact ⟨rfl, rfl⟩

theorem mem_joinC (c : UInt8) (i : List (List UInt8)) (x : List UInt8) (h : x ∈ i) : x.length ≤ (joinC c i).length := by
  induction i with
  | nil => simp at h
  | cons y t ih =>
    rcases List.mem_cons.1 h with rfl | h
    · simp [joinC]
    · have := ih h
      simp [joinC]; omega

theorem names_len (p x : List UInt8) (h : x ∈ names p) : x.length ≤ p.length := by
  have hj := congrArg List.length (parts_join 47 p)
  rw [List.length_append] at hj
  unfold names at h
  rcases List.mem_append.1 h with h | h
  · have := mem_joinC 47 _ x h; omega
  · rw [List.mem_singleton] at h; subst h; omega

theorem names_length (p : List UInt8) : (names p).length ≤ p.length + 1 := by
  have := parts_len 47 p
  unfold names; simp; omega

theorem all_bts {ps : List ByteArray} (h : ∀ j : Nat, j < ps.length → isNm (ps.getD j ByteArray.empty).data.toList = true) : (bts ps).all isNm = true := by
  rw [List.all_eq_true]
  intro x hx
  obtain ⟨s, hs, rfl⟩ := List.mem_map.1 hx
  obtain ⟨j, hj, rfl⟩ := List.getElem_of_mem hs
  have := h j hj
  simpa [hj] using this

theorem not_all_bts {ps : List ByteArray} {j : Nat} (hj : j < ps.length) (h : isNm (ps.getD j ByteArray.empty).data.toList = false) : ¬ (bts ps).all isNm = true := by
  rw [List.all_eq_true]
  intro ha
  have e : ps.getD j ByteArray.empty = ps[j] := by simp [hj]
  rw [e] at h
  have := ha _ (List.mem_map.2 ⟨ps[j], List.getElem_mem _, rfl⟩)
  rw [h] at this
  simp at this

set_option maxHeartbeats 2000000 in
theorem path_short (p : ByteArray) (w : World) (h : ¬ 20 < (p.size : Int)) :
    Calls Tryd.prog 46 #[.string p] w fun e w' => e = .returned (errV (pn p.data.toList)) ∧ Below w.heap.size w w' := by
  have hsp := strSplit p w (by omega)
  go_enter Tryd.func46, Tryd.ntmps46
  go_wp2_with (go_at_call 16; refine hsp.mono ?_; clear hsp; rintro e w1 ⟨ps, cap, rfl, hps, hb, hst⟩; obtain ⟨n, hn⟩ : ∃ n, ps.length = n := ⟨_, rfl⟩; rw [hn]; have HN : Hid (ps.length = n) := hn; have HPS : Hid (bts ps = names p.data.toList) := hps; have hnb : n ≤ 21 := (by have h1 := names_length p.data.toList; rw [← hps, bts_length, hn, ← Lib.size_eq] at h1; omega); clear hn hps)
  go_loop [12] (fun i => ∃ k : Nat, k ≤ n ∧ i = .int .i64 k ∧ ∀ j : Nat, j < k → isNm (ps.getD j ByteArray.empty).data.toList = true) (fun i => n - (intOf i).toNat)
  case atStart => exact ⟨0, Nat.zero_le _, rfl, by simp⟩
  case round =>
    obtain ⟨k, hk, rfl, hall⟩ := hrel
    have HA : Hid (∀ j : Nat, j < k → isNm (ps.getD j ByteArray.empty).data.toList = true) := hall
    clear hall
    by_cases hlt : k < n
    · have hkl : k < ps.length := by rw [HN.out]; exact hlt
      obtain ⟨b, off, e, hc⟩ := Strs.at hst (i := k) hkl
      simp at e
      obtain ⟨rfl, rfl⟩ := e
      have hc := hc k hkl
      rw [Nat.zero_add] at hc
      have hsz : (ps.getD k ByteArray.empty).size ≤ 20 := by
        have e : ps.getD k ByteArray.empty = ps[k] := by simp [hkl]
        have h1 := names_len p.data.toList (ps.getD k ByteArray.empty).data.toList (by rw [← HPS.out, e]; exact List.mem_map.2 ⟨ps[k], List.getElem_mem _, rfl⟩)
        rw [← Lib.size_eq, ← Lib.size_eq] at h1
        omega
      obtain ⟨x, hx⟩ : ∃ x, ps.getD k ByteArray.empty = x := ⟨_, rfl⟩
      rw [hx] at hc hsz
      have HX : Hid (ps.getD k ByteArray.empty = x) := hx
      have hnm := fun w => isName x w (by unfold maxLen; omega)
      clear hx hst
      by_cases hok : isNm x.data.toList = true
      · rw [hok] at hnm
        have HOK : Hid (isNm x.data.toList = true) := hok
        clear hok
        go_wp2_with (go_at_call 58; refine (hnm _).mono ?_; rintro e w' ⟨rfl, hw⟩; rw [hw])
        go_round
        case rel => exact ⟨k + 1, by omega, by go_num, fun j hj => by
          by_cases e : j = k
          · subst e; rw [HX.out]; exact HOK.out
          · exact HA.out j (by omega)⟩
        case measure => simp [intOf]; omega
      · have hok : isNm x.data.toList = false := by simpa using hok
        rw [hok] at hnm
        have HOK : Hid (isNm x.data.toList = false) := hok
        clear hok
        go_wp2_with (go_at_call 58; refine (hnm _).mono ?_; rintro e w' ⟨rfl, hw⟩; rw [hw])
        go_ret
        refine ⟨ret_v ?_, hb⟩
        have h1 := not_all_bts hkl (by rw [HX.out]; exact HOK.out)
        rw [HPS.out] at h1
        unfold pn; rw [if_neg h1]; rfl
    · go_wp2
      go_ret
      refine ⟨ret_v ?_, hb⟩
      have h1 := all_bts (ps := ps) (fun j hj => HA.out j (by have := HN.out; omega))
      rw [HPS.out] at h1
      unfold pn; rw [if_pos h1]; rfl

theorem path_any (p : ByteArray) (w : World) : Calls Tryd.prog 46 #[.string p] w fun e w' => e = .returned (errV (pf p.data.toList)) ∧ Below w.heap.size w w' := by
  by_cases h : 20 < (p.size : Int)
  · have e : pf p.data.toList = 3 := by unfold pf; rw [if_pos (by rw [Lib.size_eq] at h; omega)]
    rw [e]
    exact (path_long p w h).mono fun e w' ⟨he, hw⟩ => ⟨he, by rw [hw]; exact Below.refl _ _⟩
  · have e : pf p.data.toList = pn p.data.toList := by unfold pf; rw [if_neg (by rw [Lib.size_eq] at h; omega)]
    rw [e]
    exact path_short p w h

end Go.Proofs.YtfmhapajdnmhoafDoor
