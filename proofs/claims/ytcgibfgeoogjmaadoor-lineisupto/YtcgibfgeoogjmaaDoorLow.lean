/-
  Walks of package line's small functions and of the comparison of lists: a byte of a name, a name, two lists of texts.
-/
import Derived.Test.YtcgibfgeoogjmaaDoorProg
import Derived.Test.YtcgibfgeoogjmaaDoorPlain
import Derived.WalkKit
import Derived.WalkSpells
import Derived.Deep.QuietTactic
import Derived.BigQuiet
namespace Go.Proofs.YtcgibfgeoogjmaaDoor
open Go.RowKit

/-- Lines as they lie in memory. -/
def Strs (w : World) (a : Option Addr) (ss : List ByteArray) : Prop :=
  ∀ i : Nat, i < ss.length → ∃ b off, a = some ⟨b, off, none⟩ ∧ w.cell? ⟨b, off + i, none⟩ = some (.string (ss.getD i ByteArray.empty))

/-- May a byte be in a name? -/
def nb (c : Int) : Bool := decide ((97 ≤ c ∧ c ≤ 122) ∨ (48 ≤ c ∧ c ≤ 57) ∨ c = 46 ∨ c = 45)

theorem ret_b {a b : Bool} (h : a = b) : Ending.returned (.bool a) = .returned (.bool b) := by rw [h]

set_option maxHeartbeats 400000 in
theorem nameByte (c : Int) (w : World) : Calls Tryd.prog 33 #[.int .u8 c] w fun e w' => e = .returned (.bool (nb c)) ∧ w' = w := by
  by_cases h1 : 97 ≤ c <;> by_cases h2 : c ≤ 122 <;> by_cases h3 : 48 ≤ c <;> by_cases h4 : c ≤ 57 <;> by_cases h5 : c = 46 <;> by_cases h6 : c = 45
  all_goals first | omega | skip
  all_goals
    go_enter Tryd.func33, Tryd.ntmps33
    go_wp2
    go_ret
    exact ⟨ret_b (by first | (unfold nb; rw [Bool.eq_iff_iff]; simp; omega) | simp [nb, *]), rfl⟩

/-- Is it a name? -/
def isNm (l : List UInt8) : Bool := !(l == []) && !(l == [46]) && !(l == [46, 46]) && l.all fun c => nb c.toNat

theorem isNm_no {l : List UInt8} {k : Nat} {c : UInt8} (h : l[k]? = some c) (hc : nb c.toNat = false) : isNm l = false := by
  have : (l.all fun c => nb c.toNat) = false := by
    rw [List.all_eq_false]; exact ⟨c, List.mem_of_getElem? h, by simp [hc]⟩
  simp [isNm, this]

set_option maxHeartbeats 400000 in
theorem isName (s : ByteArray) (w : World) (hs : s.size ≤ maxLen) : Calls Tryd.prog 25 #[.string s] w fun e w' => e = .returned (.bool (isNm s.data.toList)) ∧ w' = w := by
  unfold maxLen at hs
  have htl : s.toList = s.data.toList := Lib.toList_data s
  by_cases h0 : s.toList.isEmpty = true
  · have h0' : s.toList = [] := by simpa using h0
    have hf : isNm s.data.toList = false := by rw [← htl, h0']; rfl
    clear htl h0'
    go_enter Tryd.func25, Tryd.ntmps25
    go_wp2
    go_ret
    exact ⟨ret_b hf.symm, rfl⟩
  have h0 : s.toList.isEmpty = false := by simpa using h0
  by_cases h1 : (s.toList == [46]) = true
  · have hf : isNm s.data.toList = false := by rw [← htl, beq_iff_eq.1 h1]; rfl
    clear htl
    go_enter Tryd.func25, Tryd.ntmps25
    go_wp2
    go_ret
    exact ⟨ret_b hf.symm, rfl⟩
  have h1 : (s.toList == [46]) = false := by simpa using h1
  by_cases h2 : (s.toList == [46, 46]) = true
  · have hf : isNm s.data.toList = false := by rw [← htl, beq_iff_eq.1 h2]; rfl
    clear htl
    go_enter Tryd.func25, Tryd.ntmps25
    go_wp2
    go_ret
    exact ⟨ret_b hf.symm, rfl⟩
  have h2 : (s.toList == [46, 46]) = false := by simpa using h2
  have hyes : Hid ((∀ (k : Nat) (h : k < s.size), nb s[k].toNat = true) → isNm s.data.toList = true) := by
    refine fun hk => ?_
    have ha : (s.data.toList.all fun c => nb c.toNat) = true := by
      rw [List.all_eq_true]
      intro x hx
      obtain ⟨j, hj, rfl⟩ := List.getElem_of_mem hx
      exact hk j (by simpa using hj)
    unfold isNm
    rw [← htl, h1, h2, htl, ha, ← htl]
    simpa using h0
  have hno : Hid (∀ (k : Nat) (h : k < s.size), nb s[k].toNat = false → isNm s.data.toList = false) :=
    fun k h hb => isNm_no (k := k) (c := s[k]) (by simp [h]; rfl) hb
  clear htl
  go_enter Tryd.func25, Tryd.ntmps25
  go_wp2
  go_loop [16] (fun i => ∃ k : Nat, k ≤ s.size ∧ i = .int .i64 k ∧ ∀ (j : Nat) (h : j < s.size), j < k → nb s[j].toNat = true) (fun i => s.size - (intOf i).toNat)
  case atStart => exact ⟨0, Nat.zero_le _, rfl, by simp⟩
  case round =>
    obtain ⟨k, hk, rfl, hall⟩ := hrel
    have HA : Hid (∀ (j : Nat) (h : j < s.size), j < k → nb s[j].toNat = true) := hall
    clear hall
    by_cases hlt : k < s.size
    · by_cases hb : nb s[k].toNat = true
      · go_wp2_with (go_at_call 33; refine (nameByte _ _).mono ?_; rintro e w' ⟨rfl, rfl⟩)
        go_round
        case rel => exact ⟨k + 1, by omega, by go_num, fun j h hj => by
          by_cases e : j = k
          · subst e; exact hb
          · exact HA.out j h (by omega)⟩
        case measure => simp [intOf]; omega
      · have hb : nb s[k].toNat = false := by simpa using hb
        go_wp2_with (go_at_call 33; refine (nameByte _ _).mono ?_; rintro e w' ⟨rfl, rfl⟩)
        go_ret
        exact ⟨ret_b (hno.out k hlt hb).symm, rfl⟩
    · go_wp2
      go_ret
      exact ⟨ret_b (hyes.out fun j h => HA.out j h (by omega)).symm, rfl⟩

theorem Strs.at {w : World} {a : Option Addr} {ss : List ByteArray} (h : Strs w a ss) {i : Nat} (hi : i < ss.length) :
    ∃ b off, a = some ⟨b, off, none⟩ ∧ ∀ j : Nat, j < ss.length → w.cell? ⟨b, off + j, none⟩ = some (.string (ss.getD j ByteArray.empty)) := by
  obtain ⟨b, off, rfl, _⟩ := h i hi
  refine ⟨b, off, rfl, fun j hj => ?_⟩
  obtain ⟨b', off', e, hc⟩ := h j hj
  simp at e
  obtain ⟨rfl, rfl⟩ := e
  exact hc

set_option maxHeartbeats 400000 in
theorem texts_len (a b : Option Addr) (m n ca cb : Nat) (w : World) (h : m ≠ n) : Calls Tryd.prog 12 #[.slice a m ca, .slice b n cb] w fun e w' => e = .returned (.bool false) ∧ w' = w := by
  have h' : ((m : Int) == (n : Int)) = false := by simp; omega
  go_enter Tryd.func12, Tryd.ntmps12
  go_wp2
  go_ret
  exact ⟨rfl, rfl⟩

set_option maxHeartbeats 1000000 in
theorem texts_same (a b : Option Addr) (xs ys : List ByteArray) (ca cb : Nat) (w : World) (ha : Strs w a xs) (hb : Strs w b ys) (hl : xs.length = ys.length) (hm : xs.length ≤ maxLen) :
    Calls Tryd.prog 12 #[.slice a xs.length ca, .slice b ys.length cb] w fun e w' => e = .returned (.bool (decide (xs = ys))) ∧ ∃ n, w' = w.drewN n := by
  unfold maxLen at hm
  obtain ⟨n, hn⟩ : ∃ n, ys.length = n := ⟨_, rfl⟩
  rw [hn] at hl ⊢
  rw [hl]
  have HN : Hid (ys.length = n) := hn
  have HL : Hid (xs.length = n) := hl
  rw [hl] at hm
  clear hn hl
  go_enter Tryd.func12, Tryd.ntmps12
  go_wp2
  go_loopw [5] (fun i w1 => ∃ k : Nat, k ≤ n ∧ i = .int .i64 k ∧ (∃ q, w1 = w.drewN q) ∧ ∀ j : Nat, j < k → xs.getD j ByteArray.empty = ys.getD j ByteArray.empty) (fun i _ => n - (intOf i).toNat)
  case atStart => exact ⟨0, Nat.zero_le _, rfl, ⟨0, rfl⟩, by simp⟩
  case round =>
    obtain ⟨k, hk, rfl, ⟨q, rfl⟩, hall⟩ := hrel
    have HA : Hid (∀ j : Nat, j < k → xs.getD j ByteArray.empty = ys.getD j ByteArray.empty) := hall
    clear hall
    by_cases hlt : k < n
    · obtain ⟨ba, oa, rfl, hca⟩ := Strs.at ha (i := k) (by rw [HL.out]; exact hlt)
      obtain ⟨bb, ob, rfl, hcb⟩ := Strs.at hb (i := k) (by rw [HN.out]; exact hlt)
      have hca := hca k (by rw [HL.out]; exact hlt)
      have hcb := hcb k (by rw [HN.out]; exact hlt)
      obtain ⟨x, hx⟩ : ∃ x, xs.getD k ByteArray.empty = x := ⟨_, rfl⟩
      obtain ⟨y, hy⟩ : ∃ y, ys.getD k ByteArray.empty = y := ⟨_, rfl⟩
      rw [hx] at hca
      rw [hy] at hcb
      have HX : Hid (xs.getD k ByteArray.empty = x) := hx
      have HY : Hid (ys.getD k ByteArray.empty = y) := hy
      clear hx hy ha hb
      by_cases he : (x.toList == y.toList) = true
      · have HE : Hid (x = y) := by
          have := beq_iff_eq.1 he
          rw [Lib.toList_data, Lib.toList_data] at this
          exact ByteArray.ext (Array.toList_inj.1 this)
        go_wp2
        go_quiet (fail)
        go_wp2
        go_round
        case rel => exact ⟨k + 1, by omega, by go_num, ⟨_, rfl⟩, fun j hj => by
          by_cases e : j = k
          · subst e; rw [HX.out, HY.out]; exact HE.out
          · exact HA.out j (by omega)⟩
        case measure => simp [intOf]; omega
      · have he : (x.toList == y.toList) = false := by simpa using he
        go_wp2
        go_quiet (fail)
        go_wp2
        go_ret
        refine ⟨ret_b ?_, q + nq, by simp⟩
        symm
        rw [decide_eq_false_iff_not]
        intro e
        have e2 := HX.out
        rw [e, HY.out] at e2
        subst e2
        simp at he
    · go_wp2
      go_ret
      refine ⟨ret_b ?_, _, rfl⟩
      symm
      rw [decide_eq_true_eq]
      apply List.ext_getElem
      · rw [HL.out, HN.out]
      · intro j h1 h2
        have := HA.out j (by have := HL.out; omega)
        simpa [h1, h2] using this
end Go.Proofs.YtcgibfgeoogjmaaDoor
