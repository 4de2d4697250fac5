/-
  Walks of line.CheckOne and line.Check: the fault of a line, the fault of lines.
-/
import Derived.Test.YtfmhapajdnmhoaeDoorShelf
import Derived.Test.YtfmhapajdnmhoaeDoorStrs
import Derived.Lib.Walk
import Derived.Lib.Builder

namespace Go.Proofs.YtfmhapajdnmhoaeDoor
open Go.RowKit

/-- A fault as an error. -/
def errV (e : Int) : Value := if e = 0 then .nilIface else .iface 45 (.int .i64 e)

theorem errV_zero : errV 0 = .nilIface := rfl
theorem errV_not {e : Int} (h : e ≠ 0) : errV e = .iface 45 (.int .i64 e) := by simp [errV, h]

theorem ret_v {a b : Value} (h : a = b) : Ending.returned a = .returned b := by rw [h]

set_option maxHeartbeats 400000 in
theorem checkOne_ok (s : ByteArray) (w : World) (h : lf s.data.toList = 0) : Calls Tryd.prog 78 #[.string s] w fun e w' => e = .returned .nilIface ∧ w' = w := by
  have ⟨h1, h2⟩ := lf_zero h
  have hi : ¬ 0 ≤ Lib.indexByte s.data.toList 10 := fun x => h1 ((indexByte_nonneg 10 _).1 x)
  have hsz : ¬ 80 < (s.size : Int) := by rw [Lib.size_eq]; omega
  clear h h1 h2
  go_enter Tryd.func78, Tryd.ntmps78
  go_wp2_with (go_at_call 98; refine (Tryd.strings_Contains_one _ 10 _).mono ?_; rintro e w' ⟨rfl, rfl⟩)
  go_ret
  exact ⟨rfl, rfl⟩

set_option maxHeartbeats 400000 in
theorem checkOne_bad (s : ByteArray) (w : World) (h : lf s.data.toList ≠ 0) : Calls Tryd.prog 78 #[.string s] w fun e w' => e = .returned (.iface 45 (.int .i64 (lf s.data.toList))) ∧ w' = w := by
  by_cases hi : 0 ≤ Lib.indexByte s.data.toList 10
  · have he : lf s.data.toList = 2 := by unfold lf; rw [if_pos ((indexByte_nonneg 10 _).1 hi)]
    rw [he]
    clear h he
    go_enter Tryd.func78, Tryd.ntmps78
    go_wp2_with (go_at_call 98; refine (Tryd.strings_Contains_one _ 10 _).mono ?_; rintro e w' ⟨rfl, rfl⟩)
    go_ret
    exact ⟨rfl, rfl⟩
  · have h1 : 10 ∉ s.data.toList := fun x => hi ((indexByte_nonneg 10 _).2 x)
    have hsz : 80 < (s.size : Int) := by
      rw [Lib.size_eq]
      unfold lf at h
      rw [if_neg h1] at h
      split at h
      · omega
      · exact absurd rfl h
    have he : lf s.data.toList = 3 := by unfold lf; rw [if_neg h1, if_pos (by rw [Lib.size_eq] at hsz; omega)]
    rw [he]
    clear h he h1
    go_enter Tryd.func78, Tryd.ntmps78
    go_wp2_with (go_at_call 98; refine (Tryd.strings_Contains_one _ 10 _).mono ?_; rintro e w' ⟨rfl, rfl⟩)
    go_ret
    exact ⟨rfl, rfl⟩

/-- The bytes of lines. -/
def bts (ss : List ByteArray) : List (List UInt8) := ss.map (·.data.toList)

theorem bts_length (ss : List ByteArray) : (bts ss).length = ss.length := by simp [bts]

/-- The first k lines have no fault; then the fault of all is that of the rest. -/
theorem lsg_drop (ss : List ByteArray) (k : Nat) (h : ∀ j, j < k → lf (ss.getD j ByteArray.empty).data.toList = 0) (hk : k ≤ ss.length) : lsg (bts ss) = lsg (bts (ss.drop k)) := by
  induction k generalizing ss with
  | zero => simp
  | succ k ih =>
    cases ss with
    | nil => simp at hk
    | cons s t =>
      have h0 := h 0 (by omega)
      simp at h0
      have := ih t (fun j hj => by simpa using h (j + 1) (by omega)) (by simpa using hk)
      simp only [List.drop_succ_cons]
      rw [← this]
      simp [bts, lsg, h0]

theorem lsg_at (ss : List ByteArray) (k : Nat) (h : ∀ j, j < k → lf (ss.getD j ByteArray.empty).data.toList = 0) (hk : k < ss.length) (hb : lf (ss.getD k ByteArray.empty).data.toList ≠ 0) :
    lsg (bts ss) = lf (ss.getD k ByteArray.empty).data.toList := by
  rw [lsg_drop ss k h (by omega)]
  rw [List.drop_eq_getElem_cons hk]
  have e : ss.getD k ByteArray.empty = ss[k] := by simp [hk]
  rw [e] at hb ⊢
  unfold bts
  rw [List.map_cons, lsg, if_neg hb]

set_option maxHeartbeats 1000000 in
theorem check_any (a : Option Addr) (ss : List ByteArray) (ca : Nat) (w : World) (ha : Strs w a ss) (hm : ss.length ≤ maxLen) :
    Calls Tryd.prog 48 #[.slice a ss.length ca] w fun e w' => e = .returned (errV (lsf (bts ss))) ∧ w' = w := by
  unfold maxLen at hm
  obtain ⟨n, hn⟩ : ∃ n, ss.length = n := ⟨_, rfl⟩
  rw [hn] at hm ⊢
  by_cases hbig : 60 < (n : Int)
  · have he : lsf (bts ss) = 3 := by unfold lsf; rw [bts_length, hn, if_pos (by omega)]
    rw [he]
    clear he hn
    go_enter Tryd.func48, Tryd.ntmps48
    go_wp2
    go_ret
    exact ⟨rfl, rfl⟩
  · have he : Hid (lsf (bts ss) = lsg (bts ss)) := by show lsf (bts ss) = _; unfold lsf; rw [bts_length, hn, if_neg (by omega)]
    have HN : Hid (ss.length = n) := hn
    clear hn
    go_enter Tryd.func48, Tryd.ntmps48
    go_wp2
    go_loop [12] (fun i => ∃ k : Nat, k ≤ n ∧ i = .int .i64 k ∧ ∀ j : Nat, j < k → lf (ss.getD j ByteArray.empty).data.toList = 0) (fun i => n - (intOf i).toNat)
    case atStart => exact ⟨0, Nat.zero_le _, rfl, by simp⟩
    case round =>
      obtain ⟨k, hk, rfl, hall⟩ := hrel
      have HA : Hid (∀ j : Nat, j < k → lf (ss.getD j ByteArray.empty).data.toList = 0) := hall
      clear hall
      by_cases hlt : k < n
      · obtain ⟨b, off, rfl, hc⟩ := Strs.at ha (i := k) (by rw [HN.out]; exact hlt)
        have hc := hc k (by rw [HN.out]; exact hlt)
        obtain ⟨x, hx⟩ : ∃ x, ss.getD k ByteArray.empty = x := ⟨_, rfl⟩
        rw [hx] at hc
        have HX : Hid (ss.getD k ByteArray.empty = x) := hx
        clear hx ha
        by_cases hf : lf x.data.toList = 0
        · have HF : Hid (lf x.data.toList = 0) := hf
          clear hf
          go_wp2_with (go_at_call 78; refine (checkOne_ok _ _ HF.out).mono ?_; rintro e w' ⟨rfl, rfl⟩)
          go_round
          case rel => exact ⟨k + 1, by omega, by go_num, fun j hj => by
            by_cases e : j = k
            · subst e; rw [HX.out]; exact HF.out
            · exact HA.out j (by omega)⟩
          case measure => simp [intOf]; omega
        · have HF : Hid (lf x.data.toList ≠ 0) := hf
          clear hf
          go_wp2_with (go_at_call 78; refine (checkOne_bad _ _ HF.out).mono ?_; rintro e w' ⟨rfl, rfl⟩)
          go_ret
          refine ⟨ret_v ?_, rfl⟩
          have h1 := lsg_at ss k HA.out (by rw [HN.out]; exact hlt) (by rw [HX.out]; exact HF.out)
          rw [HX.out] at h1
          rw [he.out, h1, errV_not HF.out]; rfl
      · go_wp2
        go_ret
        refine ⟨ret_v ?_, rfl⟩
        have h1 := lsg_drop ss k HA.out (by have := HN.out; omega)
        rw [List.drop_of_length_le (by have := HN.out; omega)] at h1
        rw [he.out, h1]; rfl

end Go.Proofs.YtfmhapajdnmhoaeDoor
