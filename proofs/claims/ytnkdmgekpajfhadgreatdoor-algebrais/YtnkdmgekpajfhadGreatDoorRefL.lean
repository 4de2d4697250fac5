/-
  Walks of the document's own answers for lines: the fault of a line and of lines.
-/
import Derived.Test.YtnkdmgekpajfhadGreatDoorXm

namespace Go.Proofs.YtnkdmgekpajfhadGreatDoor
open Go.RowKit

theorem ret_i {a b : Int} (h : a = b) : Ending.returned (.int .i64 a) = .returned (.int .i64 b) := by rw [h]

theorem mem_at (s : ByteArray) (k : Nat) (h : k < s.size) : s[k] ∈ s.data.toList := by
  have : s.data.toList[k]'(by simpa using h) = s[k] := rfl
  rw [← this]; exact List.getElem_mem _

theorem not_mem_at (s : ByteArray) (c : UInt8) (h : ∀ (k : Nat) (hk : k < s.size), s[k] ≠ c) : c ∉ s.data.toList := by
  intro hm
  obtain ⟨j, hj, e⟩ := List.getElem_of_mem hm
  exact h j (by simpa using hj) e

theorem byte_eq (a c : UInt8) : ((a.toNat : Int) == (c.toNat : Int)) = true ↔ a = c := by
  rw [beq_iff_eq]
  constructor
  · intro h; exact UInt8.toNat_inj.1 (by omega)
  · intro h; rw [h]

set_option maxHeartbeats 400000 in
theorem lineFault (s : ByteArray) (w : World) (hs : s.size ≤ maxLen) : Calls Tryz.prog 73 #[.string s] w fun e w' => e = .returned (.int .i64 (lf s.data.toList)) ∧ w' = w := by
  unfold maxLen at hs
  go_enter Tryz.func73, Tryz.ntmps73
  go_wp2
  go_loop [3] (fun i => ∃ k : Nat, k ≤ s.size ∧ i = .int .i64 k ∧ ∀ (j : Nat) (h : j < s.size), j < k → s[j] ≠ 10) (fun i => s.size - (intOf i).toNat)
  case atStart => exact ⟨0, Nat.zero_le _, rfl, by simp⟩
  case round =>
    obtain ⟨k, hk, rfl, hall⟩ := hrel
    have HA : Hid (∀ (j : Nat) (h : j < s.size), j < k → s[j] ≠ 10) := hall
    clear hall
    by_cases hlt : k < s.size
    · by_cases hb : ((s[k].toNat : Int) == 10) = true
      · have HB : Hid (lf s.data.toList = 2) := by
          show lf s.data.toList = 2
          unfold lf
          rw [if_pos]
          have := (byte_eq s[k] 10).1 hb
          rw [← this]; exact mem_at s k hlt
        go_wp2
        go_ret
        exact ⟨ret_i HB.out.symm, rfl⟩
      · have hb : ((s[k].toNat : Int) == 10) = false := by simpa using hb
        have HB : Hid (s[k] ≠ 10) := fun e => by rw [e] at hb; simp at hb
        go_wp2
        go_round
        case rel => exact ⟨k + 1, by omega, by go_num, fun j h hj => by
          by_cases e : j = k
          · subst e; exact HB.out
          · exact HA.out j h (by omega)⟩
        case measure => simp [intOf]; omega
    · have HM : Hid (10 ∉ s.data.toList) := not_mem_at s 10 (fun j h => HA.out j h (by omega))
      by_cases hl : 80 < (s.size : Int)
      · go_wp2
        go_ret
        refine ⟨ret_i ?_, rfl⟩
        unfold lf; rw [if_neg HM.out, if_pos (by rw [← Lib.size_eq]; omega)]
      · go_wp2
        go_ret
        refine ⟨ret_i ?_, rfl⟩
        unfold lf; rw [if_neg HM.out, if_neg (by rw [← Lib.size_eq]; omega)]

set_option maxHeartbeats 1000000 in
theorem linesFault (a : Option Addr) (ss : List ByteArray) (ca : Nat) (w : World) (ha : Strs w a ss) (hm : ss.length ≤ maxLen) (hs : ∀ s ∈ ss, s.size ≤ maxLen) :
    Calls Tryz.prog 92 #[.slice a ss.length ca] w fun e w' => e = .returned (.int .i64 (lsf (bts ss))) ∧ w' = w := by
  unfold maxLen at hm
  obtain ⟨n, hn⟩ : ∃ n, ss.length = n := ⟨_, rfl⟩
  rw [hn] at hm ⊢
  by_cases hbig : 60 < (n : Int)
  · have he : lsf (bts ss) = 3 := by unfold lsf; rw [bts_length, hn, if_pos (by omega)]
    rw [he]
    clear he hn
    go_enter Tryz.func92, Tryz.ntmps92
    go_wp2
    go_ret
    exact ⟨rfl, rfl⟩
  · have he : Hid (lsf (bts ss) = lsg (bts ss)) := by show lsf (bts ss) = _; unfold lsf; rw [bts_length, hn, if_neg (by omega)]
    have HN : Hid (ss.length = n) := hn
    have HS : Hid (∀ s ∈ ss, s.size ≤ maxLen) := hs
    clear hn hs
    go_enter Tryz.func92, Tryz.ntmps92
    go_wp2
    go_loop [3] (fun i => ∃ k : Nat, k ≤ n ∧ i = .int .i64 k ∧ ∀ j : Nat, j < k → lf (ss.getD j ByteArray.empty).data.toList = 0) (fun i => n - (intOf i).toNat)
    case atStart => exact ⟨0, Nat.zero_le _, rfl, by simp⟩
    case round =>
      obtain ⟨k, hk, rfl, hall⟩ := hrel
      have HA : Hid (∀ j : Nat, j < k → lf (ss.getD j ByteArray.empty).data.toList = 0) := hall
      clear hall
      by_cases hlt : k < n
      · obtain ⟨b, off, rfl, hc⟩ := Strs.at ha (i := k) (by rw [HN.out]; exact hlt)
        replace hc := hc k (by rw [HN.out]; exact hlt)
        have hk' : k < ss.length := by rw [HN.out]; exact hlt
        have hxs : (ss.getD k ByteArray.empty).size ≤ maxLen := HS.out _ (by
          have e : ss.getD k ByteArray.empty = ss[k] := by simp [hk']
          rw [e]; exact List.getElem_mem _)
        obtain ⟨x, hx⟩ : ∃ x, ss.getD k ByteArray.empty = x := ⟨_, rfl⟩
        rw [hx] at hc hxs
        have HX : Hid (ss.getD k ByteArray.empty = x) := hx
        have hlf := fun w => lineFault x w hxs
        clear hx ha hxs
        by_cases hf : lf x.data.toList = 0
        · rw [hf] at hlf
          have HF : Hid (lf x.data.toList = 0) := hf
          clear hf
          go_wp2_with (go_at_call 73; refine (hlf _).mono ?_; rintro e w' ⟨rfl, hw⟩; rw [hw])
          go_round
          case rel => exact ⟨k + 1, by omega, by go_num, fun j hj => by
            by_cases e : j = k
            · subst e; rw [HX.out]; exact HF.out
            · exact HA.out j (by omega)⟩
          case measure => simp [intOf]; omega
        · obtain ⟨f, hff⟩ : ∃ f, lf x.data.toList = f := ⟨_, rfl⟩
          rw [hff] at hlf hf
          have HF : Hid (lf x.data.toList = f) := hff
          have HZ : Hid (f ≠ 0) := hf
          have hfz : (f == 0) = false := by simpa using hf
          clear hff hf
          go_wp2_with (go_at_call 73; refine (hlf _).mono ?_; rintro e w' ⟨rfl, hw⟩; rw [hw])
          go_ret
          refine ⟨ret_i ?_, rfl⟩
          have h1 := lsg_at ss k HA.out hk' (by rw [HX.out, HF.out]; exact HZ.out)
          rw [HX.out, HF.out] at h1
          rw [he.out, h1]
      · go_wp2
        go_ret
        refine ⟨ret_i ?_, rfl⟩
        have h1 := lsg_drop ss k HA.out (by have := HN.out; omega)
        rw [List.drop_of_length_le (by have := HN.out; omega)] at h1
        rw [he.out, h1]; rfl

end Go.Proofs.YtnkdmgekpajfhadGreatDoor
