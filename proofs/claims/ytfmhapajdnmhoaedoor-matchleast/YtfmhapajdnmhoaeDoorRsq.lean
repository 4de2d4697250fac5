/-
  Walks of the document's own fault of a square, of its best choice, row by row, and of its choice of all.
-/
import Derived.Test.YtfmhapajdnmhoaeDoorMat

namespace Go.Proofs.YtfmhapajdnmhoaeDoor
open Go.RowKit Dist

set_option maxHeartbeats 1000000 in
set_option maxRecDepth 100000 in
theorem squareFault (a : Option Addr) (cs : List (List Int)) (ca : Nat) (w : World) (ha : Sqr w a cs) (hm : cs.length ≤ maxLen) (hr : ∀ r ∈ cs, r.length ≤ maxLen) :
    Calls Tryd.prog 21 #[.slice a cs.length ca] w fun e w' => e = .returned (.int .i64 (sqf cs)) ∧ ∃ q, w' = w.drewN q := by
  unfold maxLen at hm hr
  obtain ⟨n, hn⟩ : ∃ n, cs.length = n := ⟨_, rfl⟩
  rw [hn] at hm ⊢
  have HN : Hid (cs.length = n) := hn
  by_cases h8 : 8 < n
  · have e : sqf cs = 3 := by unfold sqf; rw [if_pos (by omega)]
    rw [e]
    clear hn ha hr e
    go_enter Tryd.func21, Tryd.ntmps21
    go_wp2
    go_ret
    exact ⟨by first | rfl | trivial, 0, rfl⟩
  have e : sqf cs = rws n cs := by unfold sqf; rw [if_neg (by omega), hn]
  rw [e]
  clear e hn
  obtain ⟨v, hv⟩ : ∃ v, rws n cs = v := ⟨_, rfl⟩
  rw [hv]
  have HV : Hid (rws n cs = v) := hv
  clear hv
  go_enter Tryd.func21, Tryd.ntmps21
  go_wp2
  go_loopw [3] (fun i w1 => ∃ k : Nat, k ≤ n ∧ i = .int .i64 k ∧ (∃ q, w1 = w.drewN q) ∧ ∀ j : Nat, j < k → rwf n (cs.getD j []) = 0) (fun i _ => n - (intOf i).toNat)
  case atStart => exact ⟨0, Nat.zero_le _, rfl, ⟨0, rfl⟩, fun j hj => absurd hj (Nat.not_lt_zero _)⟩
  case round =>
    obtain ⟨k, hk, rfl, ⟨q, rfl⟩, hall⟩ := hrel
    have HA : Hid (∀ j : Nat, j < k → rwf n (cs.getD j []) = 0) := hall
    clear hall
    by_cases hlt : k < n
    · obtain ⟨b, off, rfl, hat⟩ := Sqr.at ha (i := k) (by rw [HN.out]; exact hlt)
      obtain ⟨ar, cap, hc, hin⟩ := hat k (by rw [HN.out]; exact hlt)
      have hrk : (cs.getD k []).length ≤ 9223372036854775807 := by
        have hkl : k < cs.length := by rw [HN.out]; exact hlt
        have := hr cs[k] (List.getElem_mem hkl)
        simp [hkl]; omega
      clear hat ha hr
      obtain ⟨row, hrow⟩ : ∃ row, cs.getD k [] = row := ⟨_, rfl⟩
      rw [hrow] at hc hin hrk
      have HR : Hid (cs.getD k [] = row) := hrow
      clear hrow
      obtain ⟨m, hml⟩ : ∃ m, row.length = m := ⟨_, rfl⟩
      rw [hml] at hc hrk
      have HM : Hid (row.length = m) := hml
      clear hml
      by_cases hmn : m = n
      · subst hmn
        have HI : Hid (Ins w ar row) := hin
        clear hin
        go_wp2
        go_loopw [4] (fun i w1 => ∃ j : Nat, j ≤ m ∧ i = .int .i64 j ∧ (∃ q, w1 = w.drewN q) ∧ ∀ l : Nat, l < j → ¬(row.getD l 0 < 0 ∨ 100000 < row.getD l 0)) (fun i _ => m - (intOf i).toNat)
        case atStart => exact ⟨0, Nat.zero_le _, rfl, ⟨q, rfl⟩, fun j hj => absurd hj (Nat.not_lt_zero _)⟩
        case round =>
          obtain ⟨j, hj, rfl, ⟨q2, rfl⟩, hall2⟩ := hrel
          have HB : Hid (∀ l : Nat, l < j → ¬(row.getD l 0 < 0 ∨ 100000 < row.getD l 0)) := hall2
          clear hall2
          by_cases hjt : j < m
          · obtain ⟨b2, off2, rfl, hat2⟩ := Ins.at HI.out (i := j) (by rw [HM.out]; exact hjt)
            have hc2 := hat2 j (by rw [HM.out]; exact hjt)
            clear hat2
            obtain ⟨c, hcc⟩ : ∃ c, row.getD j 0 = c := ⟨_, rfl⟩
            rw [hcc] at hc2
            have HC : Hid (row.getD j 0 = c) := hcc
            clear hcc
            by_cases hbad : c < 0 ∨ 100000 < c
            · have e1 : v = 1 := by
                have h2 : rwf m (cs.getD k []) = 1 := by
                  unfold rwf
                  rw [HR.out, if_neg (by rw [HM.out]; simp)]
                  exact rng_at (j := j) (by rw [HM.out]; exact hjt) (by rw [HC.out]; exact hbad)
                rw [← HV.out, rws_at (by rw [HN.out]; exact hlt) HA.out (by rw [h2]; decide), h2]
              subst e1
              rcases hbad with hbad | hbad
              · go_wp2
                go_ret
                exact ⟨by first | rfl | trivial, _, rfl⟩
              · have hnn : 0 ≤ c := by omega
                go_wp2
                go_ret
                exact ⟨by first | rfl | trivial, _, rfl⟩
            · have hn1 : 0 ≤ c := by omega
              have hn2 : c ≤ 100000 := by omega
              go_wp2
              go_roundw
              case rel => exact ⟨j + 1, by omega, by go_num, ⟨_, rfl⟩, fun l hl => by
                by_cases e : l = j
                · subst e; rw [HC.out]; exact hbad
                · exact HB.out l (by omega)⟩
              case measure => simp [intOf]; omega
          · have : j = m := by omega
            subst this
            go_wp2
            go_roundw
            case rel => exact ⟨k + 1, by omega, by go_num, ⟨_, rfl⟩, fun l hl => by
              by_cases e : l = k
              · subst e
                unfold rwf
                rw [HR.out, if_neg (by rw [HM.out]; simp)]
                exact rng_all fun i hi => HB.out i (by rw [← HM.out]; exact hi)
              · exact HA.out l (by omega)⟩
            case measure => simp [intOf]; omega
      · have e1 : v = 2 := by
          have h2 : rwf n (cs.getD k []) = 2 := by
            unfold rwf
            rw [HR.out, if_pos (by rw [HM.out]; exact hmn)]
          rw [← HV.out, rws_at (by rw [HN.out]; exact hlt) HA.out (by rw [h2]; decide), h2]
        subst e1
        have hne : ((m : Int) == (n : Int)) = false := by simp; omega
        go_wp2
        go_ret
        exact ⟨by first | rfl | trivial, _, rfl⟩
    · have : k = n := by omega
      subst this
      have e1 : v = 0 := by
        rw [← HV.out]
        exact rws_all fun j hj => HA.out j (by rw [← HN.out]; exact hj)
      subst e1
      go_wp2
      go_ret
      exact ⟨by first | rfl | trivial, _, rfl⟩

end Go.Proofs.YtfmhapajdnmhoaeDoor
