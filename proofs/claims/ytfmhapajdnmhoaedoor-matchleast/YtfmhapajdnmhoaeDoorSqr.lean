/-
  Numbers and squares of numbers in memory; the walk of package match's check of a square.
-/
import Derived.Test.YtfmhapajdnmhoaeDoorMem
import Derived.Test.YtfmhapajdnmhoaeDoorCol
import Derived.Test.YtfmhapajdnmhoaeDoorSqm

namespace Go.Proofs.YtfmhapajdnmhoaeDoor
open Go.RowKit Dist

/-- Numbers as they lie in memory. -/
def Ins (w : World) (a : Option Addr) (zs : List Int) : Prop :=
  ∀ i : Nat, i < zs.length → ∃ b off, a = some ⟨b, off, none⟩ ∧ w.cell? ⟨b, off + i, none⟩ = some (.int .i64 (zs.getD i 0))
/-- Rows of numbers. -/
def Sqr (w : World) (a : Option Addr) (cs : List (List Int)) : Prop :=
  ∀ i : Nat, i < cs.length → ∃ b off ar cap, a = some ⟨b, off, none⟩ ∧ w.cell? ⟨b, off + i, none⟩ = some (.slice ar (cs.getD i []).length cap) ∧ Ins w ar (cs.getD i [])

theorem Ins.at {w : World} {a : Option Addr} {zs : List Int} (h : Ins w a zs) {i : Nat} (hi : i < zs.length) :
    ∃ b off, a = some ⟨b, off, none⟩ ∧ ∀ j : Nat, j < zs.length → w.cell? ⟨b, off + j, none⟩ = some (.int .i64 (zs.getD j 0)) := by
  obtain ⟨b, off, rfl, _⟩ := h i hi
  refine ⟨b, off, rfl, fun j hj => ?_⟩
  obtain ⟨b', off', e, hc⟩ := h j hj
  simp at e
  obtain ⟨rfl, rfl⟩ := e
  exact hc
theorem Ins.below {w w' : World} {a : Option Addr} {zs : List Int} (h : Ins w a zs) (hb : Below w.heap.size w w') : Ins w' a zs := by
  intro i hi
  obtain ⟨b, off, e, hc⟩ := h i hi
  exact ⟨b, off, e, cell_later hb hc⟩
theorem Ins.drawn {w : World} {a : Option Addr} {zs : List Int} (h : Ins w a zs) (q : Nat) : Ins (w.drewN q) a zs := h
theorem Ins.nil (w : World) (a : Option Addr) : Ins w a [] := fun i hi => absurd hi (by simp)
theorem Sqr.at {w : World} {a : Option Addr} {cs : List (List Int)} (h : Sqr w a cs) {i : Nat} (hi : i < cs.length) :
    ∃ b off, a = some ⟨b, off, none⟩ ∧ ∀ j : Nat, j < cs.length → ∃ ar cap, w.cell? ⟨b, off + j, none⟩ = some (.slice ar (cs.getD j []).length cap) ∧ Ins w ar (cs.getD j []) := by
  obtain ⟨b, off, _, _, rfl, _⟩ := h i hi
  refine ⟨b, off, rfl, fun j hj => ?_⟩
  obtain ⟨b', off', ar, cap, e, hc⟩ := h j hj
  simp at e
  obtain ⟨rfl, rfl⟩ := e
  exact ⟨ar, cap, hc⟩
theorem Sqr.below {w w' : World} {a : Option Addr} {cs : List (List Int)} (h : Sqr w a cs) (hb : Below w.heap.size w w') : Sqr w' a cs := by
  intro i hi
  obtain ⟨b, off, ar, cap, e, hc, hr⟩ := h i hi
  exact ⟨b, off, ar, cap, e, cell_later hb hc, hr.below hb⟩
theorem Sqr.drawn {w : World} {a : Option Addr} {cs : List (List Int)} (h : Sqr w a cs) (q : Nat) : Sqr (w.drewN q) a cs := h

set_option maxHeartbeats 1000000 in
theorem checkSq (a : Option Addr) (cs : List (List Int)) (ca : Nat) (w : World) (ha : Sqr w a cs) (hm : cs.length ≤ maxLen) (hr : ∀ r ∈ cs, r.length ≤ maxLen) :
    Calls Tryd.prog 55 #[.slice a cs.length ca] w fun e w' => e = .returned (errV (sqf cs)) ∧ w' = w := by
  unfold maxLen at hm hr
  obtain ⟨n, hn⟩ : ∃ n, cs.length = n := ⟨_, rfl⟩
  rw [hn] at hm ⊢
  have HN : Hid (cs.length = n) := hn
  by_cases h8 : 8 < n
  · have e : sqf cs = 3 := by unfold sqf; rw [if_pos (by omega)]
    rw [e]
    clear hn ha hr e
    go_enter Tryd.func55, Tryd.ntmps55
    go_wp2
    go_ret
    exact ⟨by first | rfl | trivial, by first | rfl | trivial⟩
  have e : sqf cs = rws n cs := by unfold sqf; rw [if_neg (by omega), hn]
  rw [e]
  clear e hn
  obtain ⟨v, hv⟩ : ∃ v, rws n cs = v := ⟨_, rfl⟩
  rw [hv]
  have HV : Hid (rws n cs = v) := hv
  clear hv
  go_enter Tryd.func55, Tryd.ntmps55
  go_wp2
  go_loopw [13] (fun i w1 => ∃ k : Nat, k ≤ n ∧ i = .int .i64 k ∧ w1 = w ∧ ∀ j : Nat, j < k → rwf n (cs.getD j []) = 0) (fun i _ => n - (intOf i).toNat)
  case atStart => exact ⟨0, Nat.zero_le _, rfl, rfl, fun j hj => absurd hj (Nat.not_lt_zero _)⟩
  case round =>
    obtain ⟨k, hk, rfl, rfl, hall⟩ := hrel
    have HA : Hid (∀ j : Nat, j < k → rwf n (cs.getD j []) = 0) := hall
    clear hall
    by_cases hlt : k < n
    · obtain ⟨b, off, rfl, hat⟩ := Sqr.at ha (i := k) (by rw [HN.out]; exact hlt)
      obtain ⟨ar, cap, hc, hin⟩ := hat k (by rw [HN.out]; exact hlt)
      have hrk : (cs.getD k []).length ≤ 9223372036854775807 := by
        have hkl : k < cs.length := by rw [HN.out]; exact hlt
        have := hr cs[k] (List.getElem_mem hkl)
        simp [hkl]; omega
      clear hat ha hr
      obtain ⟨row, hrow⟩ : ∃ row, cs.getD k [] = row := ⟨_, rfl⟩
      rw [hrow] at hc hin hrk
      have HR : Hid (cs.getD k [] = row) := hrow
      clear hrow
      obtain ⟨m, hml⟩ : ∃ m, row.length = m := ⟨_, rfl⟩
      rw [hml] at hc hrk
      have HM : Hid (row.length = m) := hml
      clear hml
      by_cases hmn : m = n
      · subst hmn
        have HI : Hid (Ins wr ar row) := hin
        clear hin
        go_wp2
        go_loopw [25] (fun i w1 => ∃ j : Nat, j ≤ m ∧ i = .int .i64 j ∧ w1 = wr ∧ ∀ l : Nat, l < j → ¬(row.getD l 0 < 0 ∨ 100000 < row.getD l 0)) (fun i _ => m - (intOf i).toNat)
        case atStart => exact ⟨0, Nat.zero_le _, rfl, rfl, fun j hj => absurd hj (Nat.not_lt_zero _)⟩
        case round =>
          obtain ⟨j, hj, rfl, rfl, hall2⟩ := hrel
          have HB : Hid (∀ l : Nat, l < j → ¬(row.getD l 0 < 0 ∨ 100000 < row.getD l 0)) := hall2
          clear hall2
          by_cases hjt : j < m
          · obtain ⟨b2, off2, rfl, hat2⟩ := Ins.at HI.out (i := j) (by rw [HM.out]; exact hjt)
            have hc2 := hat2 j (by rw [HM.out]; exact hjt)
            clear hat2
            obtain ⟨c, hcc⟩ : ∃ c, row.getD j 0 = c := ⟨_, rfl⟩
            rw [hcc] at hc2
            have HC : Hid (row.getD j 0 = c) := hcc
            clear hcc
            by_cases hbad : c < 0 ∨ 100000 < c
            · have e1 : v = 1 := by
                have h2 : rwf m (cs.getD k []) = 1 := by
                  unfold rwf
                  rw [HR.out, if_neg (by rw [HM.out]; simp)]
                  exact rng_at (j := j) (by rw [HM.out]; exact hjt) (by rw [HC.out]; exact hbad)
                rw [← HV.out, rws_at (by rw [HN.out]; exact hlt) HA.out (by rw [h2]; decide), h2]
              subst e1
              rcases hbad with hbad | hbad
              · go_wp2
                go_ret
                exact ⟨by first | rfl | trivial, by first | rfl | trivial⟩
              · have hnn : ¬ c < 0 := by omega
                go_wp2
                go_ret
                exact ⟨by first | rfl | trivial, by first | rfl | trivial⟩
            · have hn1 : ¬ c < 0 := by omega
              have hn2 : ¬ 100000 < c := by omega
              go_wp2
              go_roundw
              case rel => exact ⟨j + 1, by omega, by go_num, trivial, fun l hl => by
                by_cases e : l = j
                · subst e; rw [HC.out]; exact hbad
                · exact HB.out l (by omega)⟩
              case measure => simp [intOf]; omega
          · have : j = m := by omega
            subst this
            go_wp2
            go_roundw
            case rel => exact ⟨k + 1, by omega, by go_num, trivial, fun l hl => by
              by_cases e : l = k
              · subst e
                unfold rwf
                rw [HR.out, if_neg (by rw [HM.out]; simp)]
                exact rng_all fun i hi => HB.out i (by rw [← HM.out]; exact hi)
              · exact HA.out l (by omega)⟩
            case measure => simp [intOf]; omega
      · have e1 : v = 2 := by
          have h2 : rwf n (cs.getD k []) = 2 := by
            unfold rwf
            rw [HR.out, if_pos (by rw [HM.out]; exact hmn)]
          rw [← HV.out, rws_at (by rw [HN.out]; exact hlt) HA.out (by rw [h2]; decide), h2]
        subst e1
        have hne : ((m : Int) == (n : Int)) = false := by simp; omega
        go_wp2
        go_ret
        exact ⟨by first | rfl | trivial, by first | rfl | trivial⟩
    · have : k = n := by omega
      subst this
      have e1 : v = 0 := by
        rw [← HV.out]
        exact rws_all fun j hj => HA.out j (by rw [← HN.out]; exact hj)
      subst e1
      go_wp2
      go_ret
      exact ⟨by first | rfl | trivial, by first | rfl | trivial⟩

end Go.Proofs.YtfmhapajdnmhoaeDoor
