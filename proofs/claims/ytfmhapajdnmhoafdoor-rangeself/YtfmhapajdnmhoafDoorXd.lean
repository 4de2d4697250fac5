/-
  Walks of package match's sets of columns: the first ones, is one there, without one, how many. Numbers and squares of numbers in memory; the walk of package match's check of a square. Walk of package match's choose: the first of the columns that are left with which a row and those below it cost the least. Walk of package match's leastCosts: of each set of columns the least cost of as many of the last rows. Walk of package match's Match: row by row the first column of a best choice.
-/
import Derived.Test.YtfmhapajdnmhoafDoorXm
import Derived.Test.YtfmhapajdnmhoafDoorXc
import Derived.Maps.Own
import Derived.Maps.OwnOps
import Derived.Maps.Views
namespace Go.Proofs.YtfmhapajdnmhoafDoor
open Go.RowKit Dist

theorem all_small2 {n m : Nat} {p : Nat → Nat → Bool} (h : ((List.range n).all fun s => (List.range m).all (p s)) = true) {s c : Nat} (hs : s < n) (hc : c < m) : p s c = true := List.all_eq_true.1 (List.all_eq_true.1 h s (List.mem_range.2 hs)) c (List.mem_range.2 hc)
theorem all_small {n : Nat} {p : Nat → Bool} (h : ((List.range n).all p) = true) {s : Nat} (hs : s < n) : p s = true := List.all_eq_true.1 h s (List.mem_range.2 hs)

theorem cols_first : ((List.range 9).all fun n => IntKind.u64.wrap (IntKind.u64.wrap (2 ^ n) - 1) == ((2 ^ n - 1 : Nat) : Int)) = true := by kernel_rfl
theorem cols_wo : ((List.range 256).all fun s => (List.range 8).all fun c => bits BinOp.andNot IntKind.u64 (s : Int) (IntKind.u64.wrap (2 ^ c)) == (wo s c : Int)) = true := by kernel_rfl
theorem cols_has : ((List.range 256).all fun s => (List.range 8).all fun c => (bits BinOp.and IntKind.u64 ((s : Int) / 2 ^ c) 1 == 1) == s.testBit c) = true := by kernel_rfl

/-- How many bits are there: the library's way. -/
def oc1 (x : Int) : Int := IntKind.u64.wrap (bits BinOp.and IntKind.u64 (x / 2) 6148914691236517205 + bits BinOp.and IntKind.u64 x 6148914691236517205)
def oc2 (x : Int) : Int := IntKind.u64.wrap (bits BinOp.and IntKind.u64 (x / 4) 3689348814741910323 + bits BinOp.and IntKind.u64 x 3689348814741910323)
def oc3 (x : Int) : Int := bits BinOp.and IntKind.u64 (IntKind.u64.wrap (x / 16 + x)) 1085102592571150095
def oc4 (x : Int) : Int := IntKind.u64.wrap (x + x / 256)
def oc5 (x : Int) : Int := IntKind.u64.wrap (x + x / 65536)
def oc6 (x : Int) : Int := IntKind.u64.wrap (x + x / 4294967296)
def oc7 (x : Int) : Int := bits BinOp.and IntKind.i64 (wrap64 x) 127
def oc (x : Int) : Int := oc7 (oc6 (oc5 (oc4 (oc3 (oc2 (oc1 x))))))
theorem cols_count : ((List.range 256).all fun s => oc (s : Int) == (szS 8 s : Int)) = true := by kernel_rfl

set_option maxHeartbeats 400000 in
theorem firstCols (n : Nat) (hn : n ≤ 8) (w : World) : Calls Tryd.prog 19 #[.int .i64 n] w fun e w' => e = .returned (.int .u64 ((2 ^ n - 1 : Nat) : Int)) ∧ w' = w := by
  have he : IntKind.u64.wrap (IntKind.u64.wrap (2 ^ n) - 1) = ((2 ^ n - 1 : Nat) : Int) := by simpa using all_small cols_first (s := n) (by omega)
  generalize ((2 ^ n - 1 : Nat) : Int) = x at he ⊢
  have he : Hid (IntKind.u64.wrap (IntKind.u64.wrap (2 ^ n) - 1) = x) := he
  go_enter Tryd.func19, Tryd.ntmps19
  go_wp2
  go_ret
  exact ⟨rfl, rfl⟩

set_option maxHeartbeats 400000 in
theorem without (s c : Nat) (hs : s < 256) (hc : c < 8) (w : World) : Calls Tryd.prog 21 #[.int .u64 s, .int .i64 c] w fun e w' => e = .returned (.int .u64 (wo s c)) ∧ w' = w := by
  have he : Hid (bits BinOp.andNot IntKind.u64 (s : Int) (IntKind.u64.wrap (2 ^ c)) = (wo s c : Int)) := (by simpa using all_small2 cols_wo hs hc : bits BinOp.andNot IntKind.u64 (s : Int) (IntKind.u64.wrap (2 ^ c)) = (wo s c : Int))
  go_enter Tryd.func21, Tryd.ntmps21
  go_wp2
  go_ret
  exact ⟨congrArg (fun z => Ending.returned (.int .u64 z)) he.out, rfl⟩

theorem has_is (s : Nat) (c : Int) (hs : s < 256) : (bits BinOp.and IntKind.u64 ((s : Int) / 2 ^ min c.toNat 64) 1 == 1) = s.testBit c.toNat := by
  by_cases hc : c.toNat < 8
  · have := all_small2 cols_has hs hc
    rw [Nat.min_eq_left (by omega)]
    simpa using this
  · have e : (s : Int) / 2 ^ min c.toNat 64 = 0 := by
      have : (2 : Nat) ^ 8 ≤ 2 ^ min c.toNat 64 := Nat.pow_le_pow_right (by decide) (by omega)
      have h2 : s / 2 ^ min c.toNat 64 = 0 := Nat.div_eq_of_lt (by omega)
      rw [show ((2 : Int) ^ min c.toNat 64) = ((2 ^ min c.toNat 64 : Nat) : Int) by simp, ← Int.natCast_ediv, h2]; rfl
    have e2 : s.testBit c.toNat = false := Nat.testBit_lt_two_pow (Nat.lt_of_lt_of_le hs (show 2 ^ 8 ≤ 2 ^ c.toNat from Nat.pow_le_pow_right (by decide) (by omega)))
    rw [e, e2]
    decide

set_option maxHeartbeats 400000 in
theorem hasCol (s : Nat) (c : Int) (hs : s < 256) (w : World) : Calls Tryd.prog 33 #[.int .u64 s, .int .i64 c] w fun e w' => e = .returned (.bool (decide (0 ≤ c) && s.testBit c.toNat)) ∧ w' = w := by
  obtain ⟨v, hv⟩ : ∃ v, (decide (0 ≤ c) && s.testBit c.toNat) = v := ⟨_, rfl⟩
  rw [hv]
  have HV : Hid ((decide (0 ≤ c) && s.testBit c.toNat) = v) := hv
  clear hv
  go_enter Tryd.func33, Tryd.ntmps33
  go_wp2
  · have h : 0 ≤ c := by assumption
    go_ret
    refine ⟨ret_b ?_, rfl⟩
    rw [← HV.out]
    simpa [h] using has_is s c hs
  · have h : c < 0 := by assumption
    go_ret
    refine ⟨ret_b ?_, rfl⟩
    rw [← HV.out, show decide (0 ≤ c) = false by simp; omega]
    rfl

set_option maxHeartbeats 400000 in
theorem onesCount64 (s : Nat) (hs : s < 256) (w : World) : Calls Tryd.prog 57 #[.int .u64 s] w fun e w' => e = .returned (.int .i64 (szS 8 s)) ∧ w' = w := by
  have he : oc (s : Int) = (szS 8 s : Int) := by simpa using all_small cols_count hs
  generalize (szS 8 s : Int) = x at he ⊢
  have he : Hid (oc (s : Int) = x) := he
  go_enter Tryd.func57, Tryd.ntmps57
  go_wp2
  go_ret
  exact ⟨congrArg (fun z => Ending.returned (.int .i64 z)) he.out, rfl⟩

set_option maxHeartbeats 400000 in
theorem onesCount (s : Nat) (hs : s < 256) (w : World) : Calls Tryd.prog 45 #[.int .u64 s] w fun e w' => e = .returned (.int .i64 (szS 8 s)) ∧ w' = w := by
  have c64 := onesCount64 s hs
  go_enter Tryd.func45, Tryd.ntmps45
  go_wp2_with (go_at_call 57; refine (c64 _).mono ?_; rintro e w1 ⟨rfl, rfl⟩)
  go_ret
  exact ⟨rfl, rfl⟩

set_option maxHeartbeats 400000 in
theorem countCol (s : Nat) (hs : s < 256) (w : World) : Calls Tryd.prog 32 #[.int .u64 s] w fun e w' => e = .returned (.int .i64 (szS 8 s)) ∧ w' = w := by
  have c64 := onesCount s hs
  go_enter Tryd.func32, Tryd.ntmps32
  go_wp2_with (go_at_call 45; refine (c64 _).mono ?_; rintro e w1 ⟨rfl, rfl⟩)
  go_ret
  exact ⟨rfl, rfl⟩

end Go.Proofs.YtfmhapajdnmhoafDoor
namespace Go.Proofs.YtfmhapajdnmhoafDoor
open Go.RowKit Dist

/-- Numbers as they lie in memory. -/
def Ins (w : World) (a : Option Addr) (zs : List Int) : Prop :=
  ∀ i : Nat, i < zs.length → ∃ b off, a = some ⟨b, off, none⟩ ∧ w.cell? ⟨b, off + i, none⟩ = some (.int .i64 (zs.getD i 0))
/-- Rows of numbers. -/
def Sqr (w : World) (a : Option Addr) (cs : List (List Int)) : Prop :=
  ∀ i : Nat, i < cs.length → ∃ b off ar cap, a = some ⟨b, off, none⟩ ∧ w.cell? ⟨b, off + i, none⟩ = some (.slice ar (cs.getD i []).length cap) ∧ Ins w ar (cs.getD i [])

theorem Ins.at {w : World} {a : Option Addr} {zs : List Int} (h : Ins w a zs) {i : Nat} (hi : i < zs.length) :
    ∃ b off, a = some ⟨b, off, none⟩ ∧ ∀ j : Nat, j < zs.length → w.cell? ⟨b, off + j, none⟩ = some (.int .i64 (zs.getD j 0)) := by
  obtain ⟨b, off, rfl, _⟩ := h i hi
  refine ⟨b, off, rfl, fun j hj => ?_⟩
  obtain ⟨b', off', e, hc⟩ := h j hj
  simp at e
  obtain ⟨rfl, rfl⟩ := e
  exact hc
theorem Ins.below {w w' : World} {a : Option Addr} {zs : List Int} (h : Ins w a zs) (hb : Below w.heap.size w w') : Ins w' a zs := by
  intro i hi
  obtain ⟨b, off, e, hc⟩ := h i hi
  exact ⟨b, off, e, cell_later hb hc⟩
theorem Ins.drawn {w : World} {a : Option Addr} {zs : List Int} (h : Ins w a zs) (q : Nat) : Ins (w.drewN q) a zs := h
theorem Ins.nil (w : World) (a : Option Addr) : Ins w a [] := fun i hi => absurd hi (by simp)
theorem Sqr.at {w : World} {a : Option Addr} {cs : List (List Int)} (h : Sqr w a cs) {i : Nat} (hi : i < cs.length) :
    ∃ b off, a = some ⟨b, off, none⟩ ∧ ∀ j : Nat, j < cs.length → ∃ ar cap, w.cell? ⟨b, off + j, none⟩ = some (.slice ar (cs.getD j []).length cap) ∧ Ins w ar (cs.getD j []) := by
  obtain ⟨b, off, _, _, rfl, _⟩ := h i hi
  refine ⟨b, off, rfl, fun j hj => ?_⟩
  obtain ⟨b', off', ar, cap, e, hc⟩ := h j hj
  simp at e
  obtain ⟨rfl, rfl⟩ := e
  exact ⟨ar, cap, hc⟩
theorem Sqr.below {w w' : World} {a : Option Addr} {cs : List (List Int)} (h : Sqr w a cs) (hb : Below w.heap.size w w') : Sqr w' a cs := by
  intro i hi
  obtain ⟨b, off, ar, cap, e, hc, hr⟩ := h i hi
  exact ⟨b, off, ar, cap, e, cell_later hb hc, hr.below hb⟩
theorem Sqr.drawn {w : World} {a : Option Addr} {cs : List (List Int)} (h : Sqr w a cs) (q : Nat) : Sqr (w.drewN q) a cs := h

set_option maxHeartbeats 1000000 in
theorem checkSq (a : Option Addr) (cs : List (List Int)) (ca : Nat) (w : World) (ha : Sqr w a cs) (hm : cs.length ≤ maxLen) (hr : ∀ r ∈ cs, r.length ≤ maxLen) :
    Calls Tryd.prog 17 #[.slice a cs.length ca] w fun e w' => e = .returned (errV (sqf cs)) ∧ w' = w := by
  unfold maxLen at hm hr
  obtain ⟨n, hn⟩ : ∃ n, cs.length = n := ⟨_, rfl⟩
  rw [hn] at hm ⊢
  have HN : Hid (cs.length = n) := hn
  by_cases h8 : 8 < n
  · have e : sqf cs = 3 := by unfold sqf; rw [if_pos (by omega)]
    rw [e]
    clear hn ha hr e
    go_enter Tryd.func17, Tryd.ntmps17
    go_wp2
    go_ret
    exact ⟨by first | rfl | trivial, by first | rfl | trivial⟩
  have e : sqf cs = rws n cs := by unfold sqf; rw [if_neg (by omega), hn]
  rw [e]
  clear e hn
  obtain ⟨v, hv⟩ : ∃ v, rws n cs = v := ⟨_, rfl⟩
  rw [hv]
  have HV : Hid (rws n cs = v) := hv
  clear hv
  go_enter Tryd.func17, Tryd.ntmps17
  go_wp2
  go_loopw [13] (fun i w1 => ∃ k : Nat, k ≤ n ∧ i = .int .i64 k ∧ w1 = w ∧ ∀ j : Nat, j < k → rwf n (cs.getD j []) = 0) (fun i _ => n - (intOf i).toNat)
  case atStart => exact ⟨0, Nat.zero_le _, rfl, rfl, fun j hj => absurd hj (Nat.not_lt_zero _)⟩
  case round =>
    obtain ⟨k, hk, rfl, rfl, hall⟩ := hrel
    have HA : Hid (∀ j : Nat, j < k → rwf n (cs.getD j []) = 0) := hall
    clear hall
    by_cases hlt : k < n
    · obtain ⟨b, off, rfl, hat⟩ := Sqr.at ha (i := k) (by rw [HN.out]; exact hlt)
      obtain ⟨ar, cap, hc, hin⟩ := hat k (by rw [HN.out]; exact hlt)
      have hrk : (cs.getD k []).length ≤ 9223372036854775807 := by
        have hkl : k < cs.length := by rw [HN.out]; exact hlt
        have := hr cs[k] (List.getElem_mem hkl)
        simp [hkl]; omega
      clear hat ha hr
      obtain ⟨row, hrow⟩ : ∃ row, cs.getD k [] = row := ⟨_, rfl⟩
      rw [hrow] at hc hin hrk
      have HR : Hid (cs.getD k [] = row) := hrow
      clear hrow
      obtain ⟨m, hml⟩ : ∃ m, row.length = m := ⟨_, rfl⟩
      rw [hml] at hc hrk
      have HM : Hid (row.length = m) := hml
      clear hml
      by_cases hmn : m = n
      · subst hmn
        have HI : Hid (Ins wr ar row) := hin
        clear hin
        go_wp2
        go_loopw [25] (fun i w1 => ∃ j : Nat, j ≤ m ∧ i = .int .i64 j ∧ w1 = wr ∧ ∀ l : Nat, l < j → ¬(row.getD l 0 < 0 ∨ 100000 < row.getD l 0)) (fun i _ => m - (intOf i).toNat)
        case atStart => exact ⟨0, Nat.zero_le _, rfl, rfl, fun j hj => absurd hj (Nat.not_lt_zero _)⟩
        case round =>
          obtain ⟨j, hj, rfl, rfl, hall2⟩ := hrel
          have HB : Hid (∀ l : Nat, l < j → ¬(row.getD l 0 < 0 ∨ 100000 < row.getD l 0)) := hall2
          clear hall2
          by_cases hjt : j < m
          · obtain ⟨b2, off2, rfl, hat2⟩ := Ins.at HI.out (i := j) (by rw [HM.out]; exact hjt)
            have hc2 := hat2 j (by rw [HM.out]; exact hjt)
            clear hat2
            obtain ⟨c, hcc⟩ : ∃ c, row.getD j 0 = c := ⟨_, rfl⟩
            rw [hcc] at hc2
            have HC : Hid (row.getD j 0 = c) := hcc
            clear hcc
            by_cases hbad : c < 0 ∨ 100000 < c
            · have e1 : v = 1 := by
                have h2 : rwf m (cs.getD k []) = 1 := by
                  unfold rwf
                  rw [HR.out, if_neg (by rw [HM.out]; simp)]
                  exact rng_at (j := j) (by rw [HM.out]; exact hjt) (by rw [HC.out]; exact hbad)
                rw [← HV.out, rws_at (by rw [HN.out]; exact hlt) HA.out (by rw [h2]; decide), h2]
              subst e1
              rcases hbad with hbad | hbad
              · go_wp2
                go_ret
                exact ⟨by first | rfl | trivial, by first | rfl | trivial⟩
              · have hnn : ¬ c < 0 := by omega
                go_wp2
                go_ret
                exact ⟨by first | rfl | trivial, by first | rfl | trivial⟩
            · have hn1 : ¬ c < 0 := by omega
              have hn2 : ¬ 100000 < c := by omega
              go_wp2
              go_roundw
              case rel => exact ⟨j + 1, by omega, by go_num, trivial, fun l hl => by
                by_cases e : l = j
                · subst e; rw [HC.out]; exact hbad
                · exact HB.out l (by omega)⟩
              case measure => simp [intOf]; omega
          · have : j = m := by omega
            subst this
            go_wp2
            go_roundw
            case rel => exact ⟨k + 1, by omega, by go_num, trivial, fun l hl => by
              by_cases e : l = k
              · subst e
                unfold rwf
                rw [HR.out, if_neg (by rw [HM.out]; simp)]
                exact rng_all fun i hi => HB.out i (by rw [← HM.out]; exact hi)
              · exact HA.out l (by omega)⟩
            case measure => simp [intOf]; omega
      · have e1 : v = 2 := by
          have h2 : rwf n (cs.getD k []) = 2 := by
            unfold rwf
            rw [HR.out, if_pos (by rw [HM.out]; exact hmn)]
          rw [← HV.out, rws_at (by rw [HN.out]; exact hlt) HA.out (by rw [h2]; decide), h2]
        subst e1
        have hne : ((m : Int) == (n : Int)) = false := by simp; omega
        go_wp2
        go_ret
        exact ⟨by first | rfl | trivial, by first | rfl | trivial⟩
    · have : k = n := by omega
      subst this
      have e1 : v = 0 := by
        rw [← HV.out]
        exact rws_all fun j hj => HA.out j (by rw [← HN.out]; exact hj)
      subst e1
      go_wp2
      go_ret
      exact ⟨by first | rfl | trivial, by first | rfl | trivial⟩

end Go.Proofs.YtfmhapajdnmhoafDoor
namespace Go.Proofs.YtfmhapajdnmhoafDoor
open Go.RowKit Dist Go.Maps

theorem law_cols : Keyed Tryd.prog 61 := int_keyed Tryd.underlying61
theorem zero_int (w : World) : (zeroValue 3).run Tryd.prog w = .ok (.int .i64 0) w := by kernel_rfl

/-- The map of the least costs. -/
def Lst (w : World) (b k : Nat) (D : DataW Unit) : Prop := w.ownsMap Tryd.prog 61 (plainElem Tryd.prog 3) b k D
/-- What it has at a set. -/
def lat (D : DataW Unit) (s : Nat) (x : Int) : Prop := D.atKey (.int .u64 s) (.lit (.int .i64 0)) = .lit (.int .i64 x)

theorem wf_u64 {s : Nat} (h : s < 256) : (Lit.int .u64 (s : Int)).wf = true := by
  have h1 : IntKind.u64.min = 0 := rfl
  have h2 : IntKind.u64.max = 18446744073709551615 := by decide
  simp only [Lit.wf, h1, h2, Bool.and_eq_true, decide_eq_true_eq]
  omega

theorem Lst.look {w : World} {b k : Nat} {D : DataW Unit} (h : Lst w b k D) {s : Nat} (hs : s < 256) {x : Int} (hx : lat D s x) : (Instr.lookup 58 (.map (some b)) (.int .u64 s) false).run Tryd.prog w = .ok (.int .i64 x) w := by
  obtain ⟨c, hrun, hat, _⟩ := World.ownsMap.lookup_int (t := 58) (e := 3) (q := .i64) h law_cols Tryd.underlying58 Tryd.underlying3 (zero_int w) (keyOf_int_mk Tryd.underlying61 (wf_u64 hs))
  unfold lat at hx
  rw [hx] at hat
  simp at hat
  rw [hrun, hat]

theorem hasColN (s k : Nat) (hs : s < 256) (v : Bool) (hv : s.testBit k = v) (w : World) : Calls Tryd.prog 33 #[.int .u64 s, .int .i64 k] w fun e w' => e = .returned (.bool v) ∧ w' = w := by
  refine (hasCol s k hs w).mono ?_
  rintro e w' ⟨rfl, rfl⟩
  exact ⟨ret_b (by rw [← hv]; simp), rfl⟩

theorem ret_two {a b c d : Int} (h1 : a = c) (h2 : b = d) : Ending.returned (.tuple #[.int .i64 a, .int .i64 b]) = .returned (.tuple #[.int .i64 c, .int .i64 d]) := by rw [h1, h2]

set_option maxHeartbeats 1000000 in
set_option maxRecDepth 100000 in
theorem choose_any (ar : Option Addr) (row : List Int) (cap s b z n : Nat) (D : DataW Unit) (g : Nat → Int) (w : World) (ha : Ins w ar row) (hn : row.length = n) (h8 : n ≤ 8) (hs : s < 256) (hm : Lst w b z D)
    (hrow : ∀ k, 0 ≤ row.getD k 0 ∧ row.getD k 0 ≤ 100000) (hg : ∀ k, k < n → s.testBit k = true → lat D (wo s k) (g k) ∧ 0 ≤ g k ∧ g k ≤ 800000) :
    Calls Tryd.prog 20 #[.slice ar n cap, .int .u64 s, .map (some b)] w fun e w' => e = .returned (.tuple #[.int .i64 (chs row s g n).1, .int .i64 (chs row s g n).2]) ∧ w' = w := by
  have HN : Hid (row.length = n) := hn
  have HA : Hid (Ins w ar row) := ha
  have HG : Hid (∀ k, k < n → s.testBit k = true → lat D (wo s k) (g k) ∧ 0 ≤ g k ∧ g k ≤ 800000) := hg
  have HM : Hid (Lst w b z D) := hm
  have HR : Hid (∀ k, 0 ≤ row.getD k 0 ∧ row.getD k 0 ≤ 100000) := hrow
  clear hn ha hg hm hrow
  obtain ⟨P, hP⟩ : ∃ P, (chs row s g n).1 = P := ⟨_, rfl⟩
  obtain ⟨Q, hQ⟩ : ∃ Q, (chs row s g n).2 = Q := ⟨_, rfl⟩
  rw [hP, hQ]
  have HP1 : Hid ((chs row s g n).1 = P) := hP
  have HQ1 : Hid ((chs row s g n).2 = Q) := hQ
  clear hP hQ
  go_enter Tryd.func20, Tryd.ntmps20
  go_wp2
  go_loopw [6, 7, 13] (fun c6 c7 i w1 => ∃ k : Nat, k ≤ n ∧ i = .int .i64 k ∧ w1 = w ∧ c6 = .int .i64 (chs row s g k).1 ∧ c7 = .int .i64 (chs row s g k).2 ∧ ((chs row s g k).1 = -1 ∨ 0 ≤ (chs row s g k).1)) (fun _ _ i _ => n - (intOf i).toNat)
  case atStart => exact ⟨0, Nat.zero_le _, rfl, rfl, rfl, rfl, .inl rfl⟩
  case round =>
    obtain ⟨k, hk, rfl, rfl, rfl, rfl, hpos⟩ := hrel
    obtain ⟨p, hp⟩ : ∃ p, (chs row s g k).1 = p := ⟨_, rfl⟩
    obtain ⟨q, hq⟩ : ∃ q, (chs row s g k).2 = q := ⟨_, rfl⟩
    simp only [hp, hq] at hpos ⊢
    have HP : Hid ((chs row s g k).1 = p) := hp
    have HQ : Hid ((chs row s g k).2 = q) := hq
    clear hp hq
    by_cases hlt : k < n
    · obtain ⟨b2, off, rfl, hat⟩ := Ins.at HA.out (i := k) (by rw [HN.out]; exact hlt)
      have hc := hat k (by rw [HN.out]; exact hlt)
      clear hat
      have hrk := HR.out k
      obtain ⟨x, hx⟩ : ∃ x, row.getD k 0 = x := ⟨_, rfl⟩
      rw [hx] at hc hrk
      have HX : Hid (row.getD k 0 = x) := hx
      clear hx
      cases ht : s.testBit k
      · have hcall := hasColN s k hs false ht
        have HT : Hid (s.testBit k = false) := ht
        clear ht
        have e1 : Hid (chs row s g (k + 1) = chs row s g k) := by
          show chs row s g (k + 1) = _
          rw [chs_succ, ch1, if_neg (by rw [HT.out]; decide)]
        go_wp2_with (go_at_call 33; refine (hcall _).mono ?_; rintro e w1 ⟨rfl, rfl⟩)
        go_roundw
        case rel => exact ⟨k + 1, by omega, by go_num, trivial, by rw [e1.out, HP.out], by rw [e1.out, HQ.out], by rw [e1.out, HP.out]; exact hpos⟩
        case measure => simp [intOf]; omega
      · have hcall := hasColN s k hs true ht
        have hwo := without s k hs (by omega)
        obtain ⟨hl, hg0, hg1⟩ := HG.out k hlt ht
        have HT : Hid (s.testBit k = true) := ht
        clear ht
        have hlook := Lst.look HM.out (Nat.lt_of_le_of_lt (wo_le s k) hs) hl
        clear hl
        obtain ⟨y, hy⟩ : ∃ y, g k = y := ⟨_, rfl⟩
        rw [hy] at hlook hg0 hg1
        have e1 : Hid (chs row s g (k + 1) = if p = -1 ∨ x + y < q then ((k : Int), x + y) else (p, q)) := by
          show chs row s g (k + 1) = _
          rw [chs_succ, ch1, if_pos HT.out, HX.out, hy, HP.out, HQ.out]
          split
          · rfl
          · rw [← HP.out, ← HQ.out]
        have HY : Hid (g k = y) := hy
        clear hy
        by_cases hb : p = -1 ∨ x + y < q
        · have e2 : Hid (chs row s g (k + 1) = ((k : Int), x + y)) := by
            show chs row s g (k + 1) = _
            rw [e1.out, if_pos hb]
          by_cases hb1 : p = -1
          case' pos => subst hb1
          case' neg =>
            have hb1 : (p == -1) = false := by simpa using hb1
            have hb2 : x + y < q := by simp at hb1; omega
          all_goals
            go_wp2_with (first
              | (go_at_call 33; refine (hcall _).mono ?_; rintro e w1 ⟨rfl, rfl⟩)
              | (go_at_call 21; refine (hwo _).mono ?_; rintro e w1 ⟨rfl, rfl⟩))
            go_roundw
            case rel => exact ⟨k + 1, by omega, by go_num, trivial, by rw [e2.out], by rw [e2.out], by rw [e2.out]; right; simp⟩
            case measure => simp [intOf]; omega
        · have e2 : Hid (chs row s g (k + 1) = (p, q)) := by
            show chs row s g (k + 1) = _
            rw [e1.out, if_neg hb]
          have hb1 : (p == -1) = false := by simp; omega
          have hb2 : q ≤ x + y := by omega
          have hp0 : 0 ≤ p := by omega
          clear hb hpos
          go_wp2_with (first
            | (go_at_call 33; refine (hcall _).mono ?_; rintro e w1 ⟨rfl, rfl⟩)
            | (go_at_call 21; refine (hwo _).mono ?_; rintro e w1 ⟨rfl, rfl⟩))
          go_roundw
          case rel => exact ⟨k + 1, by omega, by go_num, trivial, by rw [e2.out], by rw [e2.out], by rw [e2.out]; exact .inr hp0⟩
          case measure => simp [intOf]; omega
    · have : k = n := by omega
      subst this
      rw [HP.out] at HP1
      rw [HQ.out] at HQ1
      have hp1 : P = p := HP1.out.symm
      have hq1 : Q = q := HQ1.out.symm
      subst hp1 hq1
      go_wp2
      go_ret2
      exact ⟨rfl, rfl⟩

end Go.Proofs.YtfmhapajdnmhoafDoor
namespace Go.Proofs.YtfmhapajdnmhoafDoor
open Go.RowKit Dist Go.Maps

theorem szS_up {n s : Nat} (h : s.testBit n = false) : szS (n + 1) s = szS n s := by
  unfold szS lefts usS
  rw [List.range_succ, List.map_append, List.count_append]
  simp [h]
theorem szS_add {n s : Nat} (hs : s < 2 ^ n) : ∀ d, szS (n + d) s = szS n s
  | 0 => rfl
  | d + 1 => by
    rw [← Nat.add_assoc, szS_up (Nat.testBit_lt_two_pow (Nat.lt_of_lt_of_le hs (Nat.pow_le_pow_right (by decide) (by omega)))), szS_add hs d]
theorem szS_8 {n s : Nat} (hn : n ≤ 8) (hs : s < 2 ^ n) : szS 8 s = szS n s := by
  have := szS_add hs (8 - n)
  rwa [show n + (8 - n) = 8 by omega] at this

theorem key_lit (s : Nat) : WideAt.IsKeyLit (.int .u64 (s : Int)) := by simp [WideAt.IsKeyLit]

theorem Lst.isMap {w : World} {b k : Nat} {D : DataW Unit} (h : Lst w b k D) : IsMap D := by
  obtain ⟨_, _, _, _, _, e⟩ := h
  exact ⟨_, e⟩
theorem lat_same {D : DataW Unit} (h : IsMap D) (s : Nat) (x : Int) : lat (D.put (.int .u64 s) (.lit (.int .i64 x))) s x := atKey_put_same h (key_lit s) _ _
theorem lat_other {D : DataW Unit} {s t : Nat} {x y : Int} (h : lat D t y) (hne : t ≠ s) : lat (D.put (.int .u64 s) (.lit (.int .i64 x))) t y := by
  unfold lat at h ⊢
  rw [atKey_put_other (fun e => hne (by have : (t : Int) = s := by simpa using e
                                        omega))]
  exact h

/-- An entry of a map that is written out. -/
theorem lst_insert {w : World} {ops : Array Oper} {rest : List Oper} {o : Oper} {a : Act} {Q : Exit → Act → World → Prop} (hg : o.guard = none) (m x v : Operand) (hop : o.op = Op.insert 58 m x v) (b k : Nat) (D : DataW Unit)
    (hm : a.eval m = .map (some b)) (hown : Lst w b k D) (hk : k < 1000) (s : Nat) (hs : s < 256) (y : Int) (hx : a.eval x = .int .u64 s) (hv : a.eval v = .int .i64 y) (hy : (Lit.int .i64 y).wf = true)
    (hK : ∀ w', Lst w' b (k + 1) (D.put (.int .u64 s) (.lit (.int .i64 y))) → w.grownBy w' (some b) → wpList Tryd.prog ops Q rest (a.put o.dst undef) w') :
    wpList Tryd.prog ops Q (o :: rest) a w := by
  refine wpList_plain hg fun K' hK' => ?_
  obtain ⟨w', hrun, r1, r2⟩ := World.ownsMap.update (t := 58) (e := 3) hown law_cols Tryd.underlying58 (by unfold maxLen; omega) (keyOf_int_mk Tryd.underlying61 (wf_u64 hs)) (plainElem_int Tryd.underlying3 hy)
  unfold Oper.wp
  simp [execOp, hop, hm, hx, hv, hrun, Result.andThen]
  exact hK' _ _ (hK w' r1 r2)

/-- What comes of it. -/
def LeaV (cs : List (List Int)) (n B : Nat) (e : Ending) (w w' : World) : Prop := ∃ z D, e = .returned (.map (some B)) ∧ Lst w' B z D ∧ (∀ s, s < 2 ^ n → lat D s (bsS cs n s).1) ∧ Below B w w'

set_option maxHeartbeats 1000000 in
set_option maxRecDepth 100000 in
theorem least_any (a : Option Addr) (cs : List (List Int)) (ca : Nat) (w : World) (ha : Sqr w a cs) (h0 : sqf cs = 0) :
    Calls Tryd.prog 18 #[.slice a cs.length ca] w fun e w' => LeaV cs cs.length w.heap.size e w w' := by
  have hmm := @run_makeMap Tryd.prog
  obtain ⟨n, hn⟩ : ∃ n, cs.length = n := ⟨_, rfl⟩
  obtain ⟨B, hB⟩ : ∃ B, w.heap.size = B := ⟨_, rfl⟩
  have h8 := (sqf_zero h0).1
  have HZ : Hid (sqf cs = 0) := h0
  rw [hn] at h8 ⊢
  rw [hB]
  have HN : Hid (cs.length = n) := hn
  have HB : Hid (w.heap.size = B) := hB
  have HA : Hid (Sqr w a cs) := ha
  clear hn ha h0
  have hp8 : 2 ^ n ≤ 256 := Nat.pow_le_pow_right (n := 2) (by decide) h8
  have hp1 : 0 < 2 ^ n := Nat.pow_pos (by decide)
  obtain ⟨N, hN⟩ : ∃ N, 2 ^ n = N := ⟨_, rfl⟩
  have hfc := firstCols n h8
  rw [hN] at hp8 hp1 hfc
  rw [show ((N - 1 : Nat) : Int) = (N : Int) - 1 by omega] at hfc
  have HP : Hid (2 ^ n = N) := hN
  clear hN
  go_enter Tryd.func18, Tryd.ntmps18
  have hown0 : Lst (w.alloc (.map #[] 0)) B 0 (.map []) := by rw [← hB]; exact World.ownsMap_made _ _ _ _
  have hb0 : Below B w (w.alloc (.map #[] 0)) := by rw [← hB]; exact below_alloc _ _
  have hz0 : (w.alloc (.map #[] 0)).heap.size = B + 1 := by rw [← hB]; simp
  go_wp2_with (first
    | (refine lst_insert rfl _ _ _ rfl B 0 (.map []) rfl hown0 (by decide) 0 (by decide) 0 rfl rfl (by decide) ?_; intro w1 hown1 hgrow1)
    | go_in)
  have hb1 : Below B w w1 := hb0.grown hgrow1 (by omega) (fun j hj => by cases hj; exact Nat.le_refl _)
  clear hmm hb0 hz0
  go_loopw [4] (fun s4 w2 => ∃ s : Nat, 1 ≤ s ∧ s ≤ N ∧ s4 = .int .u64 s ∧ (∃ D, Lst w2 B s D ∧ ∀ t, t < s → lat D t (bsS cs n t).1) ∧ Below B w w2) (fun s4 _ => N - (intOf s4).toNat)
  case atStart => exact ⟨1, Nat.le_refl _, hp1, rfl, ⟨_, hown1, fun t ht => by
    have : t = 0 := by omega
    subst this
    rw [bsS_zero]
    exact lat_same hown0.isMap 0 0⟩, hb1⟩
  case round =>
    clear hown1 hgrow1 hb1 hown0 w1
    obtain ⟨s, hs1, hsN, rfl, ⟨D, hown, hall⟩, hbl⟩ := hrel
    by_cases hlt : s < N
    · have hp2 : s < 2 ^ n := by rw [HP.out]; exact hlt
      have hcnt := countCol s (by omega)
      rw [szS_8 h8 hp2] at hcnt
      have hf1 := szS_le n s
      have hf0 : 0 < szS n s := Nat.pos_of_ne_zero fun e => by have := (szS_iff hp2).1 e; omega
      obtain ⟨f, hf⟩ : ∃ f, szS n s = f := ⟨_, rfl⟩
      rw [hf] at hcnt hf1 hf0
      obtain ⟨r, hr⟩ : ∃ r, n - f = r := ⟨_, rfl⟩
      have hrn : r < n := by omega
      have hnn := sqf_nonneg HZ.out
      obtain ⟨k, hk, ht, hb, hchs⟩ := chs_bst (c := cs) (r := r) (s := s) (n := n) (g := fun k => (bsS cs n (wo s k)).1) hnn (by omega) (by omega) (fun _ _ _ => rfl)
      have hbw : Below w.heap.size w wr := by rw [HB.out]; exact hbl
      obtain ⟨b, off, rfl, hat⟩ := Sqr.at (HA.out.below hbw) (i := r) (by rw [HN.out]; exact hrn)
      obtain ⟨ar, cap, hc, hin⟩ := hat r (by rw [HN.out]; exact hrn)
      have hrl : (cs.getD r []).length = n := (sqf_len HZ.out (by rw [HN.out]; exact hrn)).trans HN.out
      have hch := choose_any ar (cs.getD r []) cap s B s n D (fun k => (bsS cs n (wo s k)).1) wr hin hrl h8 (by omega) hown (fun k => sqf_cost HZ.out r k) (fun k hk ht => ⟨hall _ (wo_lt ht), bsS_nonneg hnn n _, bsS_le HZ.out n _ h8⟩)
      rw [hchs] at hch
      have hy0 := bsS_nonneg hnn n s
      have hy1 := bsS_le HZ.out n s h8
      rw [hrl] at hc
      obtain ⟨y, hy⟩ : ∃ y, (bsS cs n s).1 = y := ⟨_, rfl⟩
      rw [hy] at hch hy0 hy1
      have hix : (n : Int) - (f : Int) = (r : Int) := by omega
      have HY : Hid ((bsS cs n s).1 = y) := hy
      have HALL : Hid (∀ t, t < s → lat D t (bsS cs n t).1) := hall
      have hsz : B < wr.heap.size := Nat.lt_of_lt_of_le hown.lt (Nat.le_refl _)
      clear hy hall hchs hb ht hat hin hnn hbw hrl hf hp2
      have hisM := Lst.isMap hown
      go_wp2_with (first
        | (go_at_call 19; refine (hfc _).mono ?_; rintro e w1 ⟨rfl, rfl⟩)
        | (go_at_call 32; refine (hcnt _).mono ?_; rintro e w1 ⟨rfl, rfl⟩)
        | (go_at_call 20; refine hch.mono ?_; rintro e w1 ⟨rfl, rfl⟩)
        | (at_mapUpdate; refine wpList_mapUpdate_own _ rfl _ _ _ 58 rfl 61 3 law_cols Tryd.underlying58 _ B s D rfl hown (by unfold maxLen; omega) _ _ _ rfl rfl (keyOf_int_mk Tryd.underlying61 (wf_u64 (by omega))) _ [] (plainElem_int Tryd.underlying3 (WalkArith.wf_i64 (by omega))) ?_; intro w3 hown3 hgrow3)
        | go_in)
      go_roundw
      case rel => exact ⟨s + 1, by omega, by omega, by go_num, ⟨_, hown3, fun t ht => by
        by_cases e : t = s
        · subst e
          rw [HY.out]
          exact lat_same hisM _ _
        · exact lat_other (HALL.out t (by omega)) e⟩, hbl.grown hgrow3 (by omega) (fun j hj => by cases hj; exact Nat.le_refl _)⟩
      case measure => simp [intOf]; omega
    · have : s = N := by omega
      subst this
      go_wp2_with (go_at_call 19; refine (hfc _).mono ?_; rintro e w1 ⟨rfl, rfl⟩)
      go_ret
      exact ⟨_, D, rfl, hown, fun t ht => hall t (by rw [← HP.out]; exact ht), hbl⟩

end Go.Proofs.YtfmhapajdnmhoafDoor
namespace Go.Proofs.YtfmhapajdnmhoafDoor
open Go.RowKit Dist Go.Maps

theorem Tryd.infoInt1 : (Tryd.prog.info? 3).map (fun i => (i.zero, i.size, i.bytes)) = some (some (.int .i64 0), 1, 8) := by kernel_rfl

theorem made_num (v : Value) (n i : Nat) (h : i < n) : (madeCells #[v] n)[i]? = some v := by
  rw [Array.getElem?_eq_getElem (by rw [size_madeCells]; exact h)]
  simp [madeCells, Nat.mod_one]

/-- A row of numbers of the call's own. -/
def Nrow (w : World) (R n : Nat) (f : Nat → Int) : Prop :=
  ∃ rs : Array Value, w.heap[R]? = some (.cells rs 3 (0, 0)) ∧ rs.size = n ∧ ∀ k, k < n → rs[k]? = some (.int .i64 (f k))
theorem Nrow.cell {w : World} {R n : Nat} {f : Nat → Int} (h : Nrow w R n f) {k : Nat} (hk : k < n) : w.cell? ⟨R, k, none⟩ = some (.int .i64 (f k)) := by
  obtain ⟨rs, hb, _, hat⟩ := h
  rw [Lib.cell_of_heap hb]; exact hat k hk
theorem Nrow.frozen {w : World} {R n : Nat} {f : Nat → Int} (h : Nrow w R n f) (k : Nat) : w.frozen? ⟨R, k, none⟩ = false := by
  obtain ⟨rs, hb, _, _⟩ := h
  exact Lib.frozen_of_heap hb k
theorem Nrow.congr {w : World} {R n : Nat} {f g : Nat → Int} (h : Nrow w R n f) (e : ∀ k, k < n → f k = g k) : Nrow w R n g := by
  obtain ⟨rs, hb, hs, hat⟩ := h
  exact ⟨rs, hb, hs, fun k hk => by rw [← e k hk]; exact hat k hk⟩
theorem Nrow.below {w w' : World} {R n : Nat} {f : Nat → Int} (h : Nrow w R n f) {U : Nat} (hb : Below U w w') (hR : R < U) : Nrow w' R n f := by
  obtain ⟨rs, hh, hs, hat⟩ := h
  exact ⟨rs, blk_below hb hR hh, hs, hat⟩
theorem Nrow.set {w : World} {R n : Nat} {f : Nat → Int} (h : Nrow w R n f) {j : Nat} (hj : j < n) (u : Int) : Nrow (w.setCell ⟨R, j, none⟩ (.int .i64 u)) R n (fun k => if k = j then u else f k) := by
  obtain ⟨rs, hb, hs, hat⟩ := h
  refine ⟨_, blk_set hb _, by simpa using hs, fun k hk => ?_⟩
  by_cases e : k = j
  · subst e
    rw [Array.getElem?_setIfInBounds_self_of_lt (by omega)]
    simp
  · rw [Array.getElem?_setIfInBounds_ne (Ne.symm e), hat k hk]
    simp [e]
theorem Nrow.ins {w : World} {R n : Nat} {f : Nat → Int} (h : Nrow w R n f) {zs : List Int} (hl : zs.length = n) (e : ∀ k, k < n → f k = zs.getD k 0) : Ins w (some ⟨R, 0, none⟩) zs := by
  intro i hi
  refine ⟨R, 0, rfl, ?_⟩
  rw [Nat.zero_add, h.cell (by omega), e i (by omega)]

theorem Lst.blk {w w' : World} {b k : Nat} {D : DataW Unit} (h : Lst w b k D) (e : w'.heap[b]? = w.heap[b]?) : Lst w' b k D := by
  obtain ⟨es, clock, hb, F, hs, hD⟩ := h
  exact ⟨es, clock, e.trans hb, F, hs, hD⟩
theorem Lst.lt {w : World} {b k : Nat} {D : DataW Unit} (h : Lst w b k D) : b < w.heap.size := World.ownsMap.lt h
theorem Lst.below {w w' : World} {b k U : Nat} {D : DataW Unit} (h : Lst w b k D) (hb : Below U w w') (hU : b < U) : Lst w' b k D := h.blk (hb.block b hU)
theorem Lst.other {w : World} {b k : Nat} {D : DataW Unit} (h : Lst w b k D) {R : Nat} (hR : R ≠ b) (i : Nat) (v : Value) : Lst (w.setCell ⟨R, i, none⟩ v) b k D := by
  refine h.blk ?_
  simp only [World.setCell, Array.getElem?_modify]
  rw [if_neg hR]

/-- The document's choice. -/
def mcM (cs : List (List Int)) : List Nat := (bst cs cs.length cs.length 0 (List.replicate cs.length false)).2
def mcO (cs : List (List Int)) : List Int := if sqf cs ≠ 0 then [] else (mcM cs).map Int.ofNat
theorem mcM_best {cs : List (List Int)} (h0 : sqf cs = 0) : isB cs cs.length cs.length 0 (List.replicate cs.length false) (mcM cs) :=
  (bst_best (sqf_nonneg h0) cs.length 0 _ (by simp) (by unfold lefts; simp)).1
theorem mcM_len {cs : List (List Int)} (h0 : sqf cs = 0) : (mcM cs).length = cs.length := (mcM_best h0).1.1
theorem mcO_bad {cs : List (List Int)} (h : sqf cs ≠ 0) : mcO cs = [] := by unfold mcO; rw [if_pos h]
theorem mcO_ok {cs : List (List Int)} (h : sqf cs = 0) : mcO cs = (mcM cs).map Int.ofNat := by unfold mcO; rw [if_neg (by simp [h])]
theorem mcO_len {cs : List (List Int)} (h0 : sqf cs = 0) : (mcO cs).length = cs.length := by rw [mcO_ok h0, List.length_map, mcM_len h0]

/-- What comes of Match. -/
def MatV (cs : List (List Int)) (e : Ending) (w w' : World) : Prop := ∃ g c, e = .returned (.tuple #[.slice g (mcO cs).length c, errV (sqf cs)]) ∧ Ins w' g (mcO cs) ∧ (mcO cs).length ≤ c ∧ Below w.heap.size w w'

set_option maxHeartbeats 1000000 in
set_option maxRecDepth 100000 in
theorem match_any (a : Option Addr) (cs : List (List Int)) (ca : Nat) (w : World) (ha : Sqr w a cs) (hm : cs.length ≤ maxLen) (hr : ∀ r ∈ cs, r.length ≤ maxLen) :
    Calls Tryd.prog 8 #[.slice a cs.length ca] w fun e w' => MatV cs e w w' := by
  have hck := checkSq a cs ca w ha hm hr
  by_cases h0 : sqf cs = 0
  case neg =>
    have HV : Hid (MatV cs (.returned (.tuple #[.slice none 0 0, .iface 33 (.int .i64 (sqf cs))])) w w) := by
      refine ⟨none, 0, ?_, ?_, ?_, Below.refl _ _⟩
      · rw [mcO_bad h0, errV_not h0]; rfl
      · rw [mcO_bad h0]; exact Ins.nil _ _
      · rw [mcO_bad h0]; exact Nat.le_refl _
    rw [errV_not h0] at hck
    clear h0 ha hr
    obtain ⟨f, hf⟩ : ∃ f, sqf cs = f := ⟨_, rfl⟩
    rw [hf] at hck HV
    clear hf
    obtain ⟨n, hn⟩ : ∃ n, cs.length = n := ⟨_, rfl⟩
    rw [hn] at hck hm ⊢
    clear hn
    go_enter Tryd.func8, Tryd.ntmps8
    go_wp2_with (go_at_call 17; refine hck.mono ?_; rintro e w1 ⟨rfl, rfl⟩)
    go_ret2
    exact HV.out
  have hle := least_any a cs ca w ha h0
  rw [h0, errV_zero] at hck
  have h8 := (sqf_zero h0).1
  have HZ : Hid (sqf cs = 0) := h0
  obtain ⟨M, hM⟩ : ∃ M, mcM cs = M := ⟨_, rfl⟩
  have hMl := mcM_len h0
  have hMs : M = (bsS cs cs.length (2 ^ cs.length - 1)).2 := by rw [bsS_all, ← hM]; rfl
  obtain ⟨n, hn⟩ : ∃ n, cs.length = n := ⟨_, rfl⟩
  rw [hM] at hMl
  rw [hn] at hck hle h8 hMs hMl ⊢
  obtain ⟨B, hB⟩ : ∃ B, w.heap.size = B := ⟨_, rfl⟩
  rw [hB] at hle
  have HN : Hid (cs.length = n) := hn
  have HA : Hid (Sqr w a cs) := ha
  have HM : Hid (mcM cs = M) := hM
  have HB : Hid (w.heap.size = B) := hB
  have hp8 : 2 ^ n ≤ 256 := Nat.pow_le_pow_right (n := 2) (by decide) h8
  have hp1 : 0 < 2 ^ n := Nat.pow_pos (by decide)
  have HMS : Hid (M = (bsS cs n (2 ^ n - 1)).2) := hMs
  have hsz := szS_all n
  clear hn ha hr hM hMs h0 hm hB
  obtain ⟨N, hN⟩ : ∃ N, 2 ^ n = N := ⟨_, rfl⟩
  have hfc := firstCols n h8
  rw [hN] at hp8 hp1 hfc hsz
  have HP : Hid (2 ^ n = N) := hN
  clear hN
  have hmk := run_make_row' (P := Tryd.prog) 36 3 (.int .i64 0) 8 Tryd.underlying36 Tryd.infoInt1 rfl .i64 .i64 n (by omega) (by omega)
  go_enter Tryd.func8, Tryd.ntmps8
  go_wp2_with (first
    | (go_at_call 17; refine hck.mono ?_; rintro e w0 ⟨rfl, h⟩; cases h)
    | (go_at_call 18; refine hle.mono ?_; rintro e w1 ⟨z, D, rfl, hL, hD, hb1⟩)
    | (go_at_call 19; refine (hfc _).mono ?_; rintro e w1 ⟨rfl, rfl⟩))
  clear hmk hck hle
  obtain ⟨R, hR⟩ : ∃ R, w1.heap.size = R := ⟨_, rfl⟩
  have hBR : B < R := by rw [← hR]; exact hL.lt
  have hal : Below R w1 (w1.alloc (.cells (madeCells #[.int .i64 0] n) 3)) := by rw [← hR]; exact below_alloc _ _
  have hst : Lst (w1.alloc (.cells (madeCells #[.int .i64 0] n) 3)) B z D ∧ Nrow (w1.alloc (.cells (madeCells #[.int .i64 0] n) 3)) R n (fun _ => 0) ∧ R < (w1.alloc (.cells (madeCells #[.int .i64 0] n) 3)).heap.size := by
    refine ⟨hL.below hal hBR, ⟨madeCells #[.int .i64 0] n, ?_, size_madeCells _ _, fun k hk => made_num _ _ _ hk⟩, by simp; omega⟩
    rw [← hR]; exact heap_alloc_new w1 _
  rw [hR]
  have HW := hb1.trans (hal.mono (Nat.le_of_lt hBR))
  generalize w1.alloc (.cells (madeCells #[.int .i64 0] n) 3) = w2 at hst HW ⊢
  obtain ⟨hL2, hN2, hz2⟩ := hst
  clear hal hb1 hL hR w1
  have HD : Hid (∀ s, s < N → lat D s (bsS cs n s).1) := fun s hs => hD s (by rw [HP.out]; exact hs)
  clear hD
  have HMS2 : Hid (M.drop 0 = (bsS cs n (N - 1)).2) := by
    show M.drop 0 = (bsS cs n (N - 1)).2
    rw [List.drop_zero, ← HP.out]; exact HMS.out
  clear HMS
  go_loopw [6, 25] (fun s6 i wx => ∃ k s : Nat, k ≤ n ∧ s < N ∧ s6 = .int .u64 s ∧ i = .int .i64 k ∧ szS n s + k = n ∧ M.drop k = (bsS cs n s).2 ∧ Lst wx B z D ∧ Nrow wx R n (fun j => if j < k then ((M.getD j 0 : Nat) : Int) else 0) ∧ Below B w wx ∧ R < wx.heap.size) (fun _ i _ => n - (intOf i).toNat)
  case atStart => exact ⟨0, N - 1, Nat.zero_le _, by omega, rfl, rfl, by omega, HMS2.out, hL2, hN2.congr fun k hk => by rw [if_neg (by omega)], HW, hz2⟩
  case round =>
    clear hL2 hN2 hz2 HW HMS2 w2
    obtain ⟨k, s, hk, hsN, rfl, rfl, hsz, hdr, hL, hN, hW, hz⟩ := hrel
    by_cases hlt : k < n
    · have hnn := sqf_nonneg HZ.out
      have hs256 : s < 256 := by omega
      obtain ⟨c, hc, ht, hb, hchs⟩ := chs_bst (c := cs) (r := k) (s := s) (n := n) (g := fun k => (bsS cs n (wo s k)).1) hnn (by omega) (by omega) (fun _ _ _ => rfl)
      obtain ⟨b, off, rfl, hat⟩ := Sqr.at (HA.out.below (by rw [HB.out]; exact hW)) (i := k) (by rw [HN.out]; exact hlt)
      obtain ⟨ar, cap, hcc, hin⟩ := hat k (by rw [HN.out]; exact hlt)
      have hrl : (cs.getD k []).length = n := (sqf_len HZ.out (by rw [HN.out]; exact hlt)).trans HN.out
      have hch := choose_any ar (cs.getD k []) cap s B z n D (fun k => (bsS cs n (wo s k)).1) wr hin hrl h8 hs256 hL (fun j => sqf_cost HZ.out k j) (fun j hj ht => ⟨HD.out _ (Nat.lt_trans (wo_lt ht) hsN), bsS_nonneg hnn n _, bsS_le HZ.out n _ h8⟩)
      rw [hchs] at hch
      rw [hrl] at hcc
      obtain ⟨y, hy⟩ : ∃ y, (bsS cs n s).1 = y := ⟨_, rfl⟩
      rw [hy] at hch
      have hwo := without s c hs256 (by omega)
      have hsw := szS_wo hc ht
      have hMk : M.getD k 0 = c ∧ M.drop (k + 1) = (bsS cs n (wo s c)).2 := by
        have h2 : k < M.length := by omega
        rw [hb, List.drop_eq_getElem_cons h2] at hdr
        have h3 := List.cons.inj hdr
        exact ⟨by simp [h2, h3.1], h3.2⟩
      have hcR := hN.cell hlt
      have hfR := hN.frozen k
      simp only [Nat.lt_irrefl, if_false] at hcR
      have hL' := hL.other (R := R) (by omega) k (.int .i64 c)
      have hN' := (hN.set hlt c).congr (g := fun j => if j < k + 1 then ((M.getD j 0 : Nat) : Int) else 0) (fun j hj => by
        by_cases e : j = k
        · subst e; rw [if_pos rfl, if_pos (by omega), hMk.1]
        · rw [if_neg e]
          by_cases e2 : j < k
          · rw [if_pos e2, if_pos (by omega)]
          · rw [if_neg e2, if_neg (by omega)])
      have hW' := hW.setCell (show B ≤ (⟨R, k, none⟩ : Addr).block from Nat.le_of_lt hBR) (.int .i64 c)
      have hz' : R < (wr.setCell ⟨R, k, none⟩ (.int .i64 c)).heap.size := by simpa using hz
      have hwl := wo_lt ht
      have hnew := World.cell?_setCell_same wr ⟨R, k, none⟩ (.int .i64 c) hcR
      have HH : Hid (szS n (wo s c) + (k + 1) = n ∧ M.drop (k + 1) = (bsS cs n (wo s c)).2 ∧ Lst (wr.setCell ⟨R, k, none⟩ (.int .i64 c)) B z D ∧ Nrow (wr.setCell ⟨R, k, none⟩ (.int .i64 c)) R n (fun j => if j < k + 1 then ((M.getD j 0 : Nat) : Int) else 0) ∧ Below B w (wr.setCell ⟨R, k, none⟩ (.int .i64 c)) ∧ R < (wr.setCell ⟨R, k, none⟩ (.int .i64 c)).heap.size) := ⟨by omega, hMk.2, hL', hN', hW', hz'⟩
      clear hL' hN' hW' hz' hMk hb hchs hy hdr hsw ht hat hin hnn hrl hL hN hW
      go_wp2_with (first
        | (go_at_call 20; refine hch.mono ?_; rintro e w1 ⟨rfl, rfl⟩)
        | (go_at_call 21; refine (hwo _).mono ?_; rintro e w1 ⟨rfl, rfl⟩))
      go_roundw
      case rel => exact ⟨k + 1, wo s c, by omega, by omega, rfl, by go_num, HH.out⟩
      case measure => simp [intOf]; omega
    · have : k = n := by omega
      subst this
      have HV : Hid (MatV cs (.returned (.tuple #[.slice (some ⟨R, 0, none⟩) k k, .nilIface])) w wr) := by
        have hl : (mcO cs).length = k := (mcO_len HZ.out).trans HN.out
        refine ⟨some ⟨R, 0, none⟩, k, ?_, hN.ins hl fun j hj => ?_, by omega, by rw [HB.out]; exact hW⟩
        · rw [hl, HZ.out]; rfl
        · rw [if_pos hj, mcO_ok HZ.out, HM.out]
          simp [show j < M.length by omega]
      go_wp2
      go_ret2
      exact HV.out

end Go.Proofs.YtfmhapajdnmhoafDoor
