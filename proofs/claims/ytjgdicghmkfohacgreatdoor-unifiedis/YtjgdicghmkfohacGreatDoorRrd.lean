/-
  Walk of the document's own answer for lines read as hunks.
-/
import Derived.Test.YtjgdicghmkfohacGreatDoorRho
import Derived.Test.YtjgdicghmkfohacGreatDoorUrm
import Derived.Test.YtjgdicghmkfohacGreatDoorUrn
import Derived.Deep.RegionHeld3
import Derived.Deep.RegionLaw
import Derived.Deep.DrawnRows
import Derived.Deep.CutRange

namespace Go.Proofs.YtjgdicghmkfohacGreatDoor
open Go.RowKit Dist

attribute [local go_sem] Go.wp_at_zero Go.wp_at_succ

/-- Hunks that have been read; the last one by itself in block X. -/
def Rin (w : World) (B X : Nat) (v : Value) (l : List Uk) (o p : Int) (cur : List (Int × ByteArray)) : Prop :=
  ∃ (xs : List Value) (vl : Value), w.ownsRow B 42 3 v l.length xs ∧ Olds w B l xs vl.ownBlock ∧ w.ownsRow B 39 2 vl cur.length (mcells cur) ∧ w.heap[X]? = some (.cells #[.int .i64 o, .int .i64 p, vl] 42 (0, 0)) ∧ v.ownBlock ≠ some X ∧ B ≤ X

theorem Rin.below {w w' : World} {B X : Nat} {v : Value} {l : List Uk} {o p : Int} {cur : List (Int × ByteArray)} (h : Rin w B X v l o p cur) (hb : Below w.heap.size w w') : Rin w' B X v l o p cur := by
  obtain ⟨xs, vl, h1, h2, h3, h4, h5, h6⟩ := h
  refine ⟨xs, vl, own_later h1 hb, h2.below hb, own_later h3 hb, blk_below hb ?_ h4, h5, h6⟩
  by_cases e : X < w.heap.size
  · exact e
  · rw [Array.getElem?_eq_none (by omega)] at h4; cases h4

/-- A new hunk by itself. -/
theorem Rcl.inner {w : World} {B : Nat} {v : Value} {l : List Uk} {o p : Int} (h : Rcl w B v l) (hB : B ≤ w.heap.size) : Rin (w.alloc (.cells #[.int .i64 o, .int .i64 p, .slice none 0 0] 42)) B w.heap.size v l o p [] := by
  obtain ⟨xs, h1, h2⟩ := h
  have hb := below_alloc w (.cells #[.int .i64 o, .int .i64 p, .slice none 0 0] 42)
  refine ⟨xs, .slice none 0 0, own_later h1 hb, h2.below hb, World.ownsRow_nil _ _ _ _, heap_alloc_new w _, fun e => ?_, hB⟩
  have := (h1.lt _ e).2
  omega

/-- It is put behind the others. -/
theorem Rin.outer {w w' : World} {B : Nat} {v v' : Value} {l : List Uk} {o p : Int} {cur : List (Int × ByteArray)} {xs : List Value} {vl : Value} (h1 : w.ownsRow B 42 3 v l.length xs) (h2 : Olds w B l xs vl.ownBlock) (h3 : w.ownsRow B 39 2 vl cur.length (mcells cur))
    (hown : w'.ownsRow B 42 3 v' (l.length + 1) (xs ++ [.int .i64 o, .int .i64 p, vl])) (hg : w.grownBy w' v.ownBlock) : Rcl w' B v' (l ++ [(o, p, cur)]) := by
  have hr : Rop w' B v' l o p cur := ⟨xs, vl, hown, h3.kept hg (own_two h3 h1 (by decide)), h2.mono fun _ _ _ b1 b2 => ⟨b1.kept hg (own_two b1 h1 (by decide)), b2⟩⟩
  exact hr.shut

/-- A mark more in the hunk by itself. -/
theorem Rin.push {w w3 : World} {B X : Nat} {v vl vl' : Value} {l : List Uk} {o p : Int} {cur : List (Int × ByteArray)} {xs : List Value} {m : Int × ByteArray} (h1 : w.ownsRow B 42 3 v l.length xs) (h2 : Olds w B l xs vl.ownBlock) (h3 : w.ownsRow B 39 2 vl cur.length (mcells cur)) (h4 : w.heap[X]? = some (.cells #[.int .i64 o, .int .i64 p, vl] 42 (0, 0))) (h5 : v.ownBlock ≠ some X) (h6 : B ≤ X)
    (hg : w.grownBy w3 vl.ownBlock) (hown : w3.ownsRow B 39 2 vl' (cur.length + 1) (mcells cur ++ [.int .u8 m.1, .string m.2])) (hat : vl'.ownBlock = vl.ownBlock ∨ vl'.ownBlock = some w.heap.size) :
    w3.heap[X]? = some (.cells #[.int .i64 o, .int .i64 p, vl] 42 (0, 0)) ∧ Rin (w3.setCell ⟨X, 2, none⟩ vl') B X v l o p (cur ++ [m]) := by
  have hXl : X < w.heap.size := by
    by_cases e : X < w.heap.size
    · exact e
    · rw [Array.getElem?_eq_none (by omega)] at h4; cases h4
  have hX : w3.heap[X]? = some (.cells #[.int .i64 o, .int .i64 p, vl] 42 (0, 0)) := by
    rw [hg.block X hXl ?_]
    · exact h4
    · intro e
      obtain ⟨c7, f7, h7⟩ := own_type h3 e.symm
      rw [h4] at h7
      simp at h7
  refine ⟨hX, xs, vl', own_ne (h1.kept hg (own_two h1 h3 (by decide))) h5 _, ?_, ?_, ?_, h5, h6⟩
  · refine h2.mono fun vm n ms b1 b2 => ⟨own_set (b1.kept hg b2) hX (by decide) _, ?_⟩
    rcases b2 with b2 | b2
    · exact .inl b2
    · refine .inr fun e => ?_
      rcases hat with h | h
      · exact b2 (e.trans h)
      · have := (b1.lt w.heap.size (e.trans h)).2
        omega
  · rw [List.length_append, mcells_append]
    exact own_set hown hX (by decide) _
  · have := blk_set (i := 2) hX vl'
    simpa using this

theorem wnt_none (c : UInt8) (b a : Nat) : (wnt c b a).isNone = (((decide (c ≠ 32) && (decide (c ≠ 45) && decide (c ≠ 43))) || (decide (c ≠ 43) && decide (b = 0))) || (decide (c ≠ 45) && decide (a = 0))) := by
  unfold wnt
  by_cases h1 : c = 32
  · subst h1
    rw [if_pos rfl]
    by_cases hb : b = 0
    · subst hb; simp
    · by_cases ha : a = 0
      · subst ha; simp
      · rw [if_pos ⟨by omega, by omega⟩]; simp [hb, ha]
  · rw [if_neg h1]
    by_cases h2 : c = 45
    · subst h2
      rw [if_pos rfl]
      by_cases hb : b = 0
      · subst hb; simp
      · rw [if_pos (by omega)]; simp [hb]
    · rw [if_neg h2]
      by_cases h3 : c = 43
      · subst h3
        rw [if_pos rfl]
        by_cases ha : a = 0
        · subst ha; simp
        · rw [if_pos (by omega)]; simp [ha]
      · rw [if_neg h3]; simp [h1, h2, h3]

theorem wnt_some' {c : UInt8} {b a b' a' : Nat} (h : wnt c b a = some (b', a')) : (if c = 43 then b' = b else b' + 1 = b) ∧ (if c = 45 then a' = a else a' + 1 = a) := by
  unfold wnt at h
  by_cases h1 : c = 32
  · subst h1
    rw [if_pos rfl] at h
    split at h
    · simp only [Option.some.injEq, Prod.mk.injEq] at h
      rw [if_neg (by decide), if_neg (by decide)]; omega
    · cases h
  · rw [if_neg h1] at h
    by_cases h2 : c = 45
    · subst h2
      rw [if_pos rfl] at h
      split at h
      · simp only [Option.some.injEq, Prod.mk.injEq] at h
        rw [if_neg (by decide), if_pos rfl]; omega
      · cases h
    · rw [if_neg h2] at h
      by_cases h3 : c = 43
      · subst h3
        rw [if_pos rfl] at h
        split at h
        · simp only [Option.some.injEq, Prod.mk.injEq] at h
          rw [if_pos rfl, if_neg (by decide)]; omega
        · cases h
      · rw [if_neg h3] at h; cases h

theorem starts_at {s : List UInt8} (h : Lib.hasPrefix s [64, 64] = false) : hdo s = none := by
  cases hd : hdo s with
  | none => rfl
  | some x =>
    obtain ⟨a, n, b, m⟩ := x
    have e := (hdo_iff.1 hd).1
    rw [e] at h
    unfold hdl Lib.hasPrefix at h
    simp [List.isPrefixOf] at h

/-- What is answered of lines that are read from a place on. -/
def RhA (ls : List (List UInt8)) (A B : Nat) (e : Ending) (w' : World) : Prop :=
  ∃ (v : Value) (k : Nat) (ok : Bool) (st : Us), e = .returned (.tuple #[v, .int .i64 k, .bool ok]) ∧ RunA ls A k st ∧
    (ok = true → st.2.1 = 0 ∧ st.2.2 = 0 ∧ Rcl w' B v st.1 ∧ (k < ls.length → Lib.hasPrefix (ls.getD k []) [64, 64] = false)) ∧
    (ok = false → (∃ a c, v = .slice a 0 c) ∧ ((¬ (st.2.1 = 0 ∧ st.2.2 = 0) ∧ (k < ls.length → ust st (ls.getD k []) = none)) ∨ ((st.2.1 = 0 ∧ st.2.2 = 0) ∧ k < ls.length ∧ Lib.hasPrefix (ls.getD k []) [64, 64] = true ∧ hdo (ls.getD k []) = none)))

set_option maxRecDepth 100000 in
set_option maxHeartbeats 4000000 in
theorem refRead (a : Option Addr) (ps : List ByteArray) (ca A0 : Nat) (w : World) (ha : Strs w a ps) (hA0 : A0 ≤ ps.length) (hn0 : ps.length ≤ 400001) (hsz : ∀ x ∈ ps, x.size ≤ 400000) :
    Calls Tryz.prog 33 #[.slice a ps.length ca, .int .i64 A0] w fun e w' => RhA (bts ps) A0 w.heap.size e w' ∧ Below w.heap.size w w' := by
  obtain ⟨i0, hi0, hz0, hz1, hz2⟩ := info_parts Tryz.infoHunk
  obtain ⟨j0, hj0, hy0, hy1, hy2⟩ := info_parts Tryz.infoMark
  obtain ⟨n, hn⟩ : ∃ n, ps.length = n := ⟨_, rfl⟩
  have HN : Hid (ps.length = n) := hn
  rw [hn] at hn0 hA0 ⊢
  have HA : Hid (Strs w a ps) := ha
  have HSZ : Hid (∀ x ∈ ps, x.size ≤ 400000) := hsz
  obtain ⟨ls, hls⟩ : ∃ ls, bts ps = ls := ⟨_, rfl⟩
  have HLS : Hid (bts ps = ls) := hls
  have HLN : Hid (ls.length = n) := by show ls.length = n; rw [← hls, bts_length]; exact hn
  obtain ⟨B, hB⟩ : ∃ B, w.heap.size = B := ⟨_, rfl⟩
  have HB : Hid (w.heap.size = B) := hB
  rw [hls, hB]
  have HAT : Hid (∀ k, k < n → (ps.getD k ByteArray.empty).data.toList = ls.getD k [] ∧ (ps.getD k ByteArray.empty).size ≤ 400000) := fun k hk => by
    have hk' : k < ps.length := by rw [hn]; exact hk
    refine ⟨?_, hsz _ ?_⟩
    · rw [← hls]; unfold bts; simp [hk']
    · have e : ps.getD k ByteArray.empty = ps[k] := by simp [hk']
      rw [e]; exact List.getElem_mem _
  clear hn ha hsz hls hB
  have P1 : Hid (∀ (v : Value) (k : Nat) (l : List Uk) (w' : World), RunA ls A0 k (l, 0, 0) → Rcl w' B v l → (k < n → Lib.hasPrefix (ls.getD k []) [64, 64] = false) → RhA ls A0 B (.returned (.tuple #[v, .int .i64 k, .bool true])) w') := fun v k l w' h1 h2 h3 => ⟨v, k, true, _, rfl, h1, fun _ => ⟨rfl, rfl, h2, by rw [HLN.out]; exact h3⟩, fun h => by cases h⟩
  have P2 : Hid (∀ (k : Nat) (l : List Uk) (w' : World), RunA ls A0 k (l, 0, 0) → k < n → Lib.hasPrefix (ls.getD k []) [64, 64] = true → hdo (ls.getD k []) = none → RhA ls A0 B (.returned (.tuple #[.slice none 0 0, .int .i64 k, .bool false])) w') := fun k l w' h1 h2 h3 h4 => ⟨_, k, false, _, rfl, h1, (fun h => by cases h), fun _ => ⟨⟨none, 0, rfl⟩, .inr ⟨⟨rfl, rfl⟩, by rw [HLN.out]; exact h2, h3, h4⟩⟩⟩
  have P3 : Hid (∀ (k : Nat) (st : Us) (w' : World), RunA ls A0 k st → ¬ (st.2.1 = 0 ∧ st.2.2 = 0) → (k < n → ust st (ls.getD k []) = none) → RhA ls A0 B (.returned (.tuple #[.slice none 0 0, .int .i64 k, .bool false])) w') := fun k st w' h1 h2 h3 => ⟨_, k, false, st, rfl, h1, (fun h => by cases h), fun _ => ⟨⟨none, 0, rfl⟩, .inl ⟨h2, by rw [HLN.out]; exact h3⟩⟩⟩
  have HZR : Hid (RunA ls A0 A0 ([], 0, 0)) := RunA.zero ls A0 (by rw [HLN.out]; exact hA0)
  obtain ⟨P, hP⟩ : ∃ P : Ending → World → Prop, RhA ls A0 B = P := ⟨_, rfl⟩
  rw [hP] at P1 P2 P3 ⊢
  clear hP
  go_enter Tryz.func33, Tryz.ntmps33
  go_wp2
  go_loopw [1, 7] (fun i v wr => ∃ (k : Nat) (l : List Uk), k ≤ n ∧ i = .int .i64 k ∧ RunA ls A0 k (l, 0, 0) ∧ Rcl wr B v l ∧ Below B w wr) (fun i _ _ => n - (intOf i).toNat)
  case atStart => exact ⟨A0, [], hA0, rfl, HZR.out, Rcl.zero _ _, Below.refl _ _⟩
  case round =>
    obtain ⟨wa, rfl⟩ : ∃ wa, wa = wr := ⟨_, rfl⟩
    obtain ⟨k, l, hk, rfl, hrun, hcl, hbl⟩ := hrel
    have HRUN : Hid (RunA ls A0 k (l, 0, 0)) := hrun
    have HCL : Hid (Rcl wa B u7 l) := hcl
    have HBL : Hid (Below B w wa) := hbl
    have hBa : B ≤ wa.heap.size := by have := hbl.size; have := HB.out; omega
    obtain ⟨va, vn, vc, hvs⟩ : ∃ a m c, u7 = .slice a m c := by obtain ⟨xs, h1, _⟩ := hcl; exact own_slc h1
    clear hrun hcl hbl
    by_cases hlt : k < n
    case' neg =>
      obtain rfl : k = n := by omega
      clear hvs
      go_wp2
      go_ret3
      exact ⟨P1.out _ k l _ HRUN.out HCL.out (fun h => absurd h (Nat.lt_irrefl _)), HBL.out⟩
    have hlt' : (k : Int) < n := by omega
    obtain ⟨hxd, hxs⟩ := HAT.out k hlt
    obtain ⟨b0, off, rfl, hc⟩ := HA.out k (by rw [HN.out]; exact hlt)
    replace hc := cell_later (by rw [HB.out]; exact HBL.out) hc
    obtain ⟨x, hx⟩ : ∃ x, ps.getD k ByteArray.empty = x := ⟨_, rfl⟩
    rw [hx] at hxd hxs hc
    clear hx
    have hst := fun w => starts x ⟨#[64, 64]⟩ w
    rw [show (ByteArray.mk #[64, 64]).data.toList = [64, 64] from rfl, hxd] at hst
    by_cases hpx : Lib.hasPrefix (ls.getD k []) [64, 64] = true
    case' neg =>
      have hpx : Lib.hasPrefix (ls.getD k []) [64, 64] = false := by simpa using hpx
      have HPX : Hid (Lib.hasPrefix (ls.getD k []) [64, 64] = false) := hpx
      rw [hpx] at hst
      clear hpx hxd hvs
      go_wp2_with (go_at_call 60; refine (hst _).mono ?_; rintro e w' ⟨rfl, hw⟩; rw [hw]; clear hw)
      go_ret3
      exact ⟨P1.out _ k l _ HRUN.out HCL.out (fun _ => HPX.out), HBL.out⟩
    have HPX : Hid (Lib.hasPrefix (ls.getD k []) [64, 64] = true) := hpx
    rw [hpx] at hst
    have hhd := refHead x wa hxs
    rw [hxd] at hhd
    have HXD : Hid (x.data.toList = ls.getD k []) := hxd
    clear hpx hxd
    cases hd : hdo (ls.getD k []) with
    | none =>
      have HDN : Hid (hdo (ls.getD k []) = none) := hd
      have hhd' := hhd.mono (R' := fun e w' => ∃ o n p m : Nat, e = .returned (.tuple #[.agg #[.int .i64 o, .int .i64 p, .slice none 0 0], .int .i64 n, .int .i64 m, .bool false]) ∧ Below wa.heap.size wa w') fun e w' ⟨⟨o, n, p, m, _, _, _, _, he, _⟩, hb⟩ => ⟨o, n, p, m, by rw [he, hd]; rfl, hb⟩
      clear hd hhd hvs
      go_wp2_with (go_at_call 60; refine (hst _).mono ?_; rintro e w' ⟨rfl, hw⟩; rw [hw]; clear hw)
      go_wp2_with (go_at_call 61; refine hhd'.mono ?_)
      rintro e w1 ⟨o, m1, p, m2, rfl, hb1⟩
      have hb1 := HBL.out.trans (hb1.mono hBa)
      have hb1 := hb1.alloc (o := .cells #[.int .i64 o, .int .i64 p, .slice none 0 0] 42) (by have := hb1.size; have := HB.out; omega)
      clear hhd' hst hc
      go_wp2
      go_ret3
      exact ⟨P2.out k l _ HRUN.out hlt HPX.out HDN.out, hb1⟩
    | some y =>
      obtain ⟨o, b, p, m⟩ := y
      have HR2 : Hid (RunA ls A0 (k + 1) (l ++ [((o : Int), (p : Int), [])], b, m)) := HRUN.out.next (by rw [HLN.out]; exact hlt) (by
        unfold ust; rw [if_pos ⟨rfl, rfl⟩, hd]; rfl)
      have hhd' := hhd.mono (R' := fun e w' => e = .returned (.tuple #[.agg #[.int .i64 o, .int .i64 p, .slice none 0 0], .int .i64 b, .int .i64 m, .bool true]) ∧ Below wa.heap.size wa w') fun e w' ⟨⟨o', n', p', m', _, _, _, _, he, hq⟩, hb⟩ => by
        obtain ⟨rfl, rfl, rfl, rfl⟩ := hq _ _ _ _ hd
        exact ⟨by rw [he, hd]; rfl, hb⟩
      clear hd hhd
      go_wp2_with (go_at_call 60; refine (hst _).mono ?_; rintro e w' ⟨rfl, hw⟩; rw [hw]; clear hw)
      go_wp2_with (go_at_call 61; refine hhd'.mono ?_)
      rintro e w1 ⟨rfl, hb1⟩
      have hcl1 := HCL.out.below hb1
      have hb1 := HBL.out.trans (hb1.mono hBa)
      have hB1 : B ≤ w1.heap.size := by have := hb1.size; have := HB.out; omega
      have HIN : Hid (Rin (w1.alloc (.cells #[.int .i64 o, .int .i64 p, .slice none 0 0] 42)) B w1.heap.size u7 l o p []) := hcl1.inner hB1
      have HB1 : Hid (Below B w (w1.alloc (.cells #[.int .i64 o, .int .i64 p, .slice none 0 0] 42))) := hb1.alloc hB1 _
      obtain ⟨X, hX⟩ : ∃ X, w1.heap.size = X := ⟨_, rfl⟩
      have HX : Hid (w1.heap.size = X) := hX
      rw [hX] at HIN
      clear hhd' hst hc hcl1 hb1 HRUN HCL HBL HXD
      go_wp2
      clear hX
      go_loopw [1, 9, 10] (fun i bo an wr => ∃ (k2 b2 a2 : Nat) (cur : List (Int × ByteArray)), k + 1 ≤ k2 ∧ k2 ≤ n ∧ i = .int .i64 k2 ∧ bo = .int .i64 b2 ∧ an = .int .i64 a2 ∧ RunA ls A0 k2 (l ++ [((o : Int), (p : Int), cur)], b2, a2) ∧ Rin wr B X u7 l o p cur ∧ Below B w wr) (fun i _ _ _ => n - (intOf i).toNat)
      case atStart => exact ⟨k + 1, b, m, [], Nat.le_refl _, by omega, by go_num, rfl, rfl, HR2.out, HIN.out, HB1.out⟩
      case round =>
        obtain ⟨wb, rfl⟩ : ∃ wb, wb = wr := ⟨_, rfl⟩
        obtain ⟨k2, b2, a2, cur, hk1, hk2, rfl, rfl, rfl, hrun, hin, hbl⟩ := hrel
        have hok := hrun.ok
        have hb9 : b2 ≤ 999 := hok.2.1
        have ha9 : a2 ≤ 999 := hok.2.2.1
        have hcl : cur.length ≤ 400001 := by have := (hok.2.2.2.2 ((o : Int), (p : Int), cur) (by simp)).2.2.2.2; simp only at this; omega
        have hll : l.length ≤ 400001 := by have := hok.2.2.2.1; rw [List.length_append] at this; simp at this; omega
        have HRN : Hid (RunA ls A0 k2 (l ++ [((o : Int), (p : Int), cur)], b2, a2)) := hrun
        have HI2 : Hid (Rin wb B X u7 l o p cur) := hin
        have HBB : Hid (Below B w wb) := hbl
        have hBb : B ≤ wb.heap.size := by have := hbl.size; have := HB.out; omega
        clear hrun hin hbl hok HIN HB1 HR2
        by_cases hz : b2 = 0 ∧ a2 = 0
        case' pos =>
          obtain ⟨rfl, rfl⟩ := hz
          obtain ⟨xs, vl, g1, g2, g3, g4, g5, g6⟩ := HI2.out
          obtain ⟨la, ln, lc, rfl⟩ := own_slc g3
          subst hvs
          have q0 := Lib.cell_of_heap g4 0
          have q1 := Lib.cell_of_heap g4 1
          have q2 := Lib.cell_of_heap g4 2
          simp only [List.getElem?_toArray, List.getElem?_cons_zero, List.getElem?_cons_succ] at q0 q1 q2
          have hba := below_alloc wb (.cells #[.int .i64 o, .int .i64 p, .slice la ln lc] 42)
          have G1 : Hid (wb.ownsRow B 42 3 (.slice va vn vc) l.length xs) := g1
          have G2 : Hid (Olds (wb.alloc (.cells #[.int .i64 o, .int .i64 p, .slice la ln lc] 42)) B l xs (Value.slice la ln lc).ownBlock) := g2.below hba
          have G3 : Hid ((wb.alloc (.cells #[.int .i64 o, .int .i64 p, .slice la ln lc] 42)).ownsRow B 39 2 (.slice la ln lc) cur.length (mcells cur)) := own_later g3 hba
          have G1' : Hid ((wb.alloc (.cells #[.int .i64 o, .int .i64 p, .slice la ln lc] 42)).ownsRow B 42 3 (.slice va vn vc) l.length xs) := own_later g1 hba
          clear g1 g2 g3 g4 g5 hba
          go_wp2_with (at_builtin; refine wpList_append_own _ rfl _ _ 22 rfl B 42 i0 (.agg #[.int .i64 0, .int .i64 0, .slice none 0 0]) 3 40 Tryz.underlying22 hi0 hz0 hz1 hz2 rfl (by decide) _ _ _ rfl G1'.out ⟨wb.heap.size, 0, none⟩ 1 1 [.int .i64 o, .int .i64 p, .slice la ln lc] rfl rfl (cell_three_new _ _ _ _ _) (fun x hx => by simp at hx; rcases hx with rfl | rfl | rfl <;> rfl) (by unfold maxLen; omega) (by omega) (by simp; omega) ?_; intro v' w3 hown' hgrow3 hnil3)
          go_roundw
          case rel =>
            refine ⟨k2, l ++ [((o : Int), (p : Int), cur)], hk2, rfl, HRN.out, Rin.outer G1'.out G2.out G3.out hown' hgrow3, ?_⟩
            exact (HBB.out.alloc hBb _).grown hgrow3 (by simp; omega) (fun j hj => (G1.out.lt j hj).1)
          case measure => simp [intOf]; omega
        have hz1' : (0 : Int) < b2 ∨ ((¬ (0 : Int) < b2) ∧ (0 : Int) < a2) := by omega
        by_cases hkn : k2 < n
        case' neg =>
          obtain rfl : k2 = n := by omega
          have HNZ : Hid (¬ (b2 = 0 ∧ a2 = 0)) := hz
          clear hz hvs
          rcases hz1' with z1 | ⟨z1, z2⟩
          all_goals
            go_wp2
            go_ret3
            exact ⟨P3.out k2 _ _ HRN.out HNZ.out (fun h => absurd h (Nat.lt_irrefl _)), HBB.out⟩
        have hkn' : (k2 : Int) < n := by omega
        obtain ⟨hxd2, hxs2⟩ := HAT.out k2 hkn
        obtain ⟨b0', off', ea, hc2⟩ := HA.out k2 (by rw [HN.out]; exact hkn)
        simp only [Option.some.injEq, Addr.mk.injEq, and_true] at ea
        obtain ⟨rfl, rfl⟩ := ea
        replace hc2 := cell_later (by rw [HB.out]; exact HBB.out) hc2
        obtain ⟨x2, hx2⟩ : ∃ x, ps.getD k2 ByteArray.empty = x := ⟨_, rfl⟩
        rw [hx2] at hxd2 hxs2 hc2
        have HCC : Hid (w.cell? ⟨b0, off + k2, none⟩ = some (.string x2)) := by
          obtain ⟨b0', off', ea, hc3⟩ := HA.out k2 (by rw [HN.out]; exact hkn)
          simp only [Option.some.injEq, Addr.mk.injEq, and_true] at ea
          obtain ⟨rfl, rfl⟩ := ea
          rw [hx2] at hc3
          exact hc3
        clear hx2
        cases hx0 : x2.data.toList with
        | nil =>
          have HBAD : Hid (ust (l ++ [((o : Int), (p : Int), cur)], b2, a2) (ls.getD k2 []) = none) := by
            show ust (l ++ [((o : Int), (p : Int), cur)], b2, a2) (ls.getD k2 []) = none
            rw [← hxd2, hx0]; unfold ust; rw [if_neg hz]
          have HNZ : Hid (¬ (b2 = 0 ∧ a2 = 0)) := hz
          have hs0 : ((x2.size : Int) == 0) = true := by rw [Lib.size_eq, hx0]; rfl
          clear hz hvs hxd2 hx0
          rcases hz1' with z1 | ⟨z1, z2⟩
          all_goals
            go_wp2
            go_ret3
            exact ⟨P3.out k2 _ _ HRN.out HNZ.out (fun _ => HBAD.out), HBB.out⟩
        | cons c tl =>
          have hust : ust (l ++ [((o : Int), (p : Int), cur)], b2, a2) (ls.getD k2 []) = (wnt c b2 a2).map fun q => (l ++ [((o : Int), (p : Int), cur ++ [((c.toNat : Int), bar tl)])], q.1, q.2) := by
            rw [← hxd2, hx0]; unfold ust; rw [if_neg hz]; simp only [psh_snoc]
          have hs0 : ((x2.size : Int) == 0) = false := by rw [beq_eq_false_iff_ne, Lib.size_eq, hx0]; simp; omega
          obtain ⟨h0, hc0, ht0⟩ := head_byte x2 c tl hx0
          have h01 : (1 : Int) ≤ x2.size := by omega
          have HU : Hid (ust (l ++ [((o : Int), (p : Int), cur)], b2, a2) (ls.getD k2 []) = (wnt c b2 a2).map fun q => (l ++ [((o : Int), (p : Int), cur ++ [((c.toNat : Int), bar tl)])], q.1, q.2)) := hust
          have e32 : ((c.toNat : Int) != 32) = decide (c ≠ 32) := by rw [Bool.eq_iff_iff, bne_iff_ne, decide_eq_true_eq]; exact not_congr ⟨fun h => UInt8.toNat_inj.1 (by show c.toNat = 32; omega), fun h => by rw [h]; rfl⟩
          have e45 : ((c.toNat : Int) != 45) = decide (c ≠ 45) := by rw [Bool.eq_iff_iff, bne_iff_ne, decide_eq_true_eq]; exact not_congr ⟨fun h => UInt8.toNat_inj.1 (by show c.toNat = 45; omega), fun h => by rw [h]; rfl⟩
          have e43 : ((c.toNat : Int) != 43) = decide (c ≠ 43) := by rw [Bool.eq_iff_iff, bne_iff_ne, decide_eq_true_eq]; exact not_congr ⟨fun h => UInt8.toNat_inj.1 (by show c.toNat = 43; omega), fun h => by rw [h]; rfl⟩
          have E32 : Hid (((c.toNat : Int) != 32) = decide (c ≠ 32)) := e32
          have E45 : Hid (((c.toNat : Int) != 45) = decide (c ≠ 45)) := e45
          have E43 : Hid (((c.toNat : Int) != 43) = decide (c ≠ 43)) := e43
          have HNZ : Hid (¬ (b2 = 0 ∧ a2 = 0)) := hz
          clear hz hxd2 hx0 hust
          obtain ⟨z32, f32⟩ : ∃ z : Bool, decide (c ≠ 32) = z := ⟨_, rfl⟩
          obtain ⟨z45, f45⟩ : ∃ z : Bool, decide (c ≠ 45) = z := ⟨_, rfl⟩
          obtain ⟨z43, f43⟩ : ∃ z : Bool, decide (c ≠ 43) = z := ⟨_, rfl⟩
          obtain ⟨zb, fb⟩ : ∃ z : Bool, decide (b2 = 0) = z := ⟨_, rfl⟩
          obtain ⟨za, fa⟩ : ∃ z : Bool, decide (a2 = 0) = z := ⟨_, rfl⟩
          have hb0 : ((b2 : Int) == 0) = zb := by rw [← fb, Bool.eq_iff_iff, beq_iff_eq, decide_eq_true_eq]; omega
          have ha0 : ((a2 : Int) == 0) = za := by rw [← fa, Bool.eq_iff_iff, beq_iff_eq, decide_eq_true_eq]; omega
          obtain ⟨nb, hnb⟩ : ∃ z : Bool, (wnt c b2 a2).isNone = z := ⟨_, rfl⟩
          have HNB : Hid (nb = (((z32 && (z45 && z43)) || (z43 && zb)) || (z45 && za))) := by show nb = _; rw [← hnb, wnt_none, f32, f45, f43, fb, fa]
          have HNN : Hid ((wnt c b2 a2).isNone = nb) := hnb
          rw [f32] at e32
          rw [f45] at e45
          rw [f43] at e43
          have F43 : Hid (decide (c ≠ 43) = z43) := f43
          have F45 : Hid (decide (c ≠ 45) = z45) := f45
          clear hnb f32 f45 f43 fb fa E32 E45 E43
          go_upto_region 7 with fail
          go_cut [44] from 39 to 111 (fun u wx => u = .bool true ∧ wx = wb)
          case first =>
            rcases hz1' with z1 | ⟨z1, z2⟩
            · go_wp2_with fail
              go_meet
              case rel => exact ⟨rfl, rfl⟩
            · obtain rfl : b2 = 0 := by omega
              clear z1
              go_wp2_with fail
              go_meet
              case rel => exact ⟨by simp; omega, rfl⟩
          case rest =>
          obtain ⟨rfl, rfl⟩ := hcut
          obtain ⟨wb, rfl⟩ : ∃ wb, wb = wc := ⟨_, rfl⟩
          clear hz1'
          go_upto_region 11 with fail
          go_cut [88] from 39 to 111 (fun u wx => u = .bool nb ∧ wx = wb)
          case first =>
            cases z32 <;> cases z45 <;> cases z43 <;> cases zb <;> cases za
            all_goals
              first | obtain rfl : nb = true := HNB.out | obtain rfl : nb = false := HNB.out
              clear HNB HNN F43 F45
              go_wp2_with fail
              go_meet
              case rel => exact ⟨rfl, rfl⟩
          case rest =>
          obtain ⟨rfl, rfl⟩ := hcut
          obtain ⟨wb, rfl⟩ : ∃ wb, wb = wc := ⟨_, rfl⟩
          cases hw : wnt c b2 a2 with
          | none =>
            have HBAD : Hid (ust (l ++ [((o : Int), (p : Int), cur)], b2, a2) (ls.getD k2 []) = none) := by
              show ust (l ++ [((o : Int), (p : Int), cur)], b2, a2) (ls.getD k2 []) = none
              rw [HU.out, hw]; rfl
            obtain rfl : nb = true := by rw [← HNN.out, hw]; rfl
            clear hw HNN HNB hvs
            go_wp2
            go_ret3
            exact ⟨P3.out k2 _ _ HRN.out HNZ.out (fun _ => HBAD.out), HBB.out⟩
          | some q =>
          obtain ⟨b', a'⟩ := q
          obtain rfl : nb = false := by rw [← HNN.out, hw]; rfl
          obtain ⟨hb', ha'⟩ := wnt_some' hw
          have HRX : Hid (RunA ls A0 (k2 + 1) (l ++ [((o : Int), (p : Int), cur ++ [((c.toNat : Int), bar tl)])], b', a')) := HRN.out.next (by rw [HLN.out]; exact hkn) (by rw [HU.out, hw]; rfl)
          have HB' : Hid (if c = 43 then b' = b2 else b' + 1 = b2) := hb'
          have HA' : Hid (if c = 45 then a' = a2 else a' + 1 = a2) := ha'
          clear hw HNN HNB hb' ha' e32
          go_upto_if 91 with fail
          go_cut [9] from 39 to 111 (fun u wx => u = .int .i64 b' ∧ wx = wb)
          case first =>
            cases z43
            · have h3 : c = 43 := by simpa using F43.out
              have h4 := HB'.out
              rw [if_pos h3] at h4
              clear h3
              go_wp2_with fail
              go_meet
              case rel => exact ⟨by rw [h4], rfl⟩
            · have h3 : ¬ c = 43 := by simpa using F43.out
              have h4 := HB'.out
              rw [if_neg h3] at h4
              have H4 : Hid ((b' : Int) = (b2 : Int) - 1) := by show (b' : Int) = (b2 : Int) - 1; omega
              clear h3 h4
              go_wp2_with fail
              go_meet
              case rel => exact ⟨by rw [H4.out], rfl⟩
          case rest =>
          obtain ⟨rfl, rfl⟩ := hcut
          obtain ⟨wb, rfl⟩ : ∃ wb, wb = wc := ⟨_, rfl⟩
          go_upto_if 95 with fail
          go_cut [10] from 39 to 111 (fun u wx => u = .int .i64 a' ∧ wx = wb)
          case first =>
            cases z45
            · have h3 : c = 45 := by simpa using F45.out
              have h4 := HA'.out
              rw [if_pos h3] at h4
              clear h3
              go_wp2_with fail
              go_meet
              case rel => exact ⟨by rw [h4], rfl⟩
            · have h3 : ¬ c = 45 := by simpa using F45.out
              have h4 := HA'.out
              rw [if_neg h3] at h4
              have H4 : Hid ((a' : Int) = (a2 : Int) - 1) := by show (a' : Int) = (a2 : Int) - 1; omega
              clear h3 h4
              go_wp2_with fail
              go_meet
              case rel => exact ⟨by rw [H4.out], rfl⟩
          case rest =>
          obtain ⟨rfl, rfl⟩ := hcut
          obtain ⟨wb, rfl⟩ : ∃ wb, wb = wc := ⟨_, rfl⟩
          clear e43 e45 F43 F45 hb0 ha0 hs0
          obtain ⟨xs, vl, g1, g2, g3, g4, g5, g6⟩ := HI2.out
          obtain ⟨al, nl, el, rfl⟩ := own_slc g3
          have d2 := Lib.cell_of_heap g4 2
          simp only [List.getElem?_toArray, List.getElem?_cons_zero, List.getElem?_cons_succ] at d2
          have CC : Hid (∀ w2, Below B w w2 → w2.cell? ⟨b0, off + k2, none⟩ = some (.string x2)) := fun w2 h => cell_later (by rw [HB.out]; exact h) HCC.out
          have hbd : Below wb.heap.size wb wb.drew := ⟨rfl, rfl, rfl, Nat.le_refl _, fun _ _ => rfl⟩
          have hb7 : Below wb.heap.size wb (wb.alloc (.cells #[.int .u8 (c.toNat : Int), .string (bar tl)] 39)).drew := (below_alloc wb _).trans ⟨rfl, rfl, rfl, Nat.le_refl _, fun _ _ => rfl⟩
          have BD : Hid (Below B w wb.drew) := HBB.out.trans (hbd.mono hBb)
          have B7 : Hid (Below B w (wb.alloc (.cells #[.int .u8 (c.toNat : Int), .string (bar tl)] 39)).drew) := HBB.out.trans (hb7.mono hBb)
          have V1 : Hid (((wb.alloc (.cells #[.int .u8 (c.toNat : Int), .string (bar tl)] 39)).drew).ownsRow B 42 3 u7 l.length xs) := own_later g1 hb7
          have V2 : Hid (Olds ((wb.alloc (.cells #[.int .u8 (c.toNat : Int), .string (bar tl)] 39)).drew) B l xs (Value.slice al nl el).ownBlock) := g2.below hb7
          have V3 : Hid (((wb.alloc (.cells #[.int .u8 (c.toNat : Int), .string (bar tl)] 39)).drew).ownsRow B 39 2 (.slice al nl el) cur.length (mcells cur)) := own_later g3 hb7
          have hXl : X < wb.heap.size := by
            by_cases e : X < wb.heap.size
            · exact e
            · rw [Array.getElem?_eq_none (by omega)] at g4; cases g4
          have V4 : Hid (((wb.alloc (.cells #[.int .u8 (c.toNat : Int), .string (bar tl)] 39)).drew).heap[X]? = some (.cells #[.int .i64 o, .int .i64 p, .slice al nl el] 42 (0, 0))) := blk_below hb7 hXl g4
          have V5 : Hid (u7.ownBlock ≠ some X) := g5
          have HNEWS : Hid (∀ j u, ([.int .u8 (c.toNat : Int), .string (bar tl)] : List Value)[j]? = some u → ((wb.alloc (.cells #[.int .u8 (c.toNat : Int), .string (bar tl)] 39)).drew).cell? ((⟨wb.heap.size, 0, none⟩ : Addr).add j) = some u) := cell_two_new wb (.int .u8 (c.toNat : Int)) (.string (bar tl)) 39
          have HS7 : Hid (((wb.alloc (.cells #[.int .u8 (c.toNat : Int), .string (bar tl)] 39)).drew).heap.size = wb.heap.size + 1) := by show ((wb.alloc (.cells #[.int .u8 (c.toNat : Int), .string (bar tl)] 39)).drew).heap.size = wb.heap.size + 1; simp
          have D2 : Hid (wb.cell? ⟨X, 2, none⟩ = some (.slice al nl el)) := d2
          have D2' : Hid ((wb.alloc (.cells #[.int .u8 (c.toNat : Int), .string (bar tl)] 39)).cell? ⟨X, 2, none⟩ = some (.slice al nl el)) := cell_later (below_alloc wb _) d2
          clear g1 g2 g3 g4 g5 d2 hbd hb7
          go_wp2_with fail
          refine wp_region_held_drew (S := fun w' => w'.cell? ⟨b0, off + k2, none⟩ = some (.string x2)) (by kernel_rfl) ?_ (fun hHeld => ?_)
          · exact CC.out _ BD.out
          refine wpAnyH_take (i := 0) (v := ?_) rfl (by kernel_rfl) (by kernel_rfl) (by kernel_rfl) (fun _ _ _ h => h) (Or.inl ⟨by rfl, ?_⟩) (by assumption) ?_
          rotate_left
          · intro w' hSw
            (try dsimp only at hSw)
            go_simp
            try with_reducible rfl
          simp only [Act.put, List.getElem_toArray, List.getElem_cons_zero, List.setIfInBounds_toArray, List.set_cons_zero, List.set_cons_succ]
          refine wpAnyH_take (i := 2) (v := ?_) rfl (by kernel_rfl) (by kernel_rfl) (by kernel_rfl) (fun _ _ _ h => h) (Or.inl ⟨by rfl, ?_⟩) (by assumption) ?_
          rotate_left
          · intro w' hSw
            (try dsimp only at hSw)
            go_simp
            try with_reducible rfl
          simp only [Act.put, List.getElem_toArray, List.getElem_cons_zero, List.getElem_cons_succ, List.setIfInBounds_toArray, List.set_cons_zero, List.set_cons_succ]
          refine wpAnyH_take (i := 3) (v := ?_) rfl (by kernel_rfl) (by kernel_rfl) (by kernel_rfl) (fun _ _ _ h => h) (Or.inl ⟨by rfl, ?_⟩) (by assumption) ?_
          rotate_left
          · intro w' hSw
            (try dsimp only at hSw)
            go_simp
            try with_reducible rfl
          simp only [Act.put, List.getElem_toArray, List.getElem_cons_zero, List.getElem_cons_succ, List.setIfInBounds_toArray, List.set_cons_zero, List.set_cons_succ]
          refine wpAnyH_take (i := 4) (v := ?_) rfl (by kernel_rfl) (by kernel_rfl) (by kernel_rfl) (fun _ _ _ h => h) (Or.inl ⟨by rfl, ?_⟩) (by assumption) ?_
          rotate_left
          · intro w' hSw
            (try dsimp only at hSw)
            go_simp
            try with_reducible rfl
          simp only [Act.put, List.getElem_toArray, List.getElem_cons_zero, List.getElem_cons_succ, List.setIfInBounds_toArray, List.set_cons_zero, List.set_cons_succ]
          refine wpAnyH_take (i := 5) (v := ?_) rfl (by kernel_rfl) (by kernel_rfl) (by kernel_rfl) (fun _ _ _ h => h) (Or.inl ⟨by rfl, ?_⟩) (by assumption) ?_
          rotate_left
          · intro w' hSw
            (try dsimp only at hSw)
            go_simp
            try with_reducible rfl
          simp only [Act.put, List.getElem_toArray, List.getElem_cons_zero, List.getElem_cons_succ, List.setIfInBounds_toArray, List.set_cons_zero, List.set_cons_succ]
          refine wpAnyH_take (i := 6) (v := ?_) rfl (by kernel_rfl) (by kernel_rfl) (by kernel_rfl) (fun _ _ _ h => h) (Or.inl ⟨by rfl, ?_⟩) (by assumption) ?_
          rotate_left
          · intro w' hSw
            (try dsimp only at hSw)
            go_simp
            try with_reducible rfl
          simp only [Act.put, List.getElem_toArray, List.getElem_cons_zero, List.getElem_cons_succ, List.setIfInBounds_toArray, List.set_cons_zero, List.set_cons_succ]
          refine wpAnyH_take (i := 7) (v := ?_) rfl (by kernel_rfl) (by kernel_rfl) (by kernel_rfl) (fun _ _ _ h => h) (Or.inl ⟨by rfl, ?_⟩) (by assumption) ?_
          rotate_left
          · intro w' hSw
            (try dsimp only at hSw)
            go_simp
            try with_reducible rfl
          simp only [Act.put, List.getElem_toArray, List.getElem_cons_zero, List.getElem_cons_succ, List.setIfInBounds_toArray, List.set_cons_zero, List.set_cons_succ]
          refine wpAnyH_take (i := 8) (v := ?_) rfl (by kernel_rfl) (by kernel_rfl) (by kernel_rfl) (fun _ _ _ h => h) (Or.inl ⟨by rfl, ?_⟩) (by assumption) ?_
          rotate_left
          · intro w' hSw
            (try dsimp only at hSw)
            go_simp
            try with_reducible rfl
          simp only [Act.put, List.getElem_toArray, List.getElem_cons_zero, List.getElem_cons_succ, List.setIfInBounds_toArray, List.set_cons_zero, List.set_cons_succ]
          refine wpAnyH_ready (rs := [1, 9]) (by kernel_rfl) (by simp) ?_
          refine AllReadyH.cons rfl (fun K hK => ?_) (AllReadyH.cons rfl (fun K hK => ?_) AllReadyH.nil)
          case' refine_1 =>
            have d2 := D2.out
            go_simp
            refine hK.out _ _ ?_ (fun hHeld => ?_)
            · exact CC.out _ BD.out
            clear hK K
            refine wpAnyH_ready (rs := [9]) (by kernel_rfl) (by simp) ?_
            refine AllReadyH.cons rfl (fun K hK => ?_) AllReadyH.nil
            go_simp
            refine hK.out _ _ ?_ (fun hHeld => ?_)
            · exact CC.out _ B7.out
            clear hK K
          case' refine_2 =>
            go_simp
            refine hK.out _ _ ?_ (fun hHeld => ?_)
            · exact CC.out _ B7.out
            clear hK K
            have d2 := D2'.out
            refine wpAnyH_ready (rs := [1]) (by kernel_rfl) (by simp) ?_
            refine AllReadyH.cons rfl (fun K hK => ?_) AllReadyH.nil
            go_simp
            refine hK.out _ _ ?_ (fun hHeld => ?_)
            · exact CC.out _ B7.out
            clear hK K
          all_goals
            refine wpAnyH_ready (rs := [10]) (by kernel_rfl) (by simp) ?_
            refine AllReadyH.cons rfl (fun K hK => ?_) AllReadyH.nil
            refine step_append_lies _ (by rfl) _ _ 40 (by rfl) B 39 j0 (.agg #[.int .u8 0, .string ByteArray.empty]) 2 24 Tryz.underlying40 hj0 hy0 hy1 hy2 rfl (by decide) _ _ _ (by rfl) V3.out ⟨wb.heap.size, 0, none⟩ 1 1 [.int .u8 (c.toNat : Int), .string (bar tl)] (by rfl) rfl HNEWS.out (fun x hx => by simp at hx; rcases hx with rfl | rfl <;> rfl) (by decide) (by unfold maxLen; omega) (by omega) (by rw [HS7.out]; omega) (wb.heap.size + 1) HS7.out ?_; intro g8 c8 w8 hown8 hgrow8 hat8 hlt8
            have B8 : Hid (Below B w w8) := B7.out.grown hgrow8 (by rw [HS7.out]; omega) (fun j hj => (V3.out.lt j hj).1)
            refine hK.out _ _ ?_ (fun hHeld => ?_)
            · exact CC.out _ B8.out
            clear hK K
            simp only [Act.put, List.getElem_toArray, List.getElem_cons_zero, List.getElem_cons_succ, List.setIfInBounds_toArray, List.set_cons_zero, List.set_cons_succ]
            refine wpAnyH_take (i := 11) (v := ?_) rfl (by kernel_rfl) (by kernel_rfl) (by kernel_rfl) (fun _ _ _ h => h) (Or.inl ⟨by rfl, ?_⟩) (by assumption) ?_
            rotate_left
            · intro w' hSw
              (try dsimp only at hSw)
              go_simp
              try with_reducible rfl
            simp only [Act.put, List.getElem_toArray, List.getElem_cons_zero, List.getElem_cons_succ, List.setIfInBounds_toArray, List.set_cons_zero, List.set_cons_succ]
            obtain ⟨hX8, hrin⟩ := Rin.push (m := ((c.toNat : Int), bar tl)) V1.out V2.out V3.out V4.out V5.out g6 hgrow8 hown8 (by rcases hat8 with h | h; exact .inl (by rw [h]; rfl); exact .inr (by rw [h, HS7.out]; rfl))
            have q2 := Lib.cell_of_heap hX8 2
            simp only [List.getElem?_toArray, List.getElem?_cons_zero, List.getElem?_cons_succ] at q2
            have fq := Lib.frozen_of_heap hX8 2
            have B9 : Hid (Below B w (w8.setCell ⟨X, 2, none⟩ (.slice (some ⟨g8, 0, none⟩) (cur.length + 1) c8))) := B8.out.setCell (show B ≤ X from g6) _
            have HRIN : Hid (Rin (w8.setCell ⟨X, 2, none⟩ (.slice (some ⟨g8, 0, none⟩) (cur.length + 1) c8)) B X u7 l o p (cur ++ [((c.toNat : Int), bar tl)])) := hrin
            clear hrin hX8
            refine wpAnyH_ready (rs := [12]) (by kernel_rfl) (by simp) ?_
            refine AllReadyH.cons rfl (fun K hK => ?_) AllReadyH.nil
            go_simp
            refine hK.out _ _ ?_ (fun hHeld => ?_)
            · exact CC.out _ B9.out
            clear hK K
            refine wpAnyH_done (by kernel_rfl) ?_ _
            generalize w8.setCell ⟨X, 2, none⟩ (.slice (some ⟨g8, 0, none⟩) (cur.length + 1) c8) = W9 at HRIN B9 ⊢
            clear q2 fq hown8 hgrow8 hat8 hlt8 hHeld d2 hc2
            go_wp2
            go_roundw
            case rel => exact ⟨k2 + 1, b', a', cur ++ [((c.toNat : Int), bar tl)], by omega, by omega, by go_num, rfl, rfl, HRX.out, HRIN.out, B9.out⟩
            case measure => simp [intOf]; omega

end Go.Proofs.YtjgdicghmkfohacGreatDoor
