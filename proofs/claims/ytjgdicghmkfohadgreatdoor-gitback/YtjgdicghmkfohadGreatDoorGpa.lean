/-
  Walks of git.readHead and git.readChange: the change that lines begin with.
-/
import Derived.Test.YtjgdicghmkfohadGreatDoorGmc
import Derived.Test.YtjgdicghmkfohadGreatDoorUpb
import Derived.Test.YtjgdicghmkfohadGreatDoorSls
import Derived.Test.YtjgdicghmkfohadGreatDoorDrw

namespace Go.Proofs.YtjgdicghmkfohadGreatDoor
open Go.RowKit Dist

/-- What two lines are of a change, as the program says it. -/
def rh3 (a b : List UInt8) : Int × List UInt8 × Bool :=
  if Lib.hasPrefix a gA = true then
    if Lib.hasPrefix b gB = true then (1, a.drop 6, decide (a.drop 6 = b.drop 6))
    else if b = gBn then (3, a.drop 6, true) else (0, [], false)
  else if Lib.hasPrefix b gB = true ∧ a = gAn then (2, b.drop 6, true) else (0, [], false)

theorem rh3_rhd (a b : List UInt8) : ((rh3 a b).2.2 = false → rhd a b = none) ∧ ((rh3 a b).2.2 = true → rhd a b = some ((rh3 a b).1, (rh3 a b).2.1)) := by
  unfold rh3 rhd
  by_cases h1 : Lib.hasPrefix a gA = true
  · rw [if_pos h1, if_pos h1]
    by_cases h2 : Lib.hasPrefix b gB = true
    · rw [if_pos h2, if_pos h2]
      by_cases h3 : a.drop 6 = b.drop 6
      · rw [if_pos h3]; simp [h3]
      · rw [if_neg h3]; simp [h3]
    · rw [if_neg h2, if_neg h2]
      by_cases h3 : b = gBn
      · rw [if_pos h3, if_pos h3]; simp
      · rw [if_neg h3, if_neg h3]; simp
  · rw [if_neg h1, if_neg h1]
    by_cases h3 : Lib.hasPrefix b gB = true ∧ a = gAn
    · rw [if_pos h3, if_pos h3]; simp
    · rw [if_neg h3, if_neg h3]; simp

theorem rh3_len (a b : List UInt8) : (rh3 a b).2.1.length ≤ a.length + b.length := by
  unfold rh3
  split
  · split
    · simp; omega
    · split
      · simp; omega
      · simp
  · split
    · simp; omega
    · simp

theorem trim_at {s p : List UInt8} (h : Lib.hasPrefix s p = true) : Lib.trimPrefix s p = s.drop p.length := by unfold Lib.trimPrefix; rw [if_pos h]

theorem ret_3 {a : Int} {x y : List UInt8} {p q : Bool} (h1 : x = y) (h2 : p = q) : Ending.returned (.tuple #[.int .i64 a, .string ⟨x.toArray⟩, .bool p]) = .returned (.tuple #[.int .i64 a, .string ⟨y.toArray⟩, .bool q]) := by rw [h1, h2]

set_option maxRecDepth 100000 in
set_option maxHeartbeats 1000000 in
theorem readHeadOf (a b : ByteArray) (w : World) :
    Calls Tryz.prog 57 #[.string a, .string b] w fun e w' => e = .returned (.tuple #[.int .i64 (rh3 a.data.toList b.data.toList).1, .string ⟨(rh3 a.data.toList b.data.toList).2.1.toArray⟩, .bool (rh3 a.data.toList b.data.toList).2.2]) ∧ w' = w := by
  have hp1 := Tryz.strings_CutPrefix a ⟨#[45, 45, 45, 32, 97, 47]⟩ w
  have hp2 := Tryz.strings_CutPrefix b ⟨#[43, 43, 43, 32, 98, 47]⟩ w
  rw [show (ByteArray.mk #[45, 45, 45, 32, 97, 47]).data.toList = gA from rfl] at hp1
  rw [show (ByteArray.mk #[43, 43, 43, 32, 98, 47]).data.toList = gB from rfl] at hp2
  have hta : a.toList = a.data.toList := Lib.toList_data a
  have htb : b.toList = b.data.toList := Lib.toList_data b
  obtain ⟨A, hA⟩ : ∃ A, a.data.toList = A := ⟨_, rfl⟩
  obtain ⟨B, hB⟩ : ∃ B, b.data.toList = B := ⟨_, rfl⟩
  rw [hA] at hp1 hta
  rw [hB] at hp2 htb
  rw [hA, hB]
  clear hA hB
  unfold rh3
  by_cases h1 : Lib.hasPrefix A gA = true
  · rw [if_pos h1]
    rw [h1, trim_at h1, show gA.length = 6 from rfl] at hp1
    by_cases h2 : Lib.hasPrefix B gB = true
    · rw [if_pos h2]
      rw [h2, trim_at h2, show gB.length = 6 from rfl] at hp2
      obtain ⟨x, hx⟩ : ∃ x, A.drop 6 = x := ⟨_, rfl⟩
      obtain ⟨y, hy⟩ : ∃ y, B.drop 6 = y := ⟨_, rfl⟩
      rw [hx] at hp1
      rw [hy] at hp2
      rw [hx, hy]
      have HEQ : Hid ((x == y) = decide (x = y)) := by show (x == y) = decide (x = y); rw [Bool.eq_iff_iff]; simp
      clear h1 h2 hx hy hta htb
      go_enter Tryz.func57, Tryz.ntmps57
      go_wp2_with (go_at_call 76; refine hp1.mono ?_)
      rintro e w' ⟨rfl, hw⟩
      rw [hw]
      clear hw
      clear hp1
      go_wp2_with (go_at_call 76; refine hp2.mono ?_)
      rintro e w' ⟨rfl, hw⟩
      rw [hw]
      clear hw
      go_wp2
      go_ret3
      exact ⟨ret_3 rfl HEQ.out, rfl⟩
    · have h2 : Lib.hasPrefix B gB = false := by simpa using h2
      rw [if_neg (by rw [h2]; decide)]
      rw [h2] at hp2
      obtain ⟨x, hx⟩ : ∃ x, A.drop 6 = x := ⟨_, rfl⟩
      obtain ⟨y, hy⟩ : ∃ y, Lib.trimPrefix B gB = y := ⟨_, rfl⟩
      rw [hx] at hp1
      rw [hy] at hp2
      rw [hx]
      by_cases h3 : B = gBn
      · have he : (b.toList == [43, 43, 43, 32, 47, 100, 101, 118, 47, 110, 117, 108, 108]) = true := by rw [htb, h3]; rfl
        rw [if_pos h3]
        clear h1 h2 hx hy hta htb h3
        go_enter Tryz.func57, Tryz.ntmps57
        go_wp2_with (go_at_call 76; refine hp1.mono ?_)
        rintro e w' ⟨rfl, hw⟩
        rw [hw]
        clear hw
        clear hp1
        go_wp2_with (go_at_call 76; refine hp2.mono ?_)
        rintro e w' ⟨rfl, hw⟩
        rw [hw]
        clear hw
        go_wp2
        go_ret3
        exact ⟨rfl, rfl⟩
      · have he : (b.toList == [43, 43, 43, 32, 47, 100, 101, 118, 47, 110, 117, 108, 108]) = false := by rw [htb, beq_eq_false_iff_ne]; exact h3
        rw [if_neg h3]
        clear h1 h2 hx hy hta htb h3
        go_enter Tryz.func57, Tryz.ntmps57
        go_wp2_with (go_at_call 76; refine hp1.mono ?_)
        rintro e w' ⟨rfl, hw⟩
        rw [hw]
        clear hw
        clear hp1
        go_wp2_with (go_at_call 76; refine hp2.mono ?_)
        rintro e w' ⟨rfl, hw⟩
        rw [hw]
        clear hw
        go_wp2
        go_ret3
        exact ⟨rfl, rfl⟩
  · have h1 : Lib.hasPrefix A gA = false := by simpa using h1
    rw [if_neg (by rw [h1]; decide)]
    rw [h1] at hp1
    obtain ⟨x, hx⟩ : ∃ x, Lib.trimPrefix A gA = x := ⟨_, rfl⟩
    rw [hx] at hp1
    by_cases h2 : Lib.hasPrefix B gB = true
    · rw [h2, trim_at h2, show gB.length = 6 from rfl] at hp2
      obtain ⟨y, hy⟩ : ∃ y, B.drop 6 = y := ⟨_, rfl⟩
      rw [hy] at hp2
      rw [hy]
      by_cases h3 : A = gAn
      · have he : (a.toList == [45, 45, 45, 32, 47, 100, 101, 118, 47, 110, 117, 108, 108]) = true := by rw [hta, h3]; rfl
        rw [if_pos ⟨h2, h3⟩]
        clear h1 h2 hx hy hta htb h3
        go_enter Tryz.func57, Tryz.ntmps57
        go_wp2_with (go_at_call 76; refine hp1.mono ?_)
        rintro e w' ⟨rfl, hw⟩
        rw [hw]
        clear hw
        clear hp1
        go_wp2_with (go_at_call 76; refine hp2.mono ?_)
        rintro e w' ⟨rfl, hw⟩
        rw [hw]
        clear hw
        go_wp2
        go_ret3
        exact ⟨rfl, rfl⟩
      · have he : (a.toList == [45, 45, 45, 32, 47, 100, 101, 118, 47, 110, 117, 108, 108]) = false := by rw [hta, beq_eq_false_iff_ne]; exact h3
        rw [if_neg (fun h => h3 h.2)]
        clear h1 h2 hx hy hta htb h3
        go_enter Tryz.func57, Tryz.ntmps57
        go_wp2_with (go_at_call 76; refine hp1.mono ?_)
        rintro e w' ⟨rfl, hw⟩
        rw [hw]
        clear hw
        clear hp1
        go_wp2_with (go_at_call 76; refine hp2.mono ?_)
        rintro e w' ⟨rfl, hw⟩
        rw [hw]
        clear hw
        go_wp2
        go_ret3
        exact ⟨rfl, rfl⟩
    · have h2 : Lib.hasPrefix B gB = false := by simpa using h2
      rw [h2] at hp2
      obtain ⟨y, hy⟩ : ∃ y, Lib.trimPrefix B gB = y := ⟨_, rfl⟩
      rw [hy] at hp2
      rw [if_neg (fun h => by rw [h2] at h; cases h.1)]
      clear h1 h2 hx hy hta htb
      go_enter Tryz.func57, Tryz.ntmps57
      go_wp2_with (go_at_call 76; refine hp1.mono ?_)
      rintro e w' ⟨rfl, hw⟩
      rw [hw]
      clear hw
      clear hp1
      go_wp2_with (go_at_call 76; refine hp2.mono ?_)
      rintro e w' ⟨rfl, hw⟩
      rw [hw]
      clear hw
      go_wp2
      go_ret3
      exact ⟨rfl, rfl⟩

/-- The rest of lines, where it lies. -/
theorem Strs.from {w : World} {b k : Nat} {ps : List ByteArray} (h : Strs w (some ⟨b, k, none⟩) ps) (lo : Nat) : Strs w (some ⟨b, k + lo, none⟩) (ps.drop lo) := by
  intro i hi
  rw [List.length_drop] at hi
  obtain ⟨b', off, e, h1⟩ := h (lo + i) (by omega)
  simp only [Option.some.injEq, Addr.mk.injEq, and_true] at e
  obtain ⟨rfl, rfl⟩ := e
  refine ⟨b, k + lo, rfl, ?_⟩
  have e2 : (ps.drop lo).getD i ByteArray.empty = ps.getD (lo + i) ByteArray.empty := by simp [List.getElem?_drop]
  rw [e2, Nat.add_assoc]
  exact h1

theorem run_lines_from (b k m lo : Nat) (h1 : lo ≤ m) (w : World) (l : Int) (hl : l = lo) : (Instr.slice 46 (.slice (some ⟨b, k, none⟩) m (m + 1)) (some (.int .i64 l)) none none).run Tryz.prog w = .ok (.slice (some ⟨b, k + lo, none⟩) (m - lo) (m - lo + 1)) w := by
  rw [run_slice_from _ m (m + 1) lo h1 w l hl]
  unfold sa
  rw [if_neg (by omega), show m + 1 - lo = m - lo + 1 by omega]
  have e3 : (⟨b, k, none⟩ : Addr).add lo = ⟨b, k + lo, none⟩ := by
    unfold Addr.add
    by_cases h0 : lo = 0
    · subst h0; rfl
    · simp [h0]
  rw [Option.map_some, e3]

theorem gr_put (w : World) (g i : Nat) (v : Value) : Gr w (w.setCell ⟨g, i, none⟩ v) (some g) := by
  refine ⟨by simp, fun k hk hne => ?_⟩
  simp only [World.setCell, Array.getElem?_modify]
  rw [if_neg (fun e => hne (by rw [e]))]

theorem Gr.trans {w w1 w2 : World} {r : Option Nat} (h : Gr w w1 r) (h2 : Gr w1 w2 r) : Gr w w2 r :=
  ⟨Nat.le_trans h.1 h2.1, fun k hk hne => (h2.2 k (Nat.lt_of_lt_of_le hk h.1) hne).trans (h.2 k hk hne)⟩

/-- A struct of three cells stored. -/
theorem put_three {w w0 : World} {C : Nat} {a b c x y z : Value} {t : TypeId} (h : w.heap[C]? = some (.cells #[a, b, c] t (0, 0))) (hb : Below C w0 w) :
    (((w.setCell ⟨C, 0, none⟩ x).setCell ⟨C, 1, none⟩ y).setCell ⟨C, 2, none⟩ z).heap[C]? = some (.cells #[x, y, z] t (0, 0)) ∧ Gr w (((w.setCell ⟨C, 0, none⟩ x).setCell ⟨C, 1, none⟩ y).setCell ⟨C, 2, none⟩ z) (some C) ∧ Below C w0 (((w.setCell ⟨C, 0, none⟩ x).setCell ⟨C, 1, none⟩ y).setCell ⟨C, 2, none⟩ z) := by
  refine ⟨?_, ?_, ?_⟩
  · have := blk_set (i := 2) (blk_set (i := 1) (blk_set (i := 0) h x) y) z
    simpa using this
  · exact ((gr_put _ _ _ _).trans (gr_put _ _ _ _)).trans (gr_put _ _ _ _)
  · exact ((hb.setCell (p := ⟨C, 0, none⟩) (Nat.le_refl _) _).setCell (p := ⟨C, 1, none⟩) (Nat.le_refl _) _).setCell (p := ⟨C, 2, none⟩) (Nat.le_refl _) _

theorem own_gr {w w' : World} {B : Nat} {e : TypeId} {k : Nat} {v : Value} {n : Nat} {xs : List Value} {row : Option Nat} (h : w.ownsRow B e k v n xs) (hg : Gr w w' row) (hr : ∀ r, row = some r → r < B) : w'.ownsRow B e k v n xs := by
  refine ⟨h.1, ?_⟩
  rcases h.2 with h0 | ⟨g, cap, cur, hv, hB, hh, r⟩
  · exact .inl h0
  · refine .inr ⟨g, cap, cur, hv, hB, ?_, r⟩
    have hlt : g < w.heap.size := by
      by_cases e : g < w.heap.size
      · exact e
      · rw [Array.getElem?_eq_none (by omega)] at hh; cases hh
    rw [hg.2 g hlt (fun e => by have := hr g e.symm; omega)]
    exact hh

/-- Hunks that have been read stand, whatever becomes of a block that lay there before. -/
theorem Rcl.gr {w w' : World} {B : Nat} {v : Value} {l : List Uk} {row : Option Nat} (h : Rcl w B v l) (hg : Gr w w' row) (hr : ∀ r, row = some r → r < B) : Rcl w' B v l := by
  obtain ⟨xs, h1, h2⟩ := h
  exact ⟨xs, own_gr h1 hg hr, h2.mono fun _ _ _ b1 b2 => ⟨own_gr b1 hg hr, b2⟩⟩

/-- What git.readChange answers. -/
def RcP (ls : List (List UInt8)) (B : Nat) (e : Ending) (w' : World) : Prop :=
  ∃ (wh : Int) (x : List UInt8) (va : Option Addr) (vn vc j : Nat) (ok : Bool), e = .returned (.tuple #[.agg #[.int .i64 wh, .string (bar x), .slice va vn vc], .int .i64 j, .bool ok]) ∧
    (ok = false → ls.length < 2 ∨ 1 < ls.length ∧ (rhd (ls.getD 0 []) (ls.getD 1 []) = none ∨ ∃ i st, rdm ([], 0, 0) (ls.drop 2) 0 = (i, st) ∧ ¬ (st.2.1 = 0 ∧ st.2.2 = 0))) ∧
    (ok = true → 1 < ls.length ∧ rhd (ls.getD 0 []) (ls.getD 1 []) = some (wh, x) ∧ ∃ i l, j = 2 + i ∧ 2 + i ≤ ls.length ∧ rdm ([], 0, 0) (ls.drop 2) 0 = (i, (l, 0, 0)) ∧ Rcl w' B (.slice va vn vc) l)

theorem Rcl.up {w : World} {B B' : Nat} {v : Value} {l : List Uk} (h : Rcl w B v l) (hB : B' ≤ B) : Rcl w B' v l := by
  obtain ⟨xs, h1, h2⟩ := h
  exact ⟨xs, Joins.ownsRow_le h1 hB, h2.1, fun i hi => by
    obtain ⟨vm, a1, a2, a3, a4, a5⟩ := h2.2 i hi
    exact ⟨vm, a1, a2, a3, Joins.ownsRow_le a4 hB, a5⟩⟩

set_option maxRecDepth 100000 in
set_option maxHeartbeats 2000000 in
theorem readChange (b k : Nat) (ps : List ByteArray) (w : World) (ha : Strs w (some ⟨b, k, none⟩) ps) (hg : Gs w) (hn0 : ps.length ≤ 400000) (hsz : ∀ x ∈ ps, x.size ≤ 400000) :
    Calls Tryz.prog 39 #[.slice (some ⟨b, k, none⟩) ps.length (ps.length + 1)] w fun e w' => RcP (bts ps) w.heap.size e w' ∧ Below w.heap.size w w' := by
  obtain ⟨m, hm⟩ : ∃ m, ps.length = m := ⟨_, rfl⟩
  obtain ⟨ls, hls⟩ : ∃ ls, bts ps = ls := ⟨_, rfl⟩
  have HLN : Hid (ls.length = m) := by show ls.length = m; rw [← hls, bts_length, hm]
  have hb0 := below_alloc w (.cells #[.int .i64 0, .string ⟨#[]⟩, .slice none 0 0] 40)
  have hblk := heap_alloc_new w (.cells #[.int .i64 0, .string ⟨#[]⟩, .slice none 0 0] 40)
  have HB0 : Hid (Below w.heap.size w (w.alloc (.cells #[.int .i64 0, .string ⟨#[]⟩, .slice none 0 0] 40))) := hb0
  have HBLK : Hid ((w.alloc (.cells #[.int .i64 0, .string ⟨#[]⟩, .slice none 0 0] 40)).heap[w.heap.size]? = some (.cells #[.int .i64 0, .string ⟨#[]⟩, .slice none 0 0] 40 (0, 0))) := hblk
  have HS0 : Hid (w.heap.size < (w.alloc (.cells #[.int .i64 0, .string ⟨#[]⟩, .slice none 0 0] 40)).heap.size) := by show w.heap.size < (w.alloc (.cells #[.int .i64 0, .string ⟨#[]⟩, .slice none 0 0] 40)).heap.size; simp
  have HA : Hid (Strs w (some ⟨b, k, none⟩) ps) := ha
  have HM : Hid (ps.length = m) := hm
  have HLS : Hid (bts ps = ls) := hls
  have HG : Hid (Gs w) := hg
  have HSZ : Hid (∀ x ∈ ps, x.size ≤ 400000) := hsz
  rw [hm] at hn0 ⊢
  rw [hls]
  clear ha hg hm hls hsz hb0
  by_cases h2 : m < 2
  · have h2i : (m : Int) < 2 := by omega
    clear hblk
    go_enter Tryz.func39, Tryz.ntmps39
    go_wp2
    refine bodyPost_ret (v := .tuple #[.agg #[.int .i64 0, .string ⟨#[]⟩, .slice none 0 0], .int .i64 0, .bool false]) (by simp [results, Tryz.results39, go_sem]) rfl ⟨?_, ?_⟩
    · exact ⟨0, [], none, 0, 0, 0, false, rfl, fun _ => .inl (by rw [HLN.out]; exact h2), fun h => by cases h⟩
    · exact HB0.out
  obtain ⟨n, rfl⟩ : ∃ n, m = n + 2 := ⟨m - 2, by omega⟩
  have hx0 : 0 < ps.length := by rw [HM.out]; omega
  have hx1 : 1 < ps.length := by rw [HM.out]; omega
  obtain ⟨b', off', e, hc0⟩ := HA.out 0 hx0
  simp only [Option.some.injEq, Addr.mk.injEq, and_true] at e
  obtain ⟨rfl, rfl⟩ := e
  obtain ⟨b', off', e, hc1⟩ := HA.out 1 hx1
  simp only [Option.some.injEq, Addr.mk.injEq, and_true] at e
  obtain ⟨rfl, rfl⟩ := e
  rw [Nat.add_zero] at hc0
  have e0 : (ps.getD 0 ByteArray.empty).data.toList = ls.getD 0 [] := by rw [← HLS.out]; unfold bts; simp [hx0]
  have e1 : (ps.getD 1 ByteArray.empty).data.toList = ls.getD 1 [] := by rw [← HLS.out]; unfold bts; simp [hx1]
  have z0 : (ps.getD 0 ByteArray.empty).size ≤ 400000 := HSZ.out _ (by
    have e : ps.getD 0 ByteArray.empty = ps[0] := by simp [hx0]
    rw [e]; exact List.getElem_mem _)
  have z1 : (ps.getD 1 ByteArray.empty).size ≤ 400000 := HSZ.out _ (by
    have e : ps.getD 1 ByteArray.empty = ps[1] := by simp [hx1]
    rw [e]; exact List.getElem_mem _)
  obtain ⟨p0, hp0⟩ : ∃ x, ps.getD 0 ByteArray.empty = x := ⟨_, rfl⟩
  obtain ⟨p1, hp1⟩ : ∃ x, ps.getD 1 ByteArray.empty = x := ⟨_, rfl⟩
  rw [hp0] at hc0 e0 z0
  rw [hp1] at hc1 e1 z1
  have hrh := fun w => readHeadOf p0 p1 w
  obtain ⟨r1, r2⟩ := rh3_rhd p0.data.toList p1.data.toList
  have r3 := rh3_len p0.data.toList p1.data.toList
  rw [← Lib.size_eq, ← Lib.size_eq] at r3
  rw [e0, e1] at hrh r1 r2 r3
  obtain ⟨⟨wh, x, ok⟩, hR⟩ : ∃ R, rh3 (ls.getD 0 []) (ls.getD 1 []) = R := ⟨_, rfl⟩
  rw [hR] at hrh r1 r2 r3
  simp only at hrh r1 r2 r3
  have RH1 : Hid (ok = false → rhd (ls.getD 0 []) (ls.getD 1 []) = none) := r1
  have RH2 : Hid (ok = true → rhd (ls.getD 0 []) (ls.getD 1 []) = some (wh, x)) := r2
  have hxz : (ByteArray.mk x.toArray).size ≤ 281474976710656 := by rw [Lib.size_eq]; simp; omega
  have hsl := fun w => run_lines_from b k (n + 2) 2 (by omega) w 2 rfl
  rw [show n + 2 - 2 = n by omega] at hsl
  have HDR : Hid (bts (ps.drop 2) = ls.drop 2) := by show bts (ps.drop 2) = ls.drop 2; rw [← HLS.out]; unfold bts; rw [List.map_drop]
  have HDL : Hid ((ps.drop 2).length = n) := by show (ps.drop 2).length = n; rw [List.length_drop, HM.out]; omega
  have hd0 := cell_later HB0.out hc0
  have hd1 := cell_later HB0.out hc1
  have h2i : ¬ ((n + 2 : Nat) : Int) < 2 := by omega
  clear hR hp0 hp1 e0 e1 hblk hx0 hx1 r1 r2 r3 hc0 hc1 h2 z0 z1
  go_enter Tryz.func39, Tryz.ntmps39
  go_wp2_with fail
  go_quiet ((go_at_call 57; exact Calls.quiet_of_same (hrh _)))
  go_wp2_with fail
  have hb1 : Below w.heap.size w ((w.alloc (.cells #[.int .i64 0, .string ⟨#[]⟩, .slice none 0 0] 40)).drewN nq) := below_drawn HB0.out
  have hblk1 : ((w.alloc (.cells #[.int .i64 0, .string ⟨#[]⟩, .slice none 0 0] 40)).drewN nq).heap[w.heap.size]? = some (.cells #[.int .i64 0, .string ⟨#[]⟩, .slice none 0 0] 40 (0, 0)) := blk_below (below_drawn (Below.refl _ _)) HS0.out HBLK.out
  generalize (w.alloc (.cells #[.int .i64 0, .string ⟨#[]⟩, .slice none 0 0] 40)).drewN nq = w1 at hb1 hblk1 ⊢
  have hrd := readAny (some ⟨b, k + 2, none⟩) (ps.drop 2) (n + 1) w1 ((HA.out.below hb1).from 2) (HG.out.below hb1) (by rw [HDL.out]; omega) (fun y hy => HSZ.out y (List.mem_of_mem_drop hy))
  rw [HDR.out, HDL.out] at hrd
  have HBK1 : Hid (w1.heap[w.heap.size]? = some (.cells #[.int .i64 0, .string ⟨#[]⟩, .slice none 0 0] 40 (0, 0))) := hblk1
  have HB1 : Hid (Below w.heap.size w w1) := hb1
  have hw1 : w.heap.size < w1.heap.size := by
    by_cases e : w.heap.size < w1.heap.size
    · exact e
    · rw [Array.getElem?_eq_none (by omega)] at hblk1; cases hblk1
  clear hrh hd0 hd1 HB0 HBLK hb1 hblk1
  go_wp2_with (go_at_call 58; refine hrd.mono ?_)
  rintro e w2 ⟨⟨v, j, ⟨l, b2, a2⟩, rfl, hrun, hstop, hcl⟩, hb2⟩
  obtain ⟨F, hF⟩ : ∃ F, decide (b2 = 0 ∧ a2 = 0) = F := ⟨_, rfl⟩
  rw [show decide ((l, b2, a2).2.1 = 0 ∧ (l, b2, a2).2.2 = 0) = F from hF]
  have HF0 : Hid (decide (b2 = 0 ∧ a2 = 0) = F) := hF
  obtain ⟨va, vn, vc, rfl⟩ : ∃ a m c, v = .slice a m c := by obtain ⟨xs, h1, _⟩ := hcl; exact own_slc h1
  have HRM : Hid (rdm ([], 0, 0) (ls.drop 2) 0 = (j, (l, b2, a2))) := hrun.stop hstop
  have hj : j ≤ n := by
    have := hrun.1
    rw [List.length_drop, HLN.out] at this
    omega
  have HCL : Hid (Rcl w2 w1.heap.size (.slice va vn vc) l) := hcl
  have HBK2 : Hid (w2.heap[w.heap.size]? = some (.cells #[.int .i64 0, .string ⟨#[]⟩, .slice none 0 0] 40 (0, 0))) := blk_below hb2 hw1 HBK1.out
  have HB2 : Hid (Below w.heap.size w w2) := HB1.out.trans (hb2.mono HB1.out.size)
  have hw2 : w.heap.size < w2.heap.size := Nat.lt_of_lt_of_le hw1 hb2.size
  have hcn := fun w => clone (ByteArray.mk x.toArray) w hxz
  clear hrd hrun hstop hcl hb2 HB1 HBK1 hF
  go_wp2_with (go_at_call 59; refine (hcn _).mono ?_)
  rintro e w3 ⟨rfl, hb3⟩
  have hblk3 := blk_below hb3 hw2 HBK2.out
  have HCL3 : Hid (Rcl w3 w1.heap.size (.slice va vn vc) l) := HCL.out.below hb3
  have HB3 : Hid (Below w.heap.size w w3) := HB2.out.trans (hb3.mono HB2.out.size)
  have hc0 := Lib.cell_of_heap hblk3 0
  have hc1 := Lib.cell_of_heap hblk3 1
  have hc2 := Lib.cell_of_heap hblk3 2
  have hf0 := Lib.frozen_of_heap hblk3 0
  have hf1 := Lib.frozen_of_heap hblk3 1
  have hf2 := Lib.frozen_of_heap hblk3 2
  simp at hc0 hc1 hc2
  clear hcn hb3 HB2 HCL HBK2
  obtain ⟨u1, u2, u3⟩ := put_three (x := .int .i64 wh) (y := .string ⟨x.toArray⟩) (z := .slice va vn vc) hblk3 HB3.out
  obtain ⟨v1, v2, v3⟩ := put_three (x := .int .i64 wh) (y := .string ⟨x.toArray⟩) (z := .slice va vn vc) u1 u3
  have q0 := Lib.cell_of_heap v1 0
  have q1 := Lib.cell_of_heap v1 1
  have q2 := Lib.cell_of_heap v1 2
  simp at q0 q1 q2
  have hcl5 := HCL3.out.gr (u2.trans v2) (fun r hr => by have := Option.some.inj hr; omega)
  have HC5 := hcl5.up (B' := w.heap.size) (Nat.le_of_lt hw1)
  have HV3 := v3
  clear hblk3 u1 u2 u3 v1 v2 v3 hcl5
  cases ok
  · go_wp2
    refine bodyPost_ret (v := .tuple #[.agg #[.int .i64 wh, .string ⟨x.toArray⟩, .slice va vn vc], .int .i64 (2 + (j : Int)), .bool false]) (by simp [results, Tryz.results39, go_sem, q0, q1, q2]) rfl ⟨?_, HV3⟩
    exact ⟨wh, x, va, vn, vc, 2 + j, false, by rw [Int.natCast_add]; rfl, fun _ => .inr ⟨by rw [HLN.out]; omega, .inl (RH1.out trivial)⟩, fun h => by cases h⟩
  · go_wp2
    refine bodyPost_ret (v := .tuple #[.agg #[.int .i64 wh, .string ⟨x.toArray⟩, .slice va vn vc], .int .i64 (2 + (j : Int)), .bool F]) (by simp [results, Tryz.results39, go_sem, q0, q1, q2]) rfl ⟨?_, HV3⟩
    refine ⟨wh, x, va, vn, vc, 2 + j, F, by rw [Int.natCast_add]; rfl, fun h => .inr ⟨by rw [HLN.out]; omega, .inr ⟨j, _, HRM.out, fun h2 => ?_⟩⟩, fun h => ⟨by rw [HLN.out]; omega, RH2.out trivial, j, l, rfl, by rw [HLN.out]; omega, ?_, HC5⟩⟩
    · have h3 := HF0.out
      rw [h, decide_eq_false_iff_not] at h3
      exact h3 h2
    · have h3 := HF0.out
      rw [h, decide_eq_true_iff] at h3
      rw [HRM.out, h3.1, h3.2]

end Go.Proofs.YtjgdicghmkfohadGreatDoor
