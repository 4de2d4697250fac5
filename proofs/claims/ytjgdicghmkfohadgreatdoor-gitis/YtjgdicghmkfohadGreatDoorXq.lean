/-
  Walks of git.readHead and git.readChange: the change that lines begin with. Walks of git.read and git.Parse: a text as a patch.
-/
import Derived.Test.YtjgdicghmkfohadGreatDoorGmc
import Derived.Test.YtjgdicghmkfohadGreatDoorXw
import Derived.Test.YtjgdicghmkfohadGreatDoorSls
import Derived.Test.YtjgdicghmkfohadGreatDoorDrw
import Derived.Test.YtjgdicghmkfohadGreatDoorPck
namespace Go.Proofs.YtjgdicghmkfohadGreatDoor
open Go.RowKit Dist

/-- What two lines are of a change, as the program says it. -/
def rh3 (a b : List UInt8) : Int × List UInt8 × Bool :=
  if Lib.hasPrefix a gA = true then
    if Lib.hasPrefix b gB = true then (1, a.drop 6, decide (a.drop 6 = b.drop 6))
    else if b = gBn then (3, a.drop 6, true) else (0, [], false)
  else if Lib.hasPrefix b gB = true ∧ a = gAn then (2, b.drop 6, true) else (0, [], false)

theorem rh3_rhd (a b : List UInt8) : ((rh3 a b).2.2 = false → rhd a b = none) ∧ ((rh3 a b).2.2 = true → rhd a b = some ((rh3 a b).1, (rh3 a b).2.1)) := by
  unfold rh3 rhd
  by_cases h1 : Lib.hasPrefix a gA = true
  · rw [if_pos h1, if_pos h1]
    by_cases h2 : Lib.hasPrefix b gB = true
    · rw [if_pos h2, if_pos h2]
      by_cases h3 : a.drop 6 = b.drop 6
      · rw [if_pos h3]; simp [h3]
      · rw [if_neg h3]; simp [h3]
    · rw [if_neg h2, if_neg h2]
      by_cases h3 : b = gBn
      · rw [if_pos h3, if_pos h3]; simp
      · rw [if_neg h3, if_neg h3]; simp
  · rw [if_neg h1, if_neg h1]
    by_cases h3 : Lib.hasPrefix b gB = true ∧ a = gAn
    · rw [if_pos h3, if_pos h3]; simp
    · rw [if_neg h3, if_neg h3]; simp

theorem rh3_len (a b : List UInt8) : (rh3 a b).2.1.length ≤ a.length + b.length := by
  unfold rh3
  split
  · split
    · simp; omega
    · split
      · simp; omega
      · simp
  · split
    · simp; omega
    · simp

theorem trim_at {s p : List UInt8} (h : Lib.hasPrefix s p = true) : Lib.trimPrefix s p = s.drop p.length := by unfold Lib.trimPrefix; rw [if_pos h]

theorem ret_3 {a : Int} {x y : List UInt8} {p q : Bool} (h1 : x = y) (h2 : p = q) : Ending.returned (.tuple #[.int .i64 a, .string ⟨x.toArray⟩, .bool p]) = .returned (.tuple #[.int .i64 a, .string ⟨y.toArray⟩, .bool q]) := by rw [h1, h2]

set_option maxRecDepth 100000 in
set_option maxHeartbeats 1000000 in
theorem readHeadOf (a b : ByteArray) (w : World) :
    Calls Tryz.prog 57 #[.string a, .string b] w fun e w' => e = .returned (.tuple #[.int .i64 (rh3 a.data.toList b.data.toList).1, .string ⟨(rh3 a.data.toList b.data.toList).2.1.toArray⟩, .bool (rh3 a.data.toList b.data.toList).2.2]) ∧ w' = w := by
  have hp1 := Tryz.strings_CutPrefix a ⟨#[45, 45, 45, 32, 97, 47]⟩ w
  have hp2 := Tryz.strings_CutPrefix b ⟨#[43, 43, 43, 32, 98, 47]⟩ w
  rw [show (ByteArray.mk #[45, 45, 45, 32, 97, 47]).data.toList = gA from rfl] at hp1
  rw [show (ByteArray.mk #[43, 43, 43, 32, 98, 47]).data.toList = gB from rfl] at hp2
  have hta : a.toList = a.data.toList := Lib.toList_data a
  have htb : b.toList = b.data.toList := Lib.toList_data b
  obtain ⟨A, hA⟩ : ∃ A, a.data.toList = A := ⟨_, rfl⟩
  obtain ⟨B, hB⟩ : ∃ B, b.data.toList = B := ⟨_, rfl⟩
  rw [hA] at hp1 hta
  rw [hB] at hp2 htb
  rw [hA, hB]
  clear hA hB
  unfold rh3
  by_cases h1 : Lib.hasPrefix A gA = true
  · rw [if_pos h1]
    rw [h1, trim_at h1, show gA.length = 6 from rfl] at hp1
    by_cases h2 : Lib.hasPrefix B gB = true
    · rw [if_pos h2]
      rw [h2, trim_at h2, show gB.length = 6 from rfl] at hp2
      obtain ⟨x, hx⟩ : ∃ x, A.drop 6 = x := ⟨_, rfl⟩
      obtain ⟨y, hy⟩ : ∃ y, B.drop 6 = y := ⟨_, rfl⟩
      rw [hx] at hp1
      rw [hy] at hp2
      rw [hx, hy]
      have HEQ : Hid ((x == y) = decide (x = y)) := by show (x == y) = decide (x = y); rw [Bool.eq_iff_iff]; simp
      clear h1 h2 hx hy hta htb
      go_enter Tryz.func57, Tryz.ntmps57
      go_wp2_with (go_at_call 76; refine hp1.mono ?_)
      rintro e w' ⟨rfl, hw⟩
      rw [hw]
      clear hw
      clear hp1
      go_wp2_with (go_at_call 76; refine hp2.mono ?_)
      rintro e w' ⟨rfl, hw⟩
      rw [hw]
      clear hw
      go_wp2
      go_ret3
      exact ⟨ret_3 rfl HEQ.out, rfl⟩
    · have h2 : Lib.hasPrefix B gB = false := by simpa using h2
      rw [if_neg (by rw [h2]; decide)]
      rw [h2] at hp2
      obtain ⟨x, hx⟩ : ∃ x, A.drop 6 = x := ⟨_, rfl⟩
      obtain ⟨y, hy⟩ : ∃ y, Lib.trimPrefix B gB = y := ⟨_, rfl⟩
      rw [hx] at hp1
      rw [hy] at hp2
      rw [hx]
      by_cases h3 : B = gBn
      · have he : (b.toList == [43, 43, 43, 32, 47, 100, 101, 118, 47, 110, 117, 108, 108]) = true := by rw [htb, h3]; rfl
        rw [if_pos h3]
        clear h1 h2 hx hy hta htb h3
        go_enter Tryz.func57, Tryz.ntmps57
        go_wp2_with (go_at_call 76; refine hp1.mono ?_)
        rintro e w' ⟨rfl, hw⟩
        rw [hw]
        clear hw
        clear hp1
        go_wp2_with (go_at_call 76; refine hp2.mono ?_)
        rintro e w' ⟨rfl, hw⟩
        rw [hw]
        clear hw
        go_wp2
        go_ret3
        exact ⟨rfl, rfl⟩
      · have he : (b.toList == [43, 43, 43, 32, 47, 100, 101, 118, 47, 110, 117, 108, 108]) = false := by rw [htb, beq_eq_false_iff_ne]; exact h3
        rw [if_neg h3]
        clear h1 h2 hx hy hta htb h3
        go_enter Tryz.func57, Tryz.ntmps57
        go_wp2_with (go_at_call 76; refine hp1.mono ?_)
        rintro e w' ⟨rfl, hw⟩
        rw [hw]
        clear hw
        clear hp1
        go_wp2_with (go_at_call 76; refine hp2.mono ?_)
        rintro e w' ⟨rfl, hw⟩
        rw [hw]
        clear hw
        go_wp2
        go_ret3
        exact ⟨rfl, rfl⟩
  · have h1 : Lib.hasPrefix A gA = false := by simpa using h1
    rw [if_neg (by rw [h1]; decide)]
    rw [h1] at hp1
    obtain ⟨x, hx⟩ : ∃ x, Lib.trimPrefix A gA = x := ⟨_, rfl⟩
    rw [hx] at hp1
    by_cases h2 : Lib.hasPrefix B gB = true
    · rw [h2, trim_at h2, show gB.length = 6 from rfl] at hp2
      obtain ⟨y, hy⟩ : ∃ y, B.drop 6 = y := ⟨_, rfl⟩
      rw [hy] at hp2
      rw [hy]
      by_cases h3 : A = gAn
      · have he : (a.toList == [45, 45, 45, 32, 47, 100, 101, 118, 47, 110, 117, 108, 108]) = true := by rw [hta, h3]; rfl
        rw [if_pos ⟨h2, h3⟩]
        clear h1 h2 hx hy hta htb h3
        go_enter Tryz.func57, Tryz.ntmps57
        go_wp2_with (go_at_call 76; refine hp1.mono ?_)
        rintro e w' ⟨rfl, hw⟩
        rw [hw]
        clear hw
        clear hp1
        go_wp2_with (go_at_call 76; refine hp2.mono ?_)
        rintro e w' ⟨rfl, hw⟩
        rw [hw]
        clear hw
        go_wp2
        go_ret3
        exact ⟨rfl, rfl⟩
      · have he : (a.toList == [45, 45, 45, 32, 47, 100, 101, 118, 47, 110, 117, 108, 108]) = false := by rw [hta, beq_eq_false_iff_ne]; exact h3
        rw [if_neg (fun h => h3 h.2)]
        clear h1 h2 hx hy hta htb h3
        go_enter Tryz.func57, Tryz.ntmps57
        go_wp2_with (go_at_call 76; refine hp1.mono ?_)
        rintro e w' ⟨rfl, hw⟩
        rw [hw]
        clear hw
        clear hp1
        go_wp2_with (go_at_call 76; refine hp2.mono ?_)
        rintro e w' ⟨rfl, hw⟩
        rw [hw]
        clear hw
        go_wp2
        go_ret3
        exact ⟨rfl, rfl⟩
    · have h2 : Lib.hasPrefix B gB = false := by simpa using h2
      rw [h2] at hp2
      obtain ⟨y, hy⟩ : ∃ y, Lib.trimPrefix B gB = y := ⟨_, rfl⟩
      rw [hy] at hp2
      rw [if_neg (fun h => by rw [h2] at h; cases h.1)]
      clear h1 h2 hx hy hta htb
      go_enter Tryz.func57, Tryz.ntmps57
      go_wp2_with (go_at_call 76; refine hp1.mono ?_)
      rintro e w' ⟨rfl, hw⟩
      rw [hw]
      clear hw
      clear hp1
      go_wp2_with (go_at_call 76; refine hp2.mono ?_)
      rintro e w' ⟨rfl, hw⟩
      rw [hw]
      clear hw
      go_wp2
      go_ret3
      exact ⟨rfl, rfl⟩

/-- The rest of lines, where it lies. -/
theorem Strs.from {w : World} {b k : Nat} {ps : List ByteArray} (h : Strs w (some ⟨b, k, none⟩) ps) (lo : Nat) : Strs w (some ⟨b, k + lo, none⟩) (ps.drop lo) := by
  intro i hi
  rw [List.length_drop] at hi
  obtain ⟨b', off, e, h1⟩ := h (lo + i) (by omega)
  simp only [Option.some.injEq, Addr.mk.injEq, and_true] at e
  obtain ⟨rfl, rfl⟩ := e
  refine ⟨b, k + lo, rfl, ?_⟩
  have e2 : (ps.drop lo).getD i ByteArray.empty = ps.getD (lo + i) ByteArray.empty := by simp [List.getElem?_drop]
  rw [e2, Nat.add_assoc]
  exact h1

theorem run_lines_from (b k m lo : Nat) (h1 : lo ≤ m) (w : World) (l : Int) (hl : l = lo) : (Instr.slice 46 (.slice (some ⟨b, k, none⟩) m (m + 1)) (some (.int .i64 l)) none none).run Tryz.prog w = .ok (.slice (some ⟨b, k + lo, none⟩) (m - lo) (m - lo + 1)) w := by
  rw [run_slice_from _ m (m + 1) lo h1 w l hl]
  unfold sa
  rw [if_neg (by omega), show m + 1 - lo = m - lo + 1 by omega]
  have e3 : (⟨b, k, none⟩ : Addr).add lo = ⟨b, k + lo, none⟩ := by
    unfold Addr.add
    by_cases h0 : lo = 0
    · subst h0; rfl
    · simp [h0]
  rw [Option.map_some, e3]

theorem gr_put (w : World) (g i : Nat) (v : Value) : Gr w (w.setCell ⟨g, i, none⟩ v) (some g) := by
  refine ⟨by simp, fun k hk hne => ?_⟩
  simp only [World.setCell, Array.getElem?_modify]
  rw [if_neg (fun e => hne (by rw [e]))]

theorem Gr.trans {w w1 w2 : World} {r : Option Nat} (h : Gr w w1 r) (h2 : Gr w1 w2 r) : Gr w w2 r :=
  ⟨Nat.le_trans h.1 h2.1, fun k hk hne => (h2.2 k (Nat.lt_of_lt_of_le hk h.1) hne).trans (h.2 k hk hne)⟩

/-- A struct of three cells stored. -/
theorem put_three {w w0 : World} {C : Nat} {a b c x y z : Value} {t : TypeId} (h : w.heap[C]? = some (.cells #[a, b, c] t (0, 0))) (hb : Below C w0 w) :
    (((w.setCell ⟨C, 0, none⟩ x).setCell ⟨C, 1, none⟩ y).setCell ⟨C, 2, none⟩ z).heap[C]? = some (.cells #[x, y, z] t (0, 0)) ∧ Gr w (((w.setCell ⟨C, 0, none⟩ x).setCell ⟨C, 1, none⟩ y).setCell ⟨C, 2, none⟩ z) (some C) ∧ Below C w0 (((w.setCell ⟨C, 0, none⟩ x).setCell ⟨C, 1, none⟩ y).setCell ⟨C, 2, none⟩ z) := by
  refine ⟨?_, ?_, ?_⟩
  · have := blk_set (i := 2) (blk_set (i := 1) (blk_set (i := 0) h x) y) z
    simpa using this
  · exact ((gr_put _ _ _ _).trans (gr_put _ _ _ _)).trans (gr_put _ _ _ _)
  · exact ((hb.setCell (p := ⟨C, 0, none⟩) (Nat.le_refl _) _).setCell (p := ⟨C, 1, none⟩) (Nat.le_refl _) _).setCell (p := ⟨C, 2, none⟩) (Nat.le_refl _) _

theorem own_gr {w w' : World} {B : Nat} {e : TypeId} {k : Nat} {v : Value} {n : Nat} {xs : List Value} {row : Option Nat} (h : w.ownsRow B e k v n xs) (hg : Gr w w' row) (hr : ∀ r, row = some r → r < B) : w'.ownsRow B e k v n xs := by
  refine ⟨h.1, ?_⟩
  rcases h.2 with h0 | ⟨g, cap, cur, hv, hB, hh, r⟩
  · exact .inl h0
  · refine .inr ⟨g, cap, cur, hv, hB, ?_, r⟩
    have hlt : g < w.heap.size := by
      by_cases e : g < w.heap.size
      · exact e
      · rw [Array.getElem?_eq_none (by omega)] at hh; cases hh
    rw [hg.2 g hlt (fun e => by have := hr g e.symm; omega)]
    exact hh

/-- Hunks that have been read stand, whatever becomes of a block that lay there before. -/
theorem Rcl.gr {w w' : World} {B : Nat} {v : Value} {l : List Uk} {row : Option Nat} (h : Rcl w B v l) (hg : Gr w w' row) (hr : ∀ r, row = some r → r < B) : Rcl w' B v l := by
  obtain ⟨xs, h1, h2⟩ := h
  exact ⟨xs, own_gr h1 hg hr, h2.mono fun _ _ _ b1 b2 => ⟨own_gr b1 hg hr, b2⟩⟩

/-- What git.readChange answers. -/
def RcP (ls : List (List UInt8)) (B : Nat) (e : Ending) (w' : World) : Prop :=
  ∃ (wh : Int) (x : List UInt8) (va : Option Addr) (vn vc j : Nat) (ok : Bool), e = .returned (.tuple #[.agg #[.int .i64 wh, .string (bar x), .slice va vn vc], .int .i64 j, .bool ok]) ∧
    (ok = false → ls.length < 2 ∨ 1 < ls.length ∧ (rhd (ls.getD 0 []) (ls.getD 1 []) = none ∨ ∃ i st, rdm ([], 0, 0) (ls.drop 2) 0 = (i, st) ∧ ¬ (st.2.1 = 0 ∧ st.2.2 = 0))) ∧
    (ok = true → 1 < ls.length ∧ rhd (ls.getD 0 []) (ls.getD 1 []) = some (wh, x) ∧ ∃ i l, j = 2 + i ∧ 2 + i ≤ ls.length ∧ rdm ([], 0, 0) (ls.drop 2) 0 = (i, (l, 0, 0)) ∧ Rcl w' B (.slice va vn vc) l)

theorem Rcl.up {w : World} {B B' : Nat} {v : Value} {l : List Uk} (h : Rcl w B v l) (hB : B' ≤ B) : Rcl w B' v l := by
  obtain ⟨xs, h1, h2⟩ := h
  exact ⟨xs, Joins.ownsRow_le h1 hB, h2.1, fun i hi => by
    obtain ⟨vm, a1, a2, a3, a4, a5⟩ := h2.2 i hi
    exact ⟨vm, a1, a2, a3, Joins.ownsRow_le a4 hB, a5⟩⟩

set_option maxRecDepth 100000 in
set_option maxHeartbeats 2000000 in
theorem readChange (b k : Nat) (ps : List ByteArray) (w : World) (ha : Strs w (some ⟨b, k, none⟩) ps) (hg : Gs w) (hn0 : ps.length ≤ 400000) (hsz : ∀ x ∈ ps, x.size ≤ 400000) :
    Calls Tryz.prog 39 #[.slice (some ⟨b, k, none⟩) ps.length (ps.length + 1)] w fun e w' => RcP (bts ps) w.heap.size e w' ∧ Below w.heap.size w w' := by
  obtain ⟨m, hm⟩ : ∃ m, ps.length = m := ⟨_, rfl⟩
  obtain ⟨ls, hls⟩ : ∃ ls, bts ps = ls := ⟨_, rfl⟩
  have HLN : Hid (ls.length = m) := by show ls.length = m; rw [← hls, bts_length, hm]
  have hb0 := below_alloc w (.cells #[.int .i64 0, .string ⟨#[]⟩, .slice none 0 0] 40)
  have hblk := heap_alloc_new w (.cells #[.int .i64 0, .string ⟨#[]⟩, .slice none 0 0] 40)
  have HB0 : Hid (Below w.heap.size w (w.alloc (.cells #[.int .i64 0, .string ⟨#[]⟩, .slice none 0 0] 40))) := hb0
  have HBLK : Hid ((w.alloc (.cells #[.int .i64 0, .string ⟨#[]⟩, .slice none 0 0] 40)).heap[w.heap.size]? = some (.cells #[.int .i64 0, .string ⟨#[]⟩, .slice none 0 0] 40 (0, 0))) := hblk
  have HS0 : Hid (w.heap.size < (w.alloc (.cells #[.int .i64 0, .string ⟨#[]⟩, .slice none 0 0] 40)).heap.size) := by show w.heap.size < (w.alloc (.cells #[.int .i64 0, .string ⟨#[]⟩, .slice none 0 0] 40)).heap.size; simp
  have HA : Hid (Strs w (some ⟨b, k, none⟩) ps) := ha
  have HM : Hid (ps.length = m) := hm
  have HLS : Hid (bts ps = ls) := hls
  have HG : Hid (Gs w) := hg
  have HSZ : Hid (∀ x ∈ ps, x.size ≤ 400000) := hsz
  rw [hm] at hn0 ⊢
  rw [hls]
  clear ha hg hm hls hsz hb0
  by_cases h2 : m < 2
  · have h2i : (m : Int) < 2 := by omega
    clear hblk
    go_enter Tryz.func39, Tryz.ntmps39
    go_wp2
    refine bodyPost_ret (v := .tuple #[.agg #[.int .i64 0, .string ⟨#[]⟩, .slice none 0 0], .int .i64 0, .bool false]) (by simp [results, Tryz.results39, go_sem]) rfl ⟨?_, ?_⟩
    · exact ⟨0, [], none, 0, 0, 0, false, rfl, fun _ => .inl (by rw [HLN.out]; exact h2), fun h => by cases h⟩
    · exact HB0.out
  obtain ⟨n, rfl⟩ : ∃ n, m = n + 2 := ⟨m - 2, by omega⟩
  have hx0 : 0 < ps.length := by rw [HM.out]; omega
  have hx1 : 1 < ps.length := by rw [HM.out]; omega
  obtain ⟨b', off', e, hc0⟩ := HA.out 0 hx0
  simp only [Option.some.injEq, Addr.mk.injEq, and_true] at e
  obtain ⟨rfl, rfl⟩ := e
  obtain ⟨b', off', e, hc1⟩ := HA.out 1 hx1
  simp only [Option.some.injEq, Addr.mk.injEq, and_true] at e
  obtain ⟨rfl, rfl⟩ := e
  rw [Nat.add_zero] at hc0
  have e0 : (ps.getD 0 ByteArray.empty).data.toList = ls.getD 0 [] := by rw [← HLS.out]; unfold bts; simp [hx0]
  have e1 : (ps.getD 1 ByteArray.empty).data.toList = ls.getD 1 [] := by rw [← HLS.out]; unfold bts; simp [hx1]
  have z0 : (ps.getD 0 ByteArray.empty).size ≤ 400000 := HSZ.out _ (by
    have e : ps.getD 0 ByteArray.empty = ps[0] := by simp [hx0]
    rw [e]; exact List.getElem_mem _)
  have z1 : (ps.getD 1 ByteArray.empty).size ≤ 400000 := HSZ.out _ (by
    have e : ps.getD 1 ByteArray.empty = ps[1] := by simp [hx1]
    rw [e]; exact List.getElem_mem _)
  obtain ⟨p0, hp0⟩ : ∃ x, ps.getD 0 ByteArray.empty = x := ⟨_, rfl⟩
  obtain ⟨p1, hp1⟩ : ∃ x, ps.getD 1 ByteArray.empty = x := ⟨_, rfl⟩
  rw [hp0] at hc0 e0 z0
  rw [hp1] at hc1 e1 z1
  have hrh := fun w => readHeadOf p0 p1 w
  obtain ⟨r1, r2⟩ := rh3_rhd p0.data.toList p1.data.toList
  have r3 := rh3_len p0.data.toList p1.data.toList
  rw [← Lib.size_eq, ← Lib.size_eq] at r3
  rw [e0, e1] at hrh r1 r2 r3
  obtain ⟨⟨wh, x, ok⟩, hR⟩ : ∃ R, rh3 (ls.getD 0 []) (ls.getD 1 []) = R := ⟨_, rfl⟩
  rw [hR] at hrh r1 r2 r3
  simp only at hrh r1 r2 r3
  have RH1 : Hid (ok = false → rhd (ls.getD 0 []) (ls.getD 1 []) = none) := r1
  have RH2 : Hid (ok = true → rhd (ls.getD 0 []) (ls.getD 1 []) = some (wh, x)) := r2
  have hxz : (ByteArray.mk x.toArray).size ≤ 281474976710656 := by rw [Lib.size_eq]; simp; omega
  have hsl := fun w => run_lines_from b k (n + 2) 2 (by omega) w 2 rfl
  rw [show n + 2 - 2 = n by omega] at hsl
  have HDR : Hid (bts (ps.drop 2) = ls.drop 2) := by show bts (ps.drop 2) = ls.drop 2; rw [← HLS.out]; unfold bts; rw [List.map_drop]
  have HDL : Hid ((ps.drop 2).length = n) := by show (ps.drop 2).length = n; rw [List.length_drop, HM.out]; omega
  have hd0 := cell_later HB0.out hc0
  have hd1 := cell_later HB0.out hc1
  have h2i : ¬ ((n + 2 : Nat) : Int) < 2 := by omega
  clear hR hp0 hp1 e0 e1 hblk hx0 hx1 r1 r2 r3 hc0 hc1 h2 z0 z1
  go_enter Tryz.func39, Tryz.ntmps39
  go_wp2_with fail
  go_quiet ((go_at_call 57; exact Calls.quiet_of_same (hrh _)))
  go_wp2_with fail
  have hb1 : Below w.heap.size w ((w.alloc (.cells #[.int .i64 0, .string ⟨#[]⟩, .slice none 0 0] 40)).drewN nq) := below_drawn HB0.out
  have hblk1 : ((w.alloc (.cells #[.int .i64 0, .string ⟨#[]⟩, .slice none 0 0] 40)).drewN nq).heap[w.heap.size]? = some (.cells #[.int .i64 0, .string ⟨#[]⟩, .slice none 0 0] 40 (0, 0)) := blk_below (below_drawn (Below.refl _ _)) HS0.out HBLK.out
  generalize (w.alloc (.cells #[.int .i64 0, .string ⟨#[]⟩, .slice none 0 0] 40)).drewN nq = w1 at hb1 hblk1 ⊢
  have hrd := readAny (some ⟨b, k + 2, none⟩) (ps.drop 2) (n + 1) w1 ((HA.out.below hb1).from 2) (HG.out.below hb1) (by rw [HDL.out]; omega) (fun y hy => HSZ.out y (List.mem_of_mem_drop hy))
  rw [HDR.out, HDL.out] at hrd
  have HBK1 : Hid (w1.heap[w.heap.size]? = some (.cells #[.int .i64 0, .string ⟨#[]⟩, .slice none 0 0] 40 (0, 0))) := hblk1
  have HB1 : Hid (Below w.heap.size w w1) := hb1
  have hw1 : w.heap.size < w1.heap.size := by
    by_cases e : w.heap.size < w1.heap.size
    · exact e
    · rw [Array.getElem?_eq_none (by omega)] at hblk1; cases hblk1
  clear hrh hd0 hd1 HB0 HBLK hb1 hblk1
  go_wp2_with (go_at_call 58; refine hrd.mono ?_)
  rintro e w2 ⟨⟨v, j, ⟨l, b2, a2⟩, rfl, hrun, hstop, hcl⟩, hb2⟩
  obtain ⟨F, hF⟩ : ∃ F, decide (b2 = 0 ∧ a2 = 0) = F := ⟨_, rfl⟩
  rw [show decide ((l, b2, a2).2.1 = 0 ∧ (l, b2, a2).2.2 = 0) = F from hF]
  have HF0 : Hid (decide (b2 = 0 ∧ a2 = 0) = F) := hF
  obtain ⟨va, vn, vc, rfl⟩ : ∃ a m c, v = .slice a m c := by obtain ⟨xs, h1, _⟩ := hcl; exact own_slc h1
  have HRM : Hid (rdm ([], 0, 0) (ls.drop 2) 0 = (j, (l, b2, a2))) := hrun.stop hstop
  have hj : j ≤ n := by
    have := hrun.1
    rw [List.length_drop, HLN.out] at this
    omega
  have HCL : Hid (Rcl w2 w1.heap.size (.slice va vn vc) l) := hcl
  have HBK2 : Hid (w2.heap[w.heap.size]? = some (.cells #[.int .i64 0, .string ⟨#[]⟩, .slice none 0 0] 40 (0, 0))) := blk_below hb2 hw1 HBK1.out
  have HB2 : Hid (Below w.heap.size w w2) := HB1.out.trans (hb2.mono HB1.out.size)
  have hw2 : w.heap.size < w2.heap.size := Nat.lt_of_lt_of_le hw1 hb2.size
  have hcn := fun w => clone (ByteArray.mk x.toArray) w hxz
  clear hrd hrun hstop hcl hb2 HB1 HBK1 hF
  go_wp2_with (go_at_call 59; refine (hcn _).mono ?_)
  rintro e w3 ⟨rfl, hb3⟩
  have hblk3 := blk_below hb3 hw2 HBK2.out
  have HCL3 : Hid (Rcl w3 w1.heap.size (.slice va vn vc) l) := HCL.out.below hb3
  have HB3 : Hid (Below w.heap.size w w3) := HB2.out.trans (hb3.mono HB2.out.size)
  have hc0 := Lib.cell_of_heap hblk3 0
  have hc1 := Lib.cell_of_heap hblk3 1
  have hc2 := Lib.cell_of_heap hblk3 2
  have hf0 := Lib.frozen_of_heap hblk3 0
  have hf1 := Lib.frozen_of_heap hblk3 1
  have hf2 := Lib.frozen_of_heap hblk3 2
  simp at hc0 hc1 hc2
  clear hcn hb3 HB2 HCL HBK2
  obtain ⟨u1, u2, u3⟩ := put_three (x := .int .i64 wh) (y := .string ⟨x.toArray⟩) (z := .slice va vn vc) hblk3 HB3.out
  obtain ⟨v1, v2, v3⟩ := put_three (x := .int .i64 wh) (y := .string ⟨x.toArray⟩) (z := .slice va vn vc) u1 u3
  have q0 := Lib.cell_of_heap v1 0
  have q1 := Lib.cell_of_heap v1 1
  have q2 := Lib.cell_of_heap v1 2
  simp at q0 q1 q2
  have hcl5 := HCL3.out.gr (u2.trans v2) (fun r hr => by have := Option.some.inj hr; omega)
  have HC5 := hcl5.up (B' := w.heap.size) (Nat.le_of_lt hw1)
  have HV3 := v3
  clear hblk3 u1 u2 u3 v1 v2 v3 hcl5
  cases ok
  · go_wp2
    refine bodyPost_ret (v := .tuple #[.agg #[.int .i64 wh, .string ⟨x.toArray⟩, .slice va vn vc], .int .i64 (2 + (j : Int)), .bool false]) (by simp [results, Tryz.results39, go_sem, q0, q1, q2]) rfl ⟨?_, HV3⟩
    exact ⟨wh, x, va, vn, vc, 2 + j, false, by rw [Int.natCast_add]; rfl, fun _ => .inr ⟨by rw [HLN.out]; omega, .inl (RH1.out trivial)⟩, fun h => by cases h⟩
  · go_wp2
    refine bodyPost_ret (v := .tuple #[.agg #[.int .i64 wh, .string ⟨x.toArray⟩, .slice va vn vc], .int .i64 (2 + (j : Int)), .bool F]) (by simp [results, Tryz.results39, go_sem, q0, q1, q2]) rfl ⟨?_, HV3⟩
    refine ⟨wh, x, va, vn, vc, 2 + j, F, by rw [Int.natCast_add]; rfl, fun h => .inr ⟨by rw [HLN.out]; omega, .inr ⟨j, _, HRM.out, fun h2 => ?_⟩⟩, fun h => ⟨by rw [HLN.out]; omega, RH2.out trivial, j, l, rfl, by rw [HLN.out]; omega, ?_, HC5⟩⟩
    · have h3 := HF0.out
      rw [h, decide_eq_false_iff_not] at h3
      exact h3 h2
    · have h3 := HF0.out
      rw [h, decide_eq_true_iff] at h3
      rw [HRM.out, h3.1, h3.2]

end Go.Proofs.YtjgdicghmkfohadGreatDoor
namespace Go.Proofs.YtjgdicghmkfohadGreatDoor
open Go.RowKit Dist

/-- How many a slice has. -/
def slen : Value → Nat
  | .slice _ n _ => n
  | _ => 0

/-- What git.read answers. -/
def GrP (s : List UInt8) (B : Nat) (e : Ending) (w' : World) : Prop :=
  (e = .returned (.tuple #[.slice none 0 0, .bool false]) ∧ gps s = ([], 5)) ∨
  (∃ (v : Value) (p : List Ch), e = .returned (.tuple #[v, .bool true]) ∧ (parts 10 s).2 = [] ∧ gRd (parts 10 s).1.length (parts 10 s).1 = some p ∧ DOwn w' B v p)

theorem getD_drop (ls : List (List UInt8)) (k i : Nat) : (ls.drop k).getD i [] = ls.getD (k + i) [] := by
  simp [List.getElem?_drop]

theorem DOwn.up {w : World} {B B' : Nat} {v : Value} {l : List Ch} (h : DOwn w B v l) (hB : B' ≤ B) : DOwn w B' v l := by
  obtain ⟨xs, h1, h2⟩ := h
  exact ⟨xs, Joins.ownsRow_le h1 hB, h2⟩

theorem DOwn.slc {w : World} {B : Nat} {v : Value} {l : List Ch} (h : DOwn w B v l) : ∃ a n c, v = .slice a n c := by
  obtain ⟨xs, h1, _⟩ := h
  exact own_slc h1

set_option maxRecDepth 100000 in
set_option maxHeartbeats 2000000 in
theorem gitRead (s : ByteArray) (w : World) (hg : Gs w) (hsz : s.size ≤ 400000) :
    Calls Tryz.prog 26 #[.string s] w fun e w' => GrP s.data.toList w.heap.size e w' ∧ Below w.heap.size w w' := by
  have hsp := splitAll s w hsz
  obtain ⟨i0, hi0, hz0, hz1, hz2⟩ := info_parts Tryz.infoChange
  have hlong : s.data.toList.length ≤ 400000 := by rw [← Lib.size_eq]; omega
  have HTX : Hid (∀ x ∈ (parts 10 s.data.toList).1, x.length ≤ 400000) := fun x hx => by
    have h1 := parts_mem (List.mem_append_left [(parts 10 s.data.toList).2] hx)
    omega
  have PT : Hid ((parts 10 s.data.toList).2 ≠ [] → gps s.data.toList = ([], 5)) := gps_tail
  have PN : Hid (gRd (parts 10 s.data.toList).1.length (parts 10 s.data.toList).1 = none → gps s.data.toList = ([], 5)) := gps_none
  have HG : Hid (Gs w) := hg
  obtain ⟨B, hB⟩ : ∃ B, w.heap.size = B := ⟨_, rfl⟩
  have HB : Hid (w.heap.size = B) := hB
  rw [hB] at hsp ⊢
  obtain ⟨P, hP⟩ : ∃ P : Ending → World → Prop, GrP s.data.toList B = P := ⟨_, rfl⟩
  have PF : Hid (∀ w', gps s.data.toList = ([], 5) → P (.returned (.tuple #[.slice none 0 0, .bool false])) w') := fun w' h => by rw [← hP]; exact .inl ⟨rfl, h⟩
  have PG : Hid (∀ v p w', (parts 10 s.data.toList).2 = [] → gRd (parts 10 s.data.toList).1.length (parts 10 s.data.toList).1 = some p → DOwn w' B v p → P (.returned (.tuple #[v, .bool true])) w') := fun v p w' h1 h2 h3 => by rw [← hP]; exact .inr ⟨v, p, rfl, h1, h2, h3⟩
  rw [hP]
  clear hB hP hg hlong
  go_enter Tryz.func26, Tryz.ntmps26
  go_wp2_with (go_at_call 38; refine hsp.mono ?_)
  rintro e w1 ⟨ps, rfl, hps, hb, hst⟩
  obtain ⟨n, x, hn, hx, hxl, hpt, hpl, hns⟩ := pieces_of hps
  have hc : w1.cell? ⟨B, n, none⟩ = some (.string x) := by
    obtain ⟨b, off, e, hc⟩ := hst n (by omega)
    simp at e
    obtain ⟨rfl, rfl⟩ := e
    rw [Nat.zero_add, hx] at hc
    exact hc
  obtain ⟨ls, hls⟩ : ∃ ls, (parts 10 s.data.toList).1 = ls := ⟨_, rfl⟩
  have HLL : Hid (ls.length = n) := by show ls.length = n; rw [← hls, ← hpt, bts_length]; exact hpl
  obtain ⟨qs, hqs⟩ : ∃ qs, ps.take n = qs := ⟨_, rfl⟩
  have hst2 := hst.upto n
  rw [hqs] at hpt hpl hst2
  have HQ : Hid (Strs w1 (some ⟨B, 0, none⟩) qs) := hst2
  have HQL : Hid (qs.length = n) := hpl
  have HQB : Hid (bts qs = ls) := by show bts qs = ls; rw [hpt, hls]
  have HQS : Hid (∀ y ∈ qs, y.size ≤ 400000) := fun y hy => by
    have h1 := HTX.out y.data.toList (by rw [← hpt]; exact List.mem_map.2 ⟨y, hy, rfl⟩)
    rw [← Lib.size_eq] at h1; exact h1
  rw [hls] at PN PG
  rw [← hxl] at PT PG
  have HXD : Hid (x.data.toList = x.toList) := (Lib.toList_data x).symm
  have HB1 : Hid (Below B w w1) := hb
  have hBw1 : B ≤ w1.heap.size := by have := hb.size; have := HB.out; omega
  have hn4 : n ≤ 400000 := by omega
  rw [hn]
  clear hps hx hxl hn hst hst2 hpt hpl hls hsp hb hqs
  cases hx0 : x.toList.isEmpty with
  | false =>
    have HE : Hid (gps s.data.toList = ([], 5)) := PT.out (fun h => by rw [HXD.out] at h; rw [h] at hx0; cases hx0)
    clear PN PG PT
    go_wp2
    go_ret2
    exact ⟨PF.out _ HE.out, HB1.out⟩
  | true =>
    have HXE : Hid (x.data.toList = []) := by show x.data.toList = []; rw [HXD.out]; simpa using hx0
    obtain ⟨R, hR⟩ : ∃ R, w1.heap.size = R := ⟨_, rfl⟩
    have HR : Hid (w1.heap.size = R) := hR
    have hBR : B ≤ R := by omega
    clear PT hR
    go_wp2
    go_loopw [6, 7] (fun v u wr => ∃ (k : Nat) (p : List Ch), k ≤ n ∧ u = .slice (some ⟨B, k, none⟩) (n - k) (n - k + 1) ∧ Grn ls k p ∧ DOwn wr R v p ∧ Below R w1 wr ∧ p.length ≤ k) (fun _ u _ => slen u)
    case atStart => exact ⟨0, [], Nat.zero_le _, rfl, Grn.zero ls, DOwn.zero _ _, Below.refl _ _, Nat.le_refl _⟩
    case round =>
      obtain ⟨k, p, hk, rfl, hgr, hdo, hbl, hpk⟩ := hrel
      have HGR : Hid (Grn ls k p) := hgr
      have HDO : Hid (DOwn wr R u6 p) := hdo
      have HBL : Hid (Below R w1 wr) := hbl
      have HBW : Hid (Below B w wr) := HB1.out.trans (hbl.mono hBR)
      have hRw : R ≤ wr.heap.size := by have := hbl.size; have := HR.out; omega
      obtain ⟨va, vn, vc, rfl⟩ := hdo.slc
      clear hgr hdo hbl
      by_cases hlt : k < n
      · obtain ⟨m, hm⟩ : ∃ m, n - k = m := ⟨_, rfl⟩
        have hm0 : (0 : Int) < m := by omega
        have HM : Hid (n - k = m) := hm
        have hsr := (HQ.out.below (w' := wr) (by rw [HR.out]; exact HBL.out)).from k
        rw [Nat.zero_add] at hsr
        have hrc := readChange B k (qs.drop k) wr hsr (HG.out.below (by rw [HB.out]; exact HBW.out)) (by rw [List.length_drop, HQL.out]; omega) (fun y hy => HQS.out y (List.mem_of_mem_drop hy))
        have ebt : bts (qs.drop k) = ls.drop k := by rw [← HQB.out]; unfold bts; rw [List.map_drop]
        rw [ebt, List.length_drop, HQL.out, hm] at hrc
        rw [hm]
        clear hsr ebt hm
        go_wp2_with (go_at_call 39; refine hrc.mono ?_)
        rintro e w2 ⟨⟨wh, x, ya, yn, yc, j, ok, rfl, hno, hyes⟩, hb2⟩
        have HB2 : Hid (Below B w w2) := HBW.out.trans (hb2.mono (by omega))
        have hRw2 : R ≤ w2.heap.size := Nat.le_trans hRw hb2.size
        clear hrc
        cases ok with
        | false =>
          have HE : Hid (gps s.data.toList = ([], 5)) := by
            refine PN.out ?_
            have hll := HLL.out
            have hmm := HM.out
            rcases hno rfl with h | ⟨h0, h | ⟨i, st, h1, h2⟩⟩
            · rw [List.length_drop] at h
              exact HGR.out.short (by omega)
            · rw [List.length_drop] at h0
              rw [getD_drop, getD_drop, Nat.add_zero] at h
              exact HGR.out.head (by omega) h
            · rw [List.length_drop] at h0
              rw [List.drop_drop] at h1
              exact HGR.out.open (by omega) h1 h2
          have hb3 := HB2.out.alloc (o := .cells #[.int .i64 wh, .string (bar x), .slice ya yn yc] 40) (by omega)
          clear hno hyes hb2 PN PG
          go_wp2
          go_ret2
          exact ⟨PF.out _ HE.out, hb3⟩
        | true =>
          obtain ⟨h0, hh, i, l, rfl, hil, hrm, hcl⟩ := hyes rfl
          rw [List.length_drop] at h0 hil
          rw [getD_drop, getD_drop, Nat.add_zero] at hh
          rw [List.drop_drop] at hrm
          have hll := HLL.out
          have hmm := HM.out
          have HGN : Hid (Grn ls (k + 2 + i) (p ++ [(wh, bar x, l)])) := HGR.out.next (by omega) hh hrm
          have him : 2 + i ≤ m := by omega
          have hsl := fun w => run_lines_from B k m (2 + i) him w (2 + (i : Int)) (by omega)
          obtain ⟨ah, ch, hyv, _, hlc⟩ := hcl.lie
          simp only [Value.slice.injEq] at hyv
          obtain ⟨rfl, rfl, rfl⟩ := hyv
          have HCL : Hid (Rcl w2 wr.heap.size (.slice ya l.length yc) l) := hcl
          have hdo2 := HDO.out.below hb2
          have hba := below_alloc w2 (.cells #[.int .i64 wh, .string (bar x), .slice ya l.length yc] 40)
          have hba2 := hba.trans ((below_alloc (w2.alloc (.cells #[.int .i64 wh, .string (bar x), .slice ya l.length yc] 40)) (.cells #[.int .i64 wh, .string (bar x), .slice ya l.length yc] 40)).mono hba.size)
          have hdo3 := hdo2.below hba2
          obtain ⟨xs, hown, hcv⟩ := hdo3
          have HCV := hcv
          have HCLs : Hid (∀ W, Gr ((w2.alloc (.cells #[.int .i64 wh, .string (bar x), .slice ya l.length yc] 40)).alloc (.cells #[.int .i64 wh, .string (bar x), .slice ya l.length yc] 40)) W (Value.slice va vn vc).ownBlock → Hks W ya l) := fun W hW => by
            have h1 : Rcl W wr.heap.size (.slice ya l.length yc) l := (HCL.out.below hba2).gr hW (fun r hr => by
              obtain ⟨xs0, ho0, _⟩ := HDO.out
              exact (ho0.lt r hr).2)
            obtain ⟨a', c', e', hk', _⟩ := h1.lie
            simp only [Value.slice.injEq] at e'
            rw [e'.1]; exact hk'
          have hpl : p.length ≤ 400000 := by omega
          have HB3 : Hid (Below R w1 ((w2.alloc (.cells #[.int .i64 wh, .string (bar x), .slice ya l.length yc] 40)).alloc (.cells #[.int .i64 wh, .string (bar x), .slice ya l.length yc] 40))) := ((HBL.out.trans (hb2.mono hRw)).alloc hRw2 _).alloc (by simp; omega) _
          have hsz2 : (w2.alloc (.cells #[.int .i64 wh, .string (bar x), .slice ya l.length yc] 40)).heap.size = w2.heap.size + 1 := by simp
          clear hno hyes hb2 PN PF hcl hdo2 hba hba2 hcv hh hrm hll hmm
          go_wp2_with (at_builtin; refine wpList_append_own_at _ rfl _ _ 22 rfl R 40 i0 (.agg #[.int .i64 0, .string ByteArray.empty, .slice none 0 0]) 3 48 Tryz.underlying22 hi0 hz0 hz1 hz2 rfl (by decide) _ _ _ rfl hown ⟨w2.heap.size + 1, 0, none⟩ 1 1 [.int .i64 wh, .string (bar x), .slice ya l.length yc] rfl rfl (by have := cell_three_new (w2.alloc (.cells #[.int .i64 wh, .string (bar x), .slice ya l.length yc] 40)) (.int .i64 wh) (.string (bar x)) (.slice ya l.length yc) 40; rw [hsz2] at this; exact this) (fun x hx => by simp at hx; rcases hx with rfl | rfl | rfl <;> rfl) (by unfold maxLen; omega) (by omega) (by simp; omega) ?_; intro v' w6 hown6 hgrow6 hnil6 hblk6)
          go_roundw
          case rel =>
            have hmm := HM.out
            refine ⟨k + 2 + i, p ++ [(wh, bar x, l)], by omega, ?_, HGN.out, DOwn.snoc hown HCV hown6 hgrow6 hblk6 hlc HCLs.out, HB3.out.grown hgrow6 (by simp; omega) (fun j hj => (hown.lt j hj).1), by simp; omega⟩
            rw [show n - (k + 2 + i) = m - (2 + i) by omega, show k + 2 + i = k + (2 + i) by omega]
          case measure => simp only [slen]; omega
      · obtain rfl : k = n := by omega
        have HALL : Hid (gRd ls.length ls = some p) := by
          have h1 := HGR.out
          rw [← HLL.out] at h1
          exact h1.all
        rw [Nat.sub_self]
        clear PN PF
        go_wp2
        go_ret2
        exact ⟨PG.out _ p _ HXE.out HALL.out (HDO.out.up hBR), HBW.out⟩

theorem gps_small {s : List UInt8} : (gps s).1.length ≤ 16 ∧ ∀ c ∈ (gps s).1, c.2.2.length ≤ 60 ∧ ∀ h ∈ c.2.2, h.2.2.length ≤ 120 := by
  by_cases h : (gps s).2 = 0
  · have hk := (gpr_gps (s := s) (p := (gps s).1) (by rw [← h])).2
    obtain ⟨h1, h2⟩ := kf_rd hk
    exact ⟨h1, fun c hc => ⟨(hf_zero (h2 c hc).2.2).1, fun x hx => (sf_zero (hf_rd (h2 c hc).2.2 x hx).2.2).1⟩⟩
  · have e : (gps s).1 = [] := by
      by_cases h0 : 400000 < s.length
      · rw [gps_long h0]
      by_cases h1 : (parts 10 s).2 = []
      · cases hg : gRd (parts 10 s).1.length (parts 10 s).1 with
        | none => rw [gps_none hg]
        | some q =>
          rw [gps_some h0 h1 hg] at h ⊢
          split
          · rename_i hk; rw [if_pos hk] at h; exact absurd rfl h
          · rfl
      · rw [gps_tail h1]
    rw [e]
    exact ⟨Nat.zero_le _, fun c hc => by cases hc⟩

set_option maxRecDepth 100000 in
set_option maxHeartbeats 1000000 in
theorem gparse (s : ByteArray) (w : World) (hg : Gs w) (hs : s.size ≤ maxLen) :
    Calls Tryz.prog 10 #[.string s] w fun e w' => ∃ a cap, e = .returned (.tuple #[.slice a (gps s.data.toList).1.length cap, errV (gps s.data.toList).2]) ∧ Chs w' a (gps s.data.toList).1 ∧ Below w.heap.size w w' := by
  unfold maxLen at hs
  by_cases hl : 400000 < s.size
  · rw [gps_long (by rw [← Lib.size_eq]; exact hl)]
    clear hg
    go_enter Tryz.func10, Tryz.ntmps10
    go_wp2
    go_ret2
    exact ⟨none, 0, rfl, Chs.nil _ _, Below.refl _ _⟩
  have hrd := gitRead s w hg (by omega)
  have HL : Hid (¬ 400000 < s.data.toList.length) := by show ¬ 400000 < s.data.toList.length; rw [← Lib.size_eq]; exact hl
  have HS : Hid (∀ p, (parts 10 s.data.toList).2 = [] → gRd (parts 10 s.data.toList).1.length (parts 10 s.data.toList).1 = some p → gps s.data.toList = if (kf p).2 = 0 then (p, 0) else ([], (kf p).2)) := fun p h1 h2 => gps_some HL.out h1 h2
  have HBD : Hid (∀ p, gRd (parts 10 s.data.toList).1.length (parts 10 s.data.toList).1 = some p → p.length ≤ 400000 ∧ ∀ c ∈ p, c.2.2.length ≤ 400000 ∧ ∀ x ∈ c.2.2, x.2.2.length ≤ 400000) := fun p hp => by
    have hle : (parts 10 s.data.toList).1.length ≤ 400000 := by
      rw [parts_count]
      have := List.count_le_length (a := (10 : UInt8)) (l := s.data.toList)
      have := HL.out
      omega
    obtain ⟨b1, b2⟩ := lnp_bounds (M := s.data.toList.length) (gRd_lines _ _ _ hp).1 (fun x hx => parts_mem (List.mem_append_left _ hx))
    exact ⟨by omega, fun c hc => ⟨by have := (b2 c hc).1; omega, fun x hx => by have := ((b2 c hc).2 x hx).1; omega⟩⟩
  unfold GrP at hrd
  obtain ⟨P, hP⟩ : ∃ P, gps s.data.toList = P := ⟨_, rfl⟩
  rw [hP] at hrd HS
  rw [hP]
  obtain ⟨B, hB⟩ : ∃ B, w.heap.size = B := ⟨_, rfl⟩
  have HB : Hid (w.heap.size = B) := hB
  rw [hB] at hrd ⊢
  clear hP hg hB
  go_enter Tryz.func10, Tryz.ntmps10
  go_wp2_with (go_at_call 26; refine hrd.mono ?_)
  rintro e w1 ⟨⟨rfl, hp⟩ | ⟨v, p, rfl, ht, hgp, hdo⟩, hb1⟩
  · have HE : Hid (P = ([], 5)) := hp
    clear hrd hp
    go_wp2
    go_ret2
    rw [HE.out]
    exact ⟨none, 0, rfl, Chs.nil _ _, hb1⟩
  · have hpe := HS.out p ht hgp
    obtain ⟨b1, b2⟩ := HBD.out p hgp
    obtain ⟨a, cap, rfl, hch, _⟩ := hdo.chs
    have hck := patchCheck a p cap w1 hch (by unfold maxLen; omega) (fun c hc => by have := (b2 c hc).1; unfold maxLen; omega) (fun c hc x hx => by have := (b2 c hc).2 x hx; unfold maxLen; omega)
    have HCH : Hid (Chs w1 a p) := hch
    obtain ⟨n, hn⟩ : ∃ n, p.length = n := ⟨_, rfl⟩
    have HN : Hid (p.length = n) := hn
    obtain ⟨q0, hq0⟩ : ∃ q, (kf p).1 = q := ⟨_, rfl⟩
    rw [hn, hq0] at hck
    rw [hn]
    have hBw1 : B ≤ w1.heap.size := by have := hb1.size; have := HB.out; omega
    clear hrd ht hgp hdo hch hn hq0 b1 b2
    by_cases hf0 : (kf p).2 = 0
    · rw [if_pos hf0] at hpe
      have HE : Hid (P = (p, 0)) := hpe
      rw [hf0, errV_zero] at hck
      clear hpe hf0
      go_wp2_with (go_at_call 17; refine hck.mono ?_)
      rintro e w2 ⟨rfl, hb2⟩
      have HC2 : Hid (Chs w2 a p) := HCH.out.below hb2
      have hb2 := hb1.trans (hb2.mono hBw1)
      clear hck hb1
      go_wp2
      go_ret2
      rw [HE.out]
      exact ⟨a, cap, by rw [HN.out]; rfl, HC2.out, hb2⟩
    · rw [if_neg hf0] at hpe
      have HE : Hid (P = ([], (kf p).2)) := hpe
      have HF : Hid ((kf p).2 ≠ 0) := hf0
      rw [errV_not hf0] at hck
      obtain ⟨f0, hf0'⟩ : ∃ q, (kf p).2 = q := ⟨_, rfl⟩
      rw [hf0'] at hck HE HF
      clear hpe hf0 hf0'
      go_wp2_with (go_at_call 17; refine hck.mono ?_)
      rintro e w2 ⟨rfl, hb2⟩
      have hb2 := hb1.trans (hb2.mono hBw1)
      clear hck hb1
      go_wp2
      go_ret2
      rw [HE.out]
      dsimp only
      rw [errV_not HF.out]
      exact ⟨none, 0, rfl, Chs.nil _ _, hb2⟩

end Go.Proofs.YtjgdicghmkfohadGreatDoor
