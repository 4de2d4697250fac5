/-
  Patches as texts, as mathematics: what is printed is read, what is read is printed so; how many lines a text has.
-/
import Derived.Test.YtfmhapajdnmhoafDoorUbk
import Derived.Test.YtfmhapajdnmhoafDoorUmr
import Derived.Test.YtfmhapajdnmhoafDoorPa0

namespace Go.Proofs.YtfmhapajdnmhoafDoor
open Go Dist

/-! ### The two lines of a change -/
def gA : List UInt8 := [45, 45, 45, 32, 97, 47]
def gB : List UInt8 := [43, 43, 43, 32, 98, 47]
def gAn : List UInt8 := [45, 45, 45, 32, 47, 100, 101, 118, 47, 110, 117, 108, 108]
def gBn : List UInt8 := [43, 43, 43, 32, 47, 100, 101, 118, 47, 110, 117, 108, 108]
def hA (c : Ch) : List UInt8 := if c.1 = 2 then gAn else gA ++ c.2.1.data.toList
def hB (c : Ch) : List UInt8 := if c.1 = 3 then gBn else gB ++ c.2.1.data.toList
def lnc (c : Ch) : List (List UInt8) := hA c :: hB c :: lns c.2.2
def lnp (p : List Ch) : List (List UInt8) := p.flatMap lnc
/-- A patch as a text. -/
def gpr (p : List Ch) : List UInt8 := joinC 10 (lnp p)

theorem lnp_cons (c : Ch) (p : List Ch) : lnp (c :: p) = hA c :: hB c :: (lns c.2.2 ++ lnp p) := by unfold lnp; rw [List.flatMap_cons]; rfl
theorem lnp_snoc (c : Ch) (p : List Ch) : lnp (p ++ [c]) = lnp p ++ lnc c := by unfold lnp; rw [List.flatMap_append]; simp
theorem gpr_snoc (c : Ch) (p : List Ch) : gpr (p ++ [c]) = gpr p ++ (hA c ++ [10] ++ (hB c ++ [10]) ++ prt c.2.2) := by
  unfold gpr prt
  rw [lnp_snoc, joinC_append]
  unfold lnc
  simp [joinC]

/-- What two lines are of a change. -/
def rhd (a b : List UInt8) : Option (Int × List UInt8) :=
  if Lib.hasPrefix a gA = true then
    if Lib.hasPrefix b gB = true then (if a.drop 6 = b.drop 6 then some (1, a.drop 6) else none)
    else if b = gBn then some (3, a.drop 6) else none
  else if Lib.hasPrefix b gB = true ∧ a = gAn then some (2, b.drop 6) else none

theorem pre_iff (s p : List UInt8) : Lib.hasPrefix s p = true ↔ s = p ++ s.drop p.length := by
  unfold Lib.hasPrefix
  rw [List.isPrefixOf_iff_prefix, List.prefix_iff_eq_append]
  exact ⟨fun h => h.symm, fun h => h.symm⟩

theorem pre_self (p x : List UInt8) : Lib.hasPrefix (p ++ x) p = true := by
  rw [pre_iff]; simp

theorem rhd_some {a b x : List UInt8} {wh : Int} (h : rhd a b = some (wh, x)) (l : List Hk) : hA (wh, bar x, l) = a ∧ hB (wh, bar x, l) = b ∧ 1 ≤ wh ∧ wh ≤ 3 := by
  unfold rhd at h
  unfold hA hB
  split at h
  · rename_i h1
    have h1 := (pre_iff a gA).1 h1
    split at h
    · rename_i h2
      have h2 := (pre_iff b gB).1 h2
      split at h
      · rename_i h3
        simp only [Option.some.injEq, Prod.mk.injEq] at h
        obtain ⟨rfl, rfl⟩ := h
        simp only [bar_data]
        refine ⟨?_, ?_, by decide, by decide⟩
        · rw [if_neg (by decide)]; exact h1.symm
        · rw [if_neg (by decide), h3]; exact h2.symm
      · cases h
    · split at h
      · rename_i h3
        simp only [Option.some.injEq, Prod.mk.injEq] at h
        obtain ⟨rfl, rfl⟩ := h
        simp only [bar_data]
        refine ⟨?_, ?_, by decide, by decide⟩
        · rw [if_neg (by decide)]; exact h1.symm
        · rw [if_pos trivial]; exact h3.symm
      · cases h
  · split at h
    · rename_i h2
      simp only [Option.some.injEq, Prod.mk.injEq] at h
      obtain ⟨rfl, rfl⟩ := h
      have h3 := (pre_iff b gB).1 h2.1
      simp only [bar_data]
      refine ⟨?_, ?_, by decide, by decide⟩
      · rw [if_pos trivial]; exact h2.2.symm
      · rw [if_neg (by decide)]; exact h3.symm
    · cases h

theorem rhd_of {c : Ch} (h : 1 ≤ c.1 ∧ c.1 ≤ 3) : rhd (hA c) (hB c) = some (c.1, c.2.1.data.toList) := by
  obtain ⟨wh, p, l⟩ := c
  simp only at h
  unfold hA hB
  simp only
  by_cases h2 : wh = 2
  · subst h2
    rw [if_pos rfl, if_neg (by decide)]
    unfold rhd
    rw [if_neg (by decide), if_pos ⟨pre_self _ _, rfl⟩]
    simp [gB]
  · rw [if_neg h2]
    by_cases h3 : wh = 3
    · subst h3
      rw [if_pos rfl]
      unfold rhd
      rw [if_pos (pre_self _ _), if_neg (by decide), if_pos rfl]
      simp [gA]
    · rw [if_neg h3]
      obtain rfl : wh = 1 := by omega
      unfold rhd
      rw [if_pos (pre_self _ _), if_pos (pre_self _ _), if_pos (by simp [gA, gB])]
      simp [gA]

theorem rhd_at {a b : List UInt8} (h : Lib.hasPrefix a [64, 64] = true) : rhd a b = none := by
  have h1 := (pre_iff a [64, 64]).1 h
  have h2 : Lib.hasPrefix a gA = false := by
    rw [h1]; rfl
  have h3 : a ≠ gAn := by
    rw [h1]; intro e; cases e
  unfold rhd
  rw [if_neg (by rw [h2]; decide), if_neg (fun e => h3 e.2)]

/-! ### A text as a patch -/
def gRd : Nat → List (List UInt8) → Option (List Ch)
  | 0, ls => if ls = [] then some [] else none
  | f + 1, ls => match ls with
    | [] => some []
    | [_] => none
    | a :: b :: r => match rhd a b with
      | none => none
      | some x => if (rdm ([], 0, 0) r 0).2.2.1 = 0 ∧ (rdm ([], 0, 0) r 0).2.2.2 = 0 then (gRd f (r.drop (rdm ([], 0, 0) r 0).1)).map fun p => (x.1, bar x.2, (rdm ([], 0, 0) r 0).2.1) :: p else none

theorem gRd_nil (f : Nat) : gRd f [] = some [] := by cases f <;> rfl
theorem gRd_one (f : Nat) (a : List UInt8) : gRd f [a] = none := by cases f <;> rfl
theorem gRd_head {f : Nat} {a b : List UInt8} {r : List (List UInt8)} (h : rhd a b = none) : gRd f (a :: b :: r) = none := by
  cases f with
  | zero => rfl
  | succ f => rw [gRd, h]
theorem gRd_open {f : Nat} {a b : List UInt8} {r : List (List UInt8)} {k : Nat} {st : Us} (h : rdm ([], 0, 0) r 0 = (k, st)) (ho : ¬ (st.2.1 = 0 ∧ st.2.2 = 0)) : gRd f (a :: b :: r) = none := by
  cases f with
  | zero => rfl
  | succ f =>
    rw [gRd]
    cases rhd a b with
    | none => rfl
    | some x => simp only; rw [h, if_neg ho]
theorem gRd_next {f : Nat} {a b : List UInt8} {r : List (List UInt8)} {k : Nat} {l : List Uk} {wh : Int} {x : List UInt8} (hh : rhd a b = some (wh, x)) (h : rdm ([], 0, 0) r 0 = (k, (l, 0, 0))) : gRd (f + 1) (a :: b :: r) = (gRd f (r.drop k)).map fun p => (wh, bar x, l) :: p := by
  rw [gRd, hh]
  simp only
  rw [h, if_pos ⟨rfl, rfl⟩]

/-- What has been read of the lines; what is left is read on. -/
def Grn (ls : List (List UInt8)) (k : Nat) (p : List Ch) : Prop := k ≤ ls.length ∧ ∃ f, ls.length - k ≤ f ∧ gRd ls.length ls = (gRd f (ls.drop k)).map fun q => p ++ q

theorem Grn.zero (ls : List (List UInt8)) : Grn ls 0 [] := by
  refine ⟨Nat.zero_le _, ls.length, by omega, ?_⟩
  rw [List.drop_zero]
  cases gRd ls.length ls <;> rfl

theorem Grn.all {ls : List (List UInt8)} {p : List Ch} (h : Grn ls ls.length p) : gRd ls.length ls = some p := by
  obtain ⟨_, f, _, e⟩ := h
  rw [List.drop_length, gRd_nil] at e
  rw [e]; simp

theorem drop_two {ls : List (List UInt8)} {k : Nat} (h : k + 1 < ls.length) : ls.drop k = ls.getD k [] :: ls.getD (k + 1) [] :: ls.drop (k + 2) := by
  have e1 : ls.getD k [] = ls[k] := by simp [show k < ls.length by omega]
  have e2 : ls.getD (k + 1) [] = ls[k + 1] := by simp [h]
  rw [e1, e2, List.drop_eq_getElem_cons (show k < ls.length by omega), List.drop_eq_getElem_cons h]

theorem drop_one {ls : List (List UInt8)} {k : Nat} (h : k + 1 = ls.length) : ls.drop k = [ls.getD k []] := by
  have e1 : ls.getD k [] = ls[k] := by simp [show k < ls.length by omega]
  rw [e1, List.drop_eq_getElem_cons (show k < ls.length by omega), List.drop_eq_nil_of_le (by omega)]

theorem Grn.short {ls : List (List UInt8)} {k : Nat} {p : List Ch} (h : Grn ls k p) (hk : k + 1 = ls.length) : gRd ls.length ls = none := by
  obtain ⟨_, f, _, e⟩ := h
  rw [e, drop_one hk, gRd_one]; rfl

theorem Grn.head {ls : List (List UInt8)} {k : Nat} {p : List Ch} (h : Grn ls k p) (hk : k + 1 < ls.length) (hh : rhd (ls.getD k []) (ls.getD (k + 1) []) = none) : gRd ls.length ls = none := by
  obtain ⟨_, f, _, e⟩ := h
  rw [e, drop_two hk, gRd_head hh]; rfl

theorem Grn.open {ls : List (List UInt8)} {k j : Nat} {p : List Ch} {st : Us} (h : Grn ls k p) (hk : k + 1 < ls.length) (hr : rdm ([], 0, 0) (ls.drop (k + 2)) 0 = (j, st)) (ho : ¬ (st.2.1 = 0 ∧ st.2.2 = 0)) : gRd ls.length ls = none := by
  obtain ⟨_, f, _, e⟩ := h
  rw [e, drop_two hk, gRd_open hr ho]; rfl

theorem Grn.next {ls : List (List UInt8)} {k j : Nat} {p : List Ch} {l : List Uk} {wh : Int} {x : List UInt8} (h : Grn ls k p) (hk : k + 1 < ls.length) (hh : rhd (ls.getD k []) (ls.getD (k + 1) []) = some (wh, x)) (hr : rdm ([], 0, 0) (ls.drop (k + 2)) 0 = (j, (l, 0, 0))) : Grn ls (k + 2 + j) (p ++ [(wh, bar x, l)]) := by
  obtain ⟨_, f, hf, e⟩ := h
  have hj := (rdm_run (ls.drop (k + 2))).1
  rw [hr, List.length_drop] at hj
  simp only at hj
  obtain ⟨f', rfl⟩ : ∃ f', f = f' + 1 := ⟨f - 1, by omega⟩
  refine ⟨by omega, f', by omega, ?_⟩
  rw [e, drop_two hk, gRd_next hh hr, List.drop_drop, Option.map_map]
  congr 1
  funext q
  simp

/-- A line that opens as a hunk's but is none. -/
theorem Grn.at {ls : List (List UInt8)} {k j : Nat} {p : List Ch} {l : List Uk} (h : Grn ls k p) (hk : k + 1 < ls.length) (hr : rdm ([], 0, 0) (ls.drop (k + 2)) 0 = (j, (l, 0, 0))) (hj : k + 2 + j < ls.length) (ha : Lib.hasPrefix (ls.getD (k + 2 + j) []) [64, 64] = true) : gRd ls.length ls = none := by
  cases hh : rhd (ls.getD k []) (ls.getD (k + 1) []) with
  | none => exact h.head hk hh
  | some x =>
    obtain ⟨wh, x⟩ := x
    have h2 := h.next hk hh hr
    by_cases e : k + 2 + j + 1 < ls.length
    · exact h2.head e (rhd_at ha)
    · exact h2.short (by omega)

theorem gRd_lines : ∀ (f : Nat) (ls : List (List UInt8)) (p : List Ch), gRd f ls = some p → lnp p = ls ∧ ∀ c ∈ p, 1 ≤ c.1 ∧ c.1 ≤ 3
  | 0, ls, p, h => by
    rw [gRd] at h
    split at h
    · rename_i e
      simp only [Option.some.injEq] at h
      subst h e
      exact ⟨rfl, fun c hc => by cases hc⟩
    · cases h
  | f + 1, [], p, h => by
    rw [gRd_nil] at h
    simp only [Option.some.injEq] at h
    subst h
    exact ⟨rfl, fun c hc => by cases hc⟩
  | f + 1, [a], p, h => by rw [gRd_one] at h; cases h
  | f + 1, a :: b :: r, p, h => by
    cases hh : rhd a b with
    | none => rw [gRd_head hh] at h; cases h
    | some x =>
      obtain ⟨wh, x⟩ := x
      obtain ⟨⟨k, st⟩, hr⟩ : ∃ y, rdm ([], 0, 0) r 0 = y := ⟨_, rfl⟩
      by_cases ho : st.2.1 = 0 ∧ st.2.2 = 0
      · obtain ⟨l, n, m⟩ := st
        simp only at ho
        obtain ⟨rfl, rfl⟩ := ho
        rw [gRd_next hh hr] at h
        obtain ⟨q, hq, rfl⟩ := Option.map_eq_some_iff.1 h
        obtain ⟨i1, i2⟩ := gRd_lines f _ q hq
        obtain ⟨g1, g2, g3, g4⟩ := rhd_some hh l
        have hrun := rdm_run r
        rw [hr] at hrun
        have hl := hrun.lines
        rw [lna_zero] at hl
        refine ⟨?_, fun c hc => ?_⟩
        · rw [lnp_cons, g1, g2, i1, hl, List.take_append_drop]
        · rcases List.mem_cons.1 hc with rfl | hc
          · exact ⟨g3, g4⟩
          · exact i2 c hc
      · rw [gRd_open hr ho] at h; cases h

theorem hdo_hA (c : Ch) : hdo (hA c) = none := by
  cases hd : hdo (hA c) with
  | none => rfl
  | some x =>
    obtain ⟨a, n, b, m⟩ := x
    have e := (hdo_iff.1 hd).1
    unfold hA at e
    split at e
    · unfold gAn hdl at e; simp at e
    · unfold gA hdl at e; simp at e

theorem rdm_lns {l : List Uk} (h : ∀ x ∈ l, Rd x) (p : List Ch) : rdm ([], 0, 0) (lns l ++ lnp p) 0 = ((lns l).length, (l, 0, 0)) := by
  have hr := rdl_all [] l 0 h
  rw [List.nil_append, Nat.zero_add] at hr
  rw [rdm_app hr]
  cases p with
  | nil => rfl
  | cons c p =>
    rw [lnp_cons, rdm]
    have e : ust (l, 0, 0) (hA c) = none := by
      unfold ust
      rw [if_pos ⟨rfl, rfl⟩, hdo_hA]; rfl
    rw [e]

theorem gRd_lnp : ∀ (f : Nat) (p : List Ch), (∀ c ∈ p, (1 ≤ c.1 ∧ c.1 ≤ 3) ∧ ∀ x ∈ c.2.2, Rd x) → (lnp p).length ≤ f → gRd f (lnp p) = some p
  | f, [], _, _ => gRd_nil f
  | 0, c :: p, _, hl => by rw [lnp_cons] at hl; simp at hl
  | f + 1, c :: p, h, hl => by
    obtain ⟨h1, h2⟩ := h c (by simp)
    rw [lnp_cons] at hl ⊢
    rw [gRd_next (rhd_of h1) (rdm_lns h2 p), List.drop_left']
    · rw [gRd_lnp f p (fun x hx => h x (by simp [hx])) (by simp at hl; omega)]
      simp only [Option.map_some, data_bar]
    · rfl

/-- A text as a patch; the fault. -/
def gps (s : List UInt8) : List Ch × Int :=
  if 400000 < s.length then ([], 5) else if (parts 10 s).2 = [] then (match gRd (parts 10 s).1.length (parts 10 s).1 with
    | none => ([], 5)
    | some p => if (kf p).2 = 0 then (p, 0) else ([], (kf p).2)) else ([], 5)

theorem gps_long {s : List UInt8} (h : 400000 < s.length) : gps s = ([], 5) := by unfold gps; rw [if_pos h]
theorem gps_tail {s : List UInt8} (h : (parts 10 s).2 ≠ []) : gps s = ([], 5) := by
  unfold gps
  by_cases h2 : 400000 < s.length
  · rw [if_pos h2]
  · rw [if_neg h2, if_neg h]
theorem gps_none {s : List UInt8} (h : gRd (parts 10 s).1.length (parts 10 s).1 = none) : gps s = ([], 5) := by
  unfold gps
  by_cases h2 : 400000 < s.length
  · rw [if_pos h2]
  · rw [if_neg h2, h]
    simp
theorem gps_some {s : List UInt8} {p : List Ch} (h0 : ¬ 400000 < s.length) (h1 : (parts 10 s).2 = []) (h : gRd (parts 10 s).1.length (parts 10 s).1 = some p) : gps s = if (kf p).2 = 0 then (p, 0) else ([], (kf p).2) := by
  unfold gps
  rw [if_neg h0, if_pos h1, h]

/-- What is read is written so. -/
theorem gpr_gps {s : List UInt8} {p : List Ch} (h : gps s = (p, 0)) : gpr p = s ∧ (kf p).2 = 0 := by
  by_cases h0 : 400000 < s.length
  · rw [gps_long h0] at h; simp at h
  by_cases h1 : (parts 10 s).2 = []
  · cases hg : gRd (parts 10 s).1.length (parts 10 s).1 with
    | none => rw [gps_none hg] at h; simp at h
    | some q =>
      rw [gps_some h0 h1 hg] at h
      split at h
      · rename_i hk
        simp only [Prod.mk.injEq, and_true] at h
        subst h
        refine ⟨?_, hk⟩
        have hj := parts_join 10 s
        rw [h1, List.append_nil] at hj
        unfold gpr
        rw [(gRd_lines _ _ _ hg).1, hj]
      · rename_i hk
        simp only [Prod.mk.injEq] at h
        exact absurd h.2 hk
  · rw [gps_tail h1] at h; simp at h

theorem pf_clean {p : List UInt8} (h : pf p = 0) : (10 : UInt8) ∉ p ∧ p.length ≤ 20 := by
  unfold pf at h
  split at h
  · omega
  · rename_i hl
    refine ⟨fun hm => ?_, by omega⟩
    unfold pn at h
    split at h
    · rename_i ha
      have hj := parts_join 47 p
      rw [List.all_eq_true] at ha
      have hno : ∀ x ∈ names p, (10 : UInt8) ∉ x := fun x hx h10 => by
        have := ha x hx
        unfold isNm at this
        simp only [Bool.and_eq_true, List.all_eq_true] at this
        have := this.2 _ h10
        revert this
        decide
      rw [← hj] at hm
      rcases List.mem_append.1 hm with hm | hm
      · have hx : ∀ (l : List (List UInt8)), (∀ x ∈ l, (10 : UInt8) ∉ x) → (10 : UInt8) ∉ joinC 47 l := fun l => by
          induction l with
          | nil => intro _ h; simp [joinC] at h
          | cons y t ih =>
            intro hl h
            rw [joinC] at h
            rcases List.mem_append.1 h with h | h
            · exact hl y (by simp) h
            · rcases List.mem_cons.1 h with h | h
              · cases h
              · exact ih (fun x hx => hl x (by simp [hx])) h
        exact hx _ (fun x hx => hno x (by unfold names; simp [hx])) hm
      · exact hno _ (by unfold names; simp) hm
    · omega

theorem kf_rd {p : List Ch} (h : (kf p).2 = 0) : p.length ≤ 16 ∧ ∀ c ∈ p, (1 ≤ c.1 ∧ c.1 ≤ 3) ∧ pf c.2.1.data.toList = 0 ∧ (hf c.2.2).2 = 0 := by
  obtain ⟨h1, _, h2⟩ := kf_zero h
  refine ⟨h1, fun c hc => ?_⟩
  obtain ⟨a1, a2, a3, _⟩ := cOne_zero (h2 c hc)
  exact ⟨a1, a2, a3⟩

theorem head_lines {c : Ch} (h : pf c.2.1.data.toList = 0) : ((10 : UInt8) ∉ hA c ∧ (hA c).length ≤ 26) ∧ (10 : UInt8) ∉ hB c ∧ (hB c).length ≤ 26 := by
  obtain ⟨h1, h2⟩ := pf_clean h
  unfold hA hB
  refine ⟨?_, ?_⟩
  · split
    · unfold gAn; decide
    · unfold gA
      simp only [List.mem_append, List.length_append]
      refine ⟨?_, by simp only [List.length_cons, List.length_nil]; omega⟩
      rintro (h | h)
      · revert h; decide
      · exact h1 h
  · split
    · unfold gBn; decide
    · unfold gB
      simp only [List.mem_append, List.length_append]
      refine ⟨?_, by simp only [List.length_cons, List.length_nil]; omega⟩
      rintro (h | h)
      · revert h; decide
      · exact h1 h

theorem lnp_free {p : List Ch} (h : ∀ c ∈ p, pf c.2.1.data.toList = 0 ∧ (hf c.2.2).2 = 0) : ∀ s ∈ lnp p, (10 : UInt8) ∉ s := by
  intro s hs
  unfold lnp at hs
  obtain ⟨c, hc, hs⟩ := List.mem_flatMap.1 hs
  obtain ⟨a2, a3⟩ := h c hc
  unfold lnc at hs
  rcases List.mem_cons.1 hs with rfl | hs
  · exact (head_lines a2).1.1
  · rcases List.mem_cons.1 hs with rfl | hs
    · exact (head_lines a2).2.1
    · exact (lines_of a3 s hs).1

theorem gpr_len {p : List Ch} (h : ∀ c ∈ p, pf c.2.1.data.toList = 0 ∧ (hf c.2.2).2 = 0) : (gpr p).length ≤ 14820 * p.length := by
  induction p with
  | nil => simp [gpr, lnp, joinC]
  | cons c p ih =>
    have := ih (fun x hx => h x (by simp [hx]))
    obtain ⟨a2, a3⟩ := h c (by simp)
    have h1 := head_lines a2
    have h2 := (prt_len a3).2
    unfold gpr at this ⊢
    unfold prt at h2
    rw [lnp_cons, joinC, joinC, joinC_append]
    simp only [List.length_append, List.length_cons]
    omega

theorem parts_gpr {p : List Ch} (h : (kf p).2 = 0) : parts 10 (gpr p) = (lnp p, []) := by
  obtain ⟨_, h2⟩ := kf_rd h
  have := parts_of 10 (lnp p) [] (lnp_free fun c hc => (h2 c hc).2) (by simp)
  rwa [List.append_nil] at this

theorem gpr_short {p : List Ch} (h : (kf p).2 = 0) : (gpr p).length ≤ 237120 := by
  obtain ⟨h1, h2⟩ := kf_rd h
  have := gpr_len fun c hc => (h2 c hc).2
  omega

/-- What is written is read. -/
theorem gps_gpr {p : List Ch} (h : (kf p).2 = 0) : gps (gpr p) = (p, 0) := by
  have hp := parts_gpr h
  have hl := gpr_short h
  obtain ⟨_, h2⟩ := kf_rd h
  rw [gps_some (p := p) (by omega) (by rw [hp]), if_pos h]
  rw [hp]
  exact gRd_lnp _ p (fun c hc => ⟨(h2 c hc).1, fun x hx => (hf_rd (h2 c hc).2.2 x hx).1⟩) (Nat.le_refl _)

/-! ### How many lines -/
def mln : List Uk → Nat
  | [] => 0
  | h :: r => h.2.2.length + mln r
def gln : List Ch → Nat
  | [] => 0
  | c :: r => 2 + c.2.2.length + mln c.2.2 + gln r

theorem mln_snoc (l : List Uk) (h : Uk) : mln (l ++ [h]) = mln l + h.2.2.length := by
  induction l with
  | nil => simp [mln]
  | cons x r ih => simp only [List.cons_append, mln, ih]; omega
theorem gln_snoc (p : List Ch) (c : Ch) : gln (p ++ [c]) = gln p + (2 + c.2.2.length + mln c.2.2) := by
  induction p with
  | nil => simp [gln]
  | cons x r ih => simp only [List.cons_append, gln, ih]; omega

theorem lns_many (l : List Uk) : (lns l).length = l.length + mln l := by
  induction l with
  | nil => rfl
  | cons x r ih =>
    rw [lns_cons, List.length_append, ih]
    unfold lnh
    simp only [List.length_cons, List.length_map, mln]
    omega

theorem lnp_many (p : List Ch) : (lnp p).length = gln p := by
  induction p with
  | nil => rfl
  | cons x r ih =>
    rw [lnp_cons]
    simp only [List.length_cons, List.length_append, ih, lns_many, gln]
    omega

theorem mln_mem {l : List Uk} {h : Uk} (hh : h ∈ l) : h.2.2.length ≤ mln l := by
  induction l with
  | nil => cases hh
  | cons x r ih =>
    rcases List.mem_cons.1 hh with rfl | hh
    · simp only [mln]; omega
    · have := ih hh; simp only [mln]; omega
theorem gln_mem {p : List Ch} {c : Ch} (hc : c ∈ p) : c.2.2.length + mln c.2.2 ≤ gln p := by
  induction p with
  | nil => cases hc
  | cons x r ih =>
    rcases List.mem_cons.1 hc with rfl | hc
    · simp only [gln]; omega
    · have := ih hc; simp only [gln]; omega
theorem gln_len (p : List Ch) : p.length ≤ gln p := by
  induction p with
  | nil => simp
  | cons x r ih => simp only [gln, List.length_cons]; omega

/-- No more changes, hunks, marks than lines; no text longer than its line. -/
theorem lnp_bounds {p : List Ch} {ls : List (List UInt8)} {M : Nat} (h : lnp p = ls) (hM : ∀ s ∈ ls, s.length ≤ M) : p.length ≤ ls.length ∧ ∀ c ∈ p, c.2.2.length ≤ ls.length ∧ ∀ x ∈ c.2.2, x.2.2.length ≤ ls.length ∧ ∀ m ∈ x.2.2, m.2.size ≤ M := by
  have e := lnp_many p
  rw [h] at e
  refine ⟨by have := gln_len p; omega, fun c hc => ?_⟩
  have h1 := gln_mem hc
  refine ⟨by omega, fun x hx => ?_⟩
  have h2 := mln_mem hx
  refine ⟨by omega, fun m hm => ?_⟩
  have hin : mkl m ∈ ls := by
    rw [← h]
    unfold lnp lnc lns lnh
    refine List.mem_flatMap.2 ⟨c, hc, List.mem_cons_of_mem _ (List.mem_cons_of_mem _ (List.mem_flatMap.2 ⟨x, hx, List.mem_cons_of_mem _ (List.mem_map.2 ⟨m, hm, rfl⟩)⟩))⟩
  have := hM _ hin
  unfold mkl at this
  rw [List.length_cons, ← Lib.size_eq] at this
  omega

theorem count_gpr {p : List Ch} (h : (kf p).2 = 0) : (gpr p).count 10 = gln p := by
  have hp := parts_gpr h
  have := count_parts 10 (gpr p)
  rw [hp] at this
  rw [this]
  exact lnp_many p

end Go.Proofs.YtfmhapajdnmhoafDoor
