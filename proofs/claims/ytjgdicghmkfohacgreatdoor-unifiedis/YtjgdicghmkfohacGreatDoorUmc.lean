/-
  Lines read one by one as hunks, as mathematics: what is read is written so, what is written is read.
-/
import Derived.Test.YtjgdicghmkfohacGreatDoorUtx

namespace Go.Proofs.YtjgdicghmkfohacGreatDoor
open Go Dist

abbrev Uk := Int × Int × List (Int × ByteArray)
/-- Hunks that have been read; how many lines of the old file and of the new one the last one still wants. -/
abbrev Us := List Uk × Nat × Nat

def bar (l : List UInt8) : ByteArray := ⟨l.toArray⟩
theorem bar_data (l : List UInt8) : (bar l).data.toList = l := by simp [bar]
theorem data_bar (s : ByteArray) : bar s.data.toList = s := by cases s; simp [bar]
theorem bar_size (l : List UInt8) : (bar l).size = l.length := by simp [bar, ByteArray.size]

/-- A mark more in the last hunk. -/
def psh (hs : List Uk) (m : Int × ByteArray) : List Uk := match hs.getLast? with
  | none => []
  | some h => hs.dropLast ++ [(h.1, h.2.1, h.2.2 ++ [m])]

theorem psh_snoc (hs : List Uk) (h : Uk) (m : Int × ByteArray) : psh (hs ++ [h]) m = hs ++ [(h.1, h.2.1, h.2.2 ++ [m])] := by simp [psh]

/-- What is wanted behind a mark. -/
def wnt (c : UInt8) (b a : Nat) : Option (Nat × Nat) :=
  if c = 32 then (if 0 < b ∧ 0 < a then some (b - 1, a - 1) else none)
  else if c = 45 then (if 0 < b then some (b - 1, a) else none)
  else if c = 43 then (if 0 < a then some (b, a - 1) else none)
  else none

def ust (st : Us) (s : List UInt8) : Option Us :=
  if st.2.1 = 0 ∧ st.2.2 = 0 then (hdo s).map fun h => (st.1 ++ [((h.1 : Int), (h.2.2.1 : Int), [])], h.2.1, h.2.2.2)
  else match s with
    | [] => none
    | c :: t => (wnt c st.2.1 st.2.2).map fun p => (psh st.1 ((c.toNat : Int), bar t), p.1, p.2)

/-- Lines read: the first that cannot stand there, or what has been read. -/
def rdl : Us → List (List UInt8) → Nat → Nat × Option Us
  | st, [], i => (i, some st)
  | st, s :: r, i => match ust st s with
    | none => (i, none)
    | some st' => rdl st' r (i + 1)

theorem rdl_snoc {st : Us} {ls : List (List UInt8)} {s : List UInt8} {i j : Nat} {st' : Us} (h : rdl st ls i = (j, some st')) : rdl st (ls ++ [s]) i = match ust st' s with
    | none => (j, none)
    | some st'' => (j + 1, some st'') := by
  induction ls generalizing st i with
  | nil =>
    simp only [rdl, Prod.mk.injEq, Option.some.injEq] at h
    obtain ⟨rfl, rfl⟩ := h
    rw [List.nil_append, rdl]
    cases ust st s <;> rfl
  | cons x r ih =>
    rw [rdl] at h
    rw [List.cons_append, rdl]
    cases hx : ust st x with
    | none => rw [hx] at h; simp at h
    | some st2 => rw [hx] at h; exact ih h

theorem rdl_bad {st : Us} {ls r : List (List UInt8)} {i j : Nat} (h : rdl st ls i = (j, none)) : rdl st (ls ++ r) i = (j, none) := by
  induction ls generalizing st i with
  | nil => simp [rdl] at h
  | cons x t ih =>
    rw [rdl] at h
    rw [List.cons_append, rdl]
    cases hx : ust st x with
    | none => rw [hx] at h; exact h
    | some st2 => rw [hx] at h; exact ih h

theorem rdl_good {st : Us} {ls r : List (List UInt8)} {i j : Nat} {st' : Us} (h : rdl st (ls ++ r) i = (j, some st')) : ∃ st2, rdl st ls i = (i + ls.length, some st2) := by
  induction ls generalizing st i with
  | nil => exact ⟨st, rfl⟩
  | cons x t ih =>
    rw [List.cons_append, rdl] at h
    rw [rdl]
    cases hx : ust st x with
    | none => rw [hx] at h; simp at h
    | some st2 =>
      rw [hx] at h
      obtain ⟨s3, h3⟩ := ih h
      refine ⟨s3, ?_⟩
      show rdl st2 t (i + 1) = _
      rw [h3, List.length_cons]; congr 1; omega

/-- The first k lines can stand there. -/
def Run (ls : List (List UInt8)) (k : Nat) (st : Us) : Prop := k ≤ ls.length ∧ rdl ([], 0, 0) (ls.take k) 0 = (k, some st)

theorem Run.zero (ls : List (List UInt8)) : Run ls 0 ([], 0, 0) := ⟨Nat.zero_le _, rfl⟩

theorem tks (ls : List (List UInt8)) (k : Nat) (hk : k < ls.length) : ls.take (k + 1) = ls.take k ++ [ls.getD k []] := by
  have e : ls.getD k [] = ls[k] := by simp [hk]
  rw [e, List.take_succ_eq_append_getElem hk]

theorem Run.next {ls : List (List UInt8)} {k : Nat} {st st' : Us} (h : Run ls k st) (hk : k < ls.length) (hs : ust st (ls.getD k []) = some st') : Run ls (k + 1) st' := by
  refine ⟨hk, ?_⟩
  rw [tks ls k hk, rdl_snoc h.2, hs]

theorem Run.bad {ls : List (List UInt8)} {k : Nat} {st : Us} (h : Run ls k st) (hk : k < ls.length) (hs : ust st (ls.getD k []) = none) : rdl ([], 0, 0) ls 0 = (k, none) := by
  have h1 : rdl ([], 0, 0) (ls.take (k + 1)) 0 = (k, none) := by rw [tks ls k hk, rdl_snoc h.2, hs]
  have h2 := rdl_bad (r := ls.drop (k + 1)) h1
  rwa [List.take_append_drop] at h2

theorem Run.all {ls : List (List UInt8)} {st : Us} (h : Run ls ls.length st) : rdl ([], 0, 0) ls 0 = (ls.length, some st) := by
  have := h.2
  rwa [List.take_length] at this

/-- What is always so of what has been read of k lines. -/
def Okr (st : Us) (k : Nat) : Prop := (st.1 = [] → st.2.1 = 0 ∧ st.2.2 = 0) ∧ st.2.1 ≤ 999 ∧ st.2.2 ≤ 999 ∧ st.1.length ≤ k ∧ ∀ h ∈ st.1, 0 ≤ h.1 ∧ h.1 ≤ 999 ∧ 0 ≤ h.2.1 ∧ h.2.1 ≤ 999 ∧ h.2.2.length ≤ k

theorem wnt_some {c : UInt8} {b a b' a' : Nat} (h : wnt c b a = some (b', a')) (t : ByteArray) : sgn (c.toNat : Int) ∧ ob [((c.toNat : Int), t)] + b' = b ∧ nb [((c.toNat : Int), t)] + a' = a := by
  unfold wnt at h
  rw [ob_one, nb_one]
  split at h
  · rename_i hc
    subst hc
    split at h
    · simp only [Option.some.injEq, Prod.mk.injEq] at h
      simp [sgn]; omega
    · cases h
  · split at h
    · rename_i hc
      subst hc
      split at h
      · simp only [Option.some.injEq, Prod.mk.injEq] at h
        simp [sgn]; omega
      · cases h
    · split at h
      · rename_i hc
        subst hc
        split at h
        · simp only [Option.some.injEq, Prod.mk.injEq] at h
          simp [sgn]; omega
        · cases h
      · cases h

theorem Okr.step {st st' : Us} {k : Nat} {s : List UInt8} (h : Okr st k) (hs : ust st s = some st') : Okr st' (k + 1) := by
  obtain ⟨h1, h2, h3, h4, h5⟩ := h
  unfold ust at hs
  split at hs
  · cases hd : hdo s with
    | none => rw [hd] at hs; cases hs
    | some x =>
      obtain ⟨a, n, b, m⟩ := x
      rw [hd] at hs
      simp only [Option.map_some, Option.some.injEq] at hs
      subst hs
      obtain ⟨_, d1, d2, d3, d4⟩ := hdo_iff.1 hd
      refine ⟨fun e => by simp at e, d1, d3, by simp; omega, fun h hh => ?_⟩
      rcases List.mem_append.1 hh with hh | hh
      · obtain ⟨g1, g2, g3, g4, g5⟩ := h5 h hh
        exact ⟨g1, g2, g3, g4, by omega⟩
      · simp only [List.mem_singleton] at hh
        subst hh
        refine ⟨by simp, ?_, by simp, ?_, by simp⟩
        · show (a : Int) ≤ 999; split at d2 <;> omega
        · show (b : Int) ≤ 999; split at d4 <;> omega
  · rename_i hz
    cases s with
    | nil => cases hs
    | cons c t =>
      simp only at hs
      cases hw : wnt c st.2.1 st.2.2 with
      | none => rw [hw] at hs; cases hs
      | some x =>
        obtain ⟨b', a'⟩ := x
        rw [hw] at hs
        simp only [Option.map_some, Option.some.injEq] at hs
        obtain ⟨w1, w2, w3⟩ := wnt_some hw (bar t)
        rcases List.eq_nil_or_concat st.1 with e | ⟨hs0, g, e⟩
        · exact absurd (h1 e) hz
        rw [List.concat_eq_append] at e
        rw [e, psh_snoc] at hs
        subst hs
        rw [e] at h4 h5
        refine ⟨fun e => by simp at e, by show b' ≤ 999; omega, by show a' ≤ 999; omega, by simp at h4 ⊢; omega, fun h hh => ?_⟩
        rcases List.mem_append.1 hh with hh | hh
        · obtain ⟨g1, g2, g3, g4, g5⟩ := h5 h (by simp [hh])
          exact ⟨g1, g2, g3, g4, by omega⟩
        · simp only [List.mem_singleton] at hh
          subst hh
          obtain ⟨g1, g2, g3, g4, g5⟩ := h5 g (by simp)
          exact ⟨g1, g2, g3, g4, by simp; omega⟩

theorem Run.ok {ls : List (List UInt8)} {k : Nat} {st : Us} (h : Run ls k st) : Okr st k := by
  induction k generalizing st with
  | zero =>
    have := h.2
    simp only [List.take_zero, rdl, Prod.mk.injEq, Option.some.injEq, true_and] at this
    subst this
    exact ⟨fun _ => ⟨rfl, rfl⟩, by decide, by decide, by simp, by simp⟩
  | succ k ih =>
    have hk : k < ls.length := h.1
    have h2 := h.2
    rw [tks ls k hk] at h2
    obtain ⟨s2, h3⟩ := rdl_good h2
    rw [List.length_take, Nat.min_eq_left (by omega), Nat.zero_add] at h3
    rw [rdl_snoc h3] at h2
    cases hx : ust s2 (ls.getD k []) with
    | none => rw [hx] at h2; simp at h2
    | some st2 =>
      rw [hx] at h2
      simp only [Prod.mk.injEq, Option.some.injEq, true_and] at h2
      subst h2
      exact (ih ⟨by omega, h3⟩).step hx

/-! ### As lines -/
def mkl (m : Int × ByteArray) : List UInt8 := UInt8.ofNat m.1.toNat :: m.2.data.toList
/-- The lines of a hunk that wants so many lines more. -/
def lnh (h : Uk) (b a : Nat) : List (List UInt8) := hdl h.1.toNat (ob h.2.2 + b) h.2.1.toNat (nb h.2.2 + a) :: h.2.2.map mkl
def lns (l : List Uk) : List (List UInt8) := l.flatMap fun h => lnh h 0 0
def lna (st : Us) : List (List UInt8) := match st.1.getLast? with
  | none => []
  | some h => lns st.1.dropLast ++ lnh h st.2.1 st.2.2

theorem lns_snoc (l : List Uk) (h : Uk) : lns (l ++ [h]) = lns l ++ lnh h 0 0 := by unfold lns; rw [List.flatMap_append]; simp
theorem lns_cons (l : List Uk) (h : Uk) : lns (h :: l) = lnh h 0 0 ++ lns l := by unfold lns; rw [List.flatMap_cons]
theorem lna_snoc (l : List Uk) (h : Uk) (b a : Nat) : lna (l ++ [h], b, a) = lns l ++ lnh h b a := by simp [lna]
theorem lna_zero (l : List Uk) : lna (l, 0, 0) = lns l := by
  rcases List.eq_nil_or_concat l with rfl | ⟨l, h, rfl⟩
  · rfl
  · rw [List.concat_eq_append, lna_snoc, lns_snoc]

theorem mkl_byte (c : UInt8) (t : List UInt8) : mkl ((c.toNat : Int), bar t) = c :: t := by
  unfold mkl
  rw [bar_data]
  simp

theorem ust_lines {st st' : Us} {s : List UInt8} {k : Nat} (h : Okr st k) (hs : ust st s = some st') : lna st' = lna st ++ [s] := by
  unfold ust at hs
  split at hs
  · rename_i hz
    cases hd : hdo s with
    | none => rw [hd] at hs; cases hs
    | some x =>
      obtain ⟨a, n, b, m⟩ := x
      rw [hd] at hs
      simp only [Option.map_some, Option.some.injEq] at hs
      subst hs
      have d := (hdo_iff.1 hd).1
      rw [lna_snoc]
      obtain ⟨l, b0, a0⟩ := st
      simp only at hz
      obtain ⟨rfl, rfl⟩ := hz
      rw [lna_zero]
      congr 1
      unfold lnh
      rw [d]
      simp [ob, nb]
  · rename_i hz
    cases s with
    | nil => cases hs
    | cons c t =>
      simp only at hs
      cases hw : wnt c st.2.1 st.2.2 with
      | none => rw [hw] at hs; cases hs
      | some x =>
        obtain ⟨b', a'⟩ := x
        rw [hw] at hs
        simp only [Option.map_some, Option.some.injEq] at hs
        obtain ⟨w1, w2, w3⟩ := wnt_some hw (bar t)
        obtain ⟨l, b, a⟩ := st
        simp only at hs w2 w3 hz
        rcases List.eq_nil_or_concat l with e | ⟨hs0, g, e⟩
        · exact absurd (h.1 e) hz
        rw [List.concat_eq_append] at e
        subst e
        rw [psh_snoc] at hs
        subst hs
        rw [lna_snoc, lna_snoc]
        unfold lnh
        simp only [List.map_append, ob_append, nb_append]
        rw [show ob g.2.2 + ob [((c.toNat : Int), bar t)] + b' = ob g.2.2 + b by omega, show nb g.2.2 + nb [((c.toNat : Int), bar t)] + a' = nb g.2.2 + a by omega]
        simp [mkl_byte]

/-- What is read is written so. -/
theorem Run.lines {ls : List (List UInt8)} {k : Nat} {st : Us} (h : Run ls k st) : lna st = ls.take k := by
  induction k generalizing st with
  | zero =>
    have := h.2
    simp only [List.take_zero, rdl, Prod.mk.injEq, Option.some.injEq, true_and] at this
    subst this
    rfl
  | succ k ih =>
    have hk : k < ls.length := h.1
    have h2 := h.2
    rw [tks ls k hk] at h2
    obtain ⟨s2, h3⟩ := rdl_good h2
    rw [List.length_take, Nat.min_eq_left (by omega), Nat.zero_add] at h3
    rw [rdl_snoc h3] at h2
    cases hx : ust s2 (ls.getD k []) with
    | none => rw [hx] at h2; simp at h2
    | some st2 =>
      rw [hx] at h2
      simp only [Prod.mk.injEq, Option.some.injEq, true_and] at h2
      subst h2
      have hr : Run ls k s2 := ⟨by omega, h3⟩
      rw [ust_lines hr.ok hx, ih hr, tks ls k hk]

/-- A hunk that is written can be read. -/
def Rd (h : Uk) : Prop := 0 ≤ h.1 ∧ h.1 ≤ 60 ∧ 0 ≤ h.2.1 ∧ h.2.1 ≤ 60 ∧ ob h.2.2 ≤ 60 ∧ nb h.2.2 ≤ 60 ∧ ∀ m ∈ h.2.2, sgn m.1

theorem ust_mark (l : List Uk) (o p : Int) (cur : List (Int × ByteArray)) (m : Int × ByteArray) (b a : Nat) (hm : sgn m.1) : ust (l ++ [(o, p, cur)], ob [m] + b, nb [m] + a) (mkl m) = some (l ++ [(o, p, cur ++ [m])], b, a) := by
  obtain ⟨c, t⟩ := m
  unfold ust mkl
  rw [ob_one, nb_one]
  simp only at hm ⊢
  have hb : bar t.data.toList = t := data_bar t
  rcases hm with rfl | rfl | rfl <;> simp [wnt, psh_snoc, hb] <;> omega

theorem rdl_marks (l : List Uk) (o p : Int) (ms cur : List (Int × ByteArray)) (rest : List (List UInt8)) (i : Nat) (h : ∀ m ∈ ms, sgn m.1) : rdl (l ++ [(o, p, cur)], ob ms, nb ms) (ms.map mkl ++ rest) i = rdl (l ++ [(o, p, cur ++ ms)], 0, 0) rest (i + ms.length) := by
  induction ms generalizing cur i with
  | nil => simp [ob, nb]
  | cons m r ih =>
    have e1 : ob (m :: r) = ob [m] + ob r := ob_append [m] r
    have e2 : nb (m :: r) = nb [m] + nb r := nb_append [m] r
    rw [List.map_cons, List.cons_append, rdl, e1, e2, ust_mark l o p cur m _ _ (h m (by simp))]
    show rdl (l ++ [(o, p, cur ++ [m])], ob r, nb r) (r.map mkl ++ rest) (i + 1) = _
    rw [ih _ _ (fun x hx => h x (by simp [hx]))]
    simp only [List.append_assoc, List.singleton_append, List.length_cons]
    congr 1; omega

theorem rdl_hunk (l : List Uk) (h : Uk) (rest : List (List UInt8)) (i : Nat) (hg : Rd h) : rdl (l, 0, 0) (lnh h 0 0 ++ rest) i = rdl (l ++ [h], 0, 0) rest (i + (lnh h 0 0).length) := by
  obtain ⟨o, p, ms⟩ := h
  obtain ⟨g1, g2, g3, g4, g5, g6, g7⟩ := hg
  simp only at g1 g2 g3 g4 g5 g6 g7
  unfold lnh
  simp only [Nat.add_zero]
  have hd : hdo (hdl o.toNat (ob ms) p.toNat (nb ms)) = some (o.toNat, ob ms, p.toNat, nb ms) := hdo_iff.2 ⟨rfl, by omega, by split <;> omega, by omega, by split <;> omega⟩
  rw [List.cons_append, rdl]
  have hs : ust (l, 0, 0) (hdl o.toNat (ob ms) p.toNat (nb ms)) = some (l ++ [(o, p, [])], ob ms, nb ms) := by
    unfold ust
    rw [if_pos ⟨rfl, rfl⟩, hd]
    simp only [Option.map_some]
    rw [Int.toNat_of_nonneg g1, Int.toNat_of_nonneg g3]
  rw [hs]
  show rdl (l ++ [(o, p, [])], ob ms, nb ms) (ms.map mkl ++ rest) (i + 1) = _
  rw [rdl_marks l o p ms [] rest (i + 1) g7, List.nil_append, List.length_cons, List.length_map]
  congr 1; omega

/-- What is written is read. -/
theorem rdl_all (l k : List Uk) (i : Nat) (h : ∀ x ∈ k, Rd x) : rdl (l, 0, 0) (lns k) i = (i + (lns k).length, some (l ++ k, 0, 0)) := by
  induction k generalizing l i with
  | nil => simp [lns, rdl]
  | cons x r ih =>
    rw [lns_cons, rdl_hunk l x _ _ (h x (by simp)), ih _ _ (fun y hy => h y (by simp [hy]))]
    simp only [List.append_assoc, List.singleton_append, List.length_append]
    congr 1; omega

end Go.Proofs.YtjgdicghmkfohacGreatDoor
