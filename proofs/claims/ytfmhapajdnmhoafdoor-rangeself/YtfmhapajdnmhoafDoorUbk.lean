/-
  Hunks as a text and back, as mathematics: the faults too, and what is cut off.
-/
import Derived.Test.YtfmhapajdnmhoafDoorXu
import Derived.Test.YtfmhapajdnmhoafDoorHf
namespace Go.Proofs.YtfmhapajdnmhoafDoor
open Go Dist

/-- Hunks as a text. -/
def prt (l : List Uk) : List UInt8 := joinC 10 (lns l)

/-- A text as hunks: these, the place, the fault. -/
def psr (s : List UInt8) : List Uk × Nat × Int :=
  if 400000 < s.length then ([], 0, 5)
  else match rdl ([], 0, 0) (parts 10 s).1 0 with
    | (i, none) => ([], i, 5)
    | (i, some st) => if (parts 10 s).2 = [] ∧ st.2.1 = 0 ∧ st.2.2 = 0 then (if (hf st.1).2 = 0 then (st.1, 0, 0) else ([], 0, (hf st.1).2)) else ([], i, 5)

theorem psr_long {s : List UInt8} (h : 400000 < s.length) : psr s = ([], 0, 5) := by unfold psr; rw [if_pos h]

theorem psr_bad {s : List UInt8} {i : Nat} (h : ¬ 400000 < s.length) (hr : rdl ([], 0, 0) (parts 10 s).1 0 = (i, none)) : psr s = ([], i, 5) := by
  unfold psr; rw [if_neg h, hr]

theorem psr_open {s : List UInt8} {i : Nat} {st : Us} (h : ¬ 400000 < s.length) (hr : rdl ([], 0, 0) (parts 10 s).1 0 = (i, some st)) (ho : ¬ ((parts 10 s).2 = [] ∧ st.2.1 = 0 ∧ st.2.2 = 0)) : psr s = ([], i, 5) := by
  unfold psr; rw [if_neg h, hr]; simp only; rw [if_neg ho]

theorem psr_fault {s : List UInt8} {i : Nat} {l : List Uk} (h : ¬ 400000 < s.length) (hr : rdl ([], 0, 0) (parts 10 s).1 0 = (i, some (l, 0, 0))) (ho : (parts 10 s).2 = []) (hf0 : (hf l).2 ≠ 0) : psr s = ([], 0, (hf l).2) := by
  unfold psr; rw [if_neg h, hr]; dsimp only; rw [if_pos ⟨ho, rfl, rfl⟩, if_neg hf0]

theorem psr_ok {s : List UInt8} {i : Nat} {l : List Uk} (h : ¬ 400000 < s.length) (hr : rdl ([], 0, 0) (parts 10 s).1 0 = (i, some (l, 0, 0))) (ho : (parts 10 s).2 = []) (hf0 : (hf l).2 = 0) : psr s = (l, 0, 0) := by
  unfold psr; rw [if_neg h, hr]; dsimp only; rw [if_pos ⟨ho, rfl, rfl⟩, if_pos hf0]

theorem rdl_whole {ls : List (List UInt8)} {i : Nat} {st : Us} (h : rdl ([], 0, 0) ls 0 = (i, some st)) : i = ls.length ∧ Run ls ls.length st := by
  have h' : rdl ([], 0, 0) (ls ++ []) 0 = (i, some st) := by rw [List.append_nil]; exact h
  obtain ⟨s2, h2⟩ := rdl_good h'
  rw [h, Nat.zero_add] at h2
  simp only [Prod.mk.injEq, Option.some.injEq] at h2
  obtain ⟨rfl, rfl⟩ := h2
  exact ⟨rfl, Nat.le_refl _, by rw [List.take_length]; exact h⟩

/-- What is read is written so. -/
theorem prt_psr {s : List UInt8} {l : List Uk} {k : Nat} (h : psr s = (l, k, 0)) : prt l = s ∧ (hf l).2 = 0 ∧ k = 0 := by
  unfold psr at h
  split at h
  · simp at h
  · split at h
    · simp at h
    · rename_i i st hr
      split at h
      · rename_i ho
        split at h
        · rename_i h0
          simp only [Prod.mk.injEq] at h
          obtain ⟨rfl, rfl, _⟩ := h
          refine ⟨?_, h0, rfl⟩
          obtain ⟨_, hrun⟩ := rdl_whole hr
          have hl := hrun.lines
          rw [List.take_length] at hl
          obtain ⟨l, b, a⟩ := st
          obtain ⟨o1, o2, o3⟩ := ho
          simp only at o2 o3
          subst o2 o3
          rw [lna_zero] at hl
          have hj := parts_join 10 s
          rw [o1, List.append_nil] at hj
          unfold prt
          rw [← hj, ← hl]
        · rename_i h0
          simp only [Prod.mk.injEq] at h
          exact absurd h.2.2 h0
      · simp at h

theorem hf_rd {l : List Uk} (h : (hf l).2 = 0) : ∀ x ∈ l, Rd x ∧ 0 < chg x.2.2 ∧ sf x.2.2 = 0 := by
  obtain ⟨_, h2⟩ := hf_zero h
  intro x hx
  obtain ⟨i, hi, rfl⟩ := List.mem_iff_getElem.1 hx
  have h3 := (hAt_zero (h2 i hi)).1
  have e : l.getD i (0, 0, []) = l[i] := by simp [hi]
  rw [e] at h3
  obtain ⟨z1, z2, z3, z4, z5, z6, z7, z8⟩ := hOne_zero h3
  exact ⟨⟨z3, z4, z6, z7, by omega, by omega, fun m hm => ((sf_zero z1).2 m hm).1⟩, z2, z1⟩

/-- How many lines of the old file hunks have, and of the new one. -/
def oS : List Uk → Nat
  | [] => 0
  | h :: r => ob h.2.2 + oS r
def nS : List Uk → Nat
  | [] => 0
  | h :: r => nb h.2.2 + nS r
theorem oS_snoc (l : List Uk) (h : Uk) : oS (l ++ [h]) = oS l + ob h.2.2 := by
  induction l with
  | nil => simp [oS]
  | cons x r ih => simp only [List.cons_append, oS, ih]; omega
theorem nS_snoc (l : List Uk) (h : Uk) : nS (l ++ [h]) = nS l + nb h.2.2 := by
  induction l with
  | nil => simp [nS]
  | cons x r ih => simp only [List.cons_append, nS, ih]; omega
theorem nS_sh (l : List Uk) : (nS l : Int) = oS l + sh l := by
  induction l with
  | nil => simp [nS, oS, sh]
  | cons x r ih => simp only [nS, oS, sh]; omega

theorem tkh (l : List Uk) (k : Nat) (hk : k < l.length) : l.take (k + 1) = l.take k ++ [l.getD k (0, 0, [])] := by
  have e : l.getD k (0, 0, []) = l[k] := by simp [hk]
  rw [e, List.take_succ_eq_append_getElem hk]

theorem sums_of {l : List Uk} (h : (hf l).2 = 0) (k : Nat) (hk : k ≤ l.length) : (oS (l.take k) : Int) ≤ eo (l.take k) ∧ eo (l.take k) ≤ 60 ∧ nS (l.take k) ≤ 60 := by
  obtain ⟨_, h2⟩ := hf_zero h
  induction k with
  | zero => simp [oS, nS, eo]
  | succ k ih =>
    obtain ⟨i1, i2, i3⟩ := ih (by omega)
    obtain ⟨a1, a2, a3⟩ := hAt_zero (h2 k (by omega))
    obtain ⟨z1, z2, z3, z4, z5, z6, z7, z8⟩ := hOne_zero a1
    have hn := nS_sh (l.take k)
    rw [tkh l k (by omega), oS_snoc, nS_snoc, eo_snoc]
    omega

theorem marks_le {ms : List (Int × ByteArray)} (h : ∀ m ∈ ms, sgn m.1) : ms.length ≤ ob ms + nb ms := by
  induction ms with
  | nil => simp
  | cons m r ih =>
    have e1 : ob (m :: r) = ob [m] + ob r := ob_append [m] r
    have e2 : nb (m :: r) = nb [m] + nb r := nb_append [m] r
    have := ih (fun x hx => h x (by simp [hx]))
    have h0 := h m (by simp)
    obtain ⟨c, t⟩ := m
    rw [e1, e2, ob_one, nb_one, List.length_cons]
    rcases h0 with h0 | h0 | h0 <;> simp only at h0 <;> subst h0 <;> simp <;> omega

theorem lns_len (l : List Uk) (h : ∀ x ∈ l, Rd x) : (lns l).length ≤ l.length + oS l + nS l := by
  induction l with
  | nil => simp [lns]
  | cons x r ih =>
    have := ih (fun y hy => h y (by simp [hy]))
    have := marks_le (h x (by simp)).2.2.2.2.2.2
    rw [lns_cons, List.length_append]
    unfold lnh
    simp only [List.length_cons, List.length_map, oS, nS]
    omega

theorem spn_len {a n : Nat} (h1 : n ≤ 999) (h2 : (if n = 0 then a else a + 1) ≤ 999) : (spn a n).length ≤ 7 := by
  unfold spn
  rw [List.length_append, List.length_cons]
  have := dd_len h1
  have := dd_len h2
  omega

/-- A line of a hunk that is written: short, without byte 10. -/
theorem line_of {h : Uk} (hr : Rd h) (hs : sf h.2.2 = 0) : ∀ s ∈ lnh h 0 0, (10 : UInt8) ∉ s ∧ s.length ≤ 81 ∧ s ≠ [] := by
  intro s hm
  unfold lnh at hm
  rcases List.mem_cons.1 hm with rfl | hm
  · refine ⟨hdl_not, ?_, by unfold hdl; simp⟩
    obtain ⟨g1, g2, g3, g4, g5, g6, g7⟩ := hr
    have := spn_len (a := h.1.toNat) (n := ob h.2.2 + 0) (by omega) (by split <;> omega)
    have := spn_len (a := h.2.1.toNat) (n := nb h.2.2 + 0) (by omega) (by split <;> omega)
    unfold hdl
    simp only [List.length_append, List.length_cons, List.length_nil]
    omega
  · obtain ⟨m, hm', rfl⟩ := List.mem_map.1 hm
    obtain ⟨m1, m2⟩ := (sf_zero hs).2 m hm'
    obtain ⟨m3, m4⟩ := lf_zero m2
    unfold mkl
    refine ⟨?_, by simp; simpa using m4, by simp⟩
    intro h10
    rcases List.mem_cons.1 h10 with e | e
    · rcases m1 with m1 | m1 | m1 <;> rw [m1] at e <;> simp at e
    · exact m3 e

theorem lines_of {l : List Uk} (h : (hf l).2 = 0) : ∀ s ∈ lns l, (10 : UInt8) ∉ s ∧ s.length ≤ 81 ∧ s ≠ [] := by
  intro s hs
  unfold lns at hs
  obtain ⟨x, hx, hs⟩ := List.mem_flatMap.1 hs
  obtain ⟨r1, _, r3⟩ := hf_rd h x hx
  exact line_of r1 r3 s hs

theorem joinC_le {l : List (List UInt8)} (h : ∀ s ∈ l, s.length ≤ 81) : (joinC 10 l).length ≤ 82 * l.length := by
  induction l with
  | nil => simp [joinC]
  | cons s t ih =>
    have := ih (fun x hx => h x (by simp [hx]))
    have := h s (by simp)
    simp [joinC]; omega

theorem prt_len {l : List Uk} (h : (hf l).2 = 0) : (lns l).length ≤ 180 ∧ (prt l).length ≤ 14760 := by
  have h1 := lns_len l (fun x hx => (hf_rd h x hx).1)
  obtain ⟨hl, _⟩ := hf_zero h
  have hs := sums_of h l.length (Nat.le_refl _)
  rw [List.take_length] at hs
  have h2 : (lns l).length ≤ 180 := by omega
  refine ⟨h2, ?_⟩
  have := joinC_le (fun s hs => ((lines_of h) s hs).2.1)
  unfold prt
  omega

/-- What is written is read. -/
theorem psr_prt {l : List Uk} (h : (hf l).2 = 0) : psr (prt l) = (l, 0, 0) := by
  have hp : parts 10 (prt l) = (lns l, []) := by
    have := parts_of 10 (lns l) [] (fun x hx => (lines_of h x hx).1) (by simp)
    rwa [List.append_nil] at this
  have hlen := (prt_len h).2
  have hr := rdl_all [] l 0 (fun x hx => (hf_rd h x hx).1)
  rw [List.nil_append] at hr
  refine psr_ok (i := 0 + (lns l).length) (by omega) ?_ ?_ h
  · rw [hp]; exact hr
  · rw [hp]

theorem prt_nil {l : List Uk} (h : prt l = []) : l = [] := by
  cases l with
  | nil => rfl
  | cons x r =>
    unfold prt at h
    rw [lns_cons] at h
    unfold lnh at h
    simp [joinC] at h

/-- What is cut off within is none. -/
theorem psr_cut {l : List Uk} {h : Uk} {ms : List (Int × ByteArray)} {m : Int × ByteArray} (hf0 : (hf (l ++ [h])).2 = 0) (hm : h.2.2 = ms ++ [m]) (j : Nat) (hj : j ≤ m.2.size) :
    ∃ i, psr ((prt (l ++ [h])).take ((prt (l ++ [h])).length - 1 - j)) = ([], i, 5) ∧ 0 < i := by
  obtain ⟨ini, hini⟩ : ∃ ini, ini = lns l ++ (hdl h.1.toNat (ob h.2.2 + 0) h.2.1.toNat (nb h.2.2 + 0) :: ms.map mkl) := ⟨_, rfl⟩
  have e : lns (l ++ [h]) = ini ++ [mkl m] := by
    rw [lns_snoc, hini]
    unfold lnh
    rw [List.append_assoc, List.cons_append]
    congr 2
    rw [hm, List.map_append]; rfl
  have hpos : 0 < ini.length := by rw [hini, List.length_append, List.length_cons]; omega
  have hlines := lines_of hf0
  rw [e] at hlines
  obtain ⟨q, hq⟩ : ∃ q, q = (mkl m).take ((mkl m).length - j) := ⟨_, rfl⟩
  have hml : (mkl m).length = m.2.size + 1 := by unfold mkl; rw [List.length_cons, Lib.size_eq]
  have ht : (prt (l ++ [h])).take ((prt (l ++ [h])).length - 1 - j) = joinC 10 ini ++ q := by
    unfold prt
    rw [e, joinC_append]
    have e2 : joinC 10 [mkl m] = mkl m ++ [10] := rfl
    rw [e2, List.take_append, List.length_append, List.length_append]
    rw [List.take_of_length_le (by simp; omega)]
    congr 1
    rw [hq, List.take_append]
    obtain ⟨n1, hn1⟩ : ∃ n, (joinC 10 ini).length + ((mkl m).length + List.length [(10 : UInt8)]) - 1 - j - (joinC 10 ini).length = n := ⟨_, rfl⟩
    have hn2 : n1 = (mkl m).length - j := by simp at hn1; omega
    rw [hn1, hn2, show (mkl m).length - j - (mkl m).length = 0 by omega]
    simp
  have hq0 : q ≠ [] := by
    intro e0
    have := congrArg List.length (hq.symm.trans e0)
    rw [List.length_take] at this
    simp at this
    omega
  have hp : parts 10 (joinC 10 ini ++ q) = (ini, q) := by
    refine parts_of 10 ini q (fun x hx => (hlines x (by simp [hx])).1) ?_
    intro hx
    rw [hq] at hx
    exact (hlines (mkl m) (by simp)).1 (List.mem_of_mem_take hx)
  have hr := rdl_all [] (l ++ [h]) 0 (fun x hx => (hf_rd hf0 x hx).1)
  rw [e] at hr
  obtain ⟨st, hst⟩ := rdl_good hr
  have hlen := (prt_len hf0).2
  refine ⟨0 + ini.length, ?_, by omega⟩
  rw [ht]
  refine psr_open (st := st) ?_ ?_ ?_
  · rw [← ht, List.length_take]; omega
  · rw [hp]; exact hst
  · rw [hp]; exact fun h => hq0 h.1

end Go.Proofs.YtfmhapajdnmhoafDoor
