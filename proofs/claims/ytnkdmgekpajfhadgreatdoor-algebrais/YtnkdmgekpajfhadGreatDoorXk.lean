/-
  The plain mathematics of hunks that are done to a file: what comes of it, hunk by hunk from the first one on, and from the last one on; that turned hunks lead back; that pieces of a script lead from the one file to the other. The plain mathematics of hunks that are done as near as may be: what is let go, which place comes first, hunk by hunk; that it is done where it is said if all fits, and as much further behind as lines were put ahead.
-/
import Derived.Test.YtnkdmgekpajfhadGreatDoorXi

namespace Go.Proofs.YtnkdmgekpajfhadGreatDoor.Dist

abbrev Hk := Int × Int × List (Int × ByteArray)

/-- Where the hunk ahead of a place ends. -/
def eN (l : List Hk) (k : Nat) : Nat := (eo (l.take k)).toNat
/-- Lines stand at a place. -/
def stB (xs : List ByteArray) (k : Nat) (o : List ByteArray) : Bool := decide (k + o.length ≤ xs.length ∧ (xs.drop k).take o.length = o)
def stH (xs : List ByteArray) (h : Hk) : Bool := stB xs h.1.toNat (lessOf 43 h.2.2)
/-- What comes of the lines ahead of where a hunk ends. -/
def sO (xs : List ByteArray) (l : List Hk) : Nat → List ByteArray
  | 0 => []
  | k + 1 => sO xs l k ++ ((xs.take (l.getD k (0, 0, [])).1.toNat).drop (eN l k) ++ lessOf 45 (l.getD k (0, 0, [])).2.2)
/-- What comes of all. -/
def sR (xs : List ByteArray) (l : List Hk) : List ByteArray := sO xs l l.length ++ xs.drop (eN l l.length)
/-- So many lines at a place by others. -/
def rep (A : List ByteArray) (k n : Nat) (x : List ByteArray) : List ByteArray := A.take k ++ (x ++ A.drop (k + n))
/-- From the last hunk on. -/
def bO (xs : List ByteArray) (l : List Hk) : Nat → List ByteArray
  | 0 => xs
  | m + 1 => rep (bO xs l m) (l.getD (l.length - 1 - m) (0, 0, [])).1.toNat (lessOf 43 (l.getD (l.length - 1 - m) (0, 0, [])).2.2).length (lessOf 45 (l.getD (l.length - 1 - m) (0, 0, [])).2.2)

/-- Hunks that stand where they may. -/
def Good (l : List Hk) : Prop := Fit l ∧ ∀ h ∈ l, 0 ≤ h.1 ∧ ∀ m ∈ h.2.2, sgn m.1
def Stand (xs : List ByteArray) (l : List Hk) : Prop := ∀ j, j < l.length → stH xs (l.getD j (0, 0, [])) = true

theorem hk_mem {l : List Hk} {k : Nat} (hk : k < l.length) : l.getD k (0, 0, []) ∈ l := by
  have e : l.getD k (0, 0, []) = l[k] := by simp [hk]
  rw [e]; exact List.getElem_mem _

theorem take_hk {l : List Hk} {k : Nat} (hk : k < l.length) : l.take (k + 1) = l.take k ++ [l.getD k (0, 0, [])] := by
  have e : l.getD k (0, 0, []) = l[k] := by simp [hk]
  rw [e, List.take_succ_eq_append_getElem hk]

theorem eN_zero (l : List Hk) : eN l 0 = 0 := by simp [eN, eo]

theorem Good.at {l : List Hk} (h : Good l) {k : Nat} (hk : k < l.length) : 0 ≤ (l.getD k (0, 0, [])).1 ∧ (∀ m ∈ (l.getD k (0, 0, [])).2.2, sgn m.1) ∧ eN l k ≤ (l.getD k (0, 0, [])).1.toNat ∧ eN l (k + 1) = (l.getD k (0, 0, [])).1.toNat + (lessOf 43 (l.getD k (0, 0, [])).2.2).length := by
  obtain ⟨h1, h2⟩ := h.2 _ (hk_mem hk)
  refine ⟨h1, h2, ?_, ?_⟩
  · have := (h.1 k hk).1
    unfold eN; omega
  · unfold eN
    rw [take_hk hk, eo_snoc, ob_less _ h2]
    omega

theorem stB_iff {xs : List ByteArray} {k : Nat} {o : List ByteArray} : stB xs k o = true ↔ k + o.length ≤ xs.length ∧ (xs.drop k).take o.length = o := by
  unfold stB; exact decide_eq_true_iff

theorem Stand.at {xs : List ByteArray} {l : List Hk} (h : Stand xs l) {k : Nat} (hk : k < l.length) : (l.getD k (0, 0, [])).1.toNat + (lessOf 43 (l.getD k (0, 0, [])).2.2).length ≤ xs.length ∧ (xs.drop (l.getD k (0, 0, [])).1.toNat).take (lessOf 43 (l.getD k (0, 0, [])).2.2).length = lessOf 43 (l.getD k (0, 0, [])).2.2 := by
  have := h k hk
  unfold stH at this
  exact stB_iff.1 this

/-- From the last one on it comes to the same. -/
theorem bO_part {xs : List ByteArray} {l : List Hk} (hg : Good l) (hs : Stand xs l) (m : Nat) (hm : m ≤ l.length) :
    (bO xs l m).take (eN l (l.length - m)) = xs.take (eN l (l.length - m)) ∧ sO xs l (l.length - m) ++ (bO xs l m).drop (eN l (l.length - m)) = sR xs l := by
  induction m with
  | zero => exact ⟨rfl, rfl⟩
  | succ m ih =>
    obtain ⟨i1, i2⟩ := ih (by omega)
    have hk : l.length - 1 - m < l.length := by omega
    have e0 : l.length - m = (l.length - 1 - m) + 1 := by omega
    have e1 : l.length - (m + 1) = l.length - 1 - m := by omega
    obtain ⟨g1, g2, g3, g4⟩ := hg.at hk
    obtain ⟨s1, s2⟩ := hs.at hk
    rw [e0] at i1 i2
    rw [e1, bO]
    unfold rep
    obtain ⟨i, hi⟩ : ∃ i, l.length - 1 - m = i := ⟨_, rfl⟩
    rw [hi] at i1 i2 g1 g2 g3 g4 s1 s2 ⊢
    rw [sO] at i2
    obtain ⟨h, hh⟩ : ∃ h, l.getD i (0, 0, []) = h := ⟨_, rfl⟩
    rw [hh] at i2 g1 g2 g3 g4 s1 s2 ⊢
    rw [← g4]
    have hB : (bO xs l m).take h.1.toNat = xs.take h.1.toNat := by
      have := congrArg (List.take h.1.toNat) i1
      rw [List.take_take, List.take_take, Nat.min_eq_left (by omega)] at this
      exact this
    rw [hB]
    constructor
    · rw [List.take_append_of_le_length (by rw [List.length_take]; omega), List.take_take, Nat.min_eq_left g3]
    · rw [List.drop_append_of_le_length (by rw [List.length_take]; omega), ← i2]
      simp only [List.append_assoc]

theorem bO_all {xs : List ByteArray} {l : List Hk} (hg : Good l) (hs : Stand xs l) : bO xs l l.length = sR xs l := by
  have := (bO_part hg hs l.length (Nat.le_refl _)).2
  rw [Nat.sub_self, eN_zero] at this
  simpa [sO] using this

theorem sO_more (xs : List ByteArray) (l r : List Hk) (k : Nat) (h : k ≤ l.length) : sO xs (l ++ r) k = sO xs l k := by
  induction k with
  | zero => rfl
  | succ k ih =>
    have e : (l ++ r).getD k (0, 0, []) = l.getD k (0, 0, []) := by simp [List.getElem?_append, show k < l.length by omega]
    have e2 : eN (l ++ r) k = eN l k := by unfold eN; rw [List.take_append_of_le_length (by omega)]
    rw [sO, sO, ih (by omega), e, e2]

theorem less_append (c : Int) (a b : List (Int × ByteArray)) : lessOf c (a ++ b) = lessOf c a ++ lessOf c b := by
  unfold lessOf; rw [List.filter_append, List.map_append]

theorem less_take {ms : List (Int × ByteArray)} (hs : ∀ m ∈ ms, sgn m.1) (k : Nat) : (lessOf 43 ms).take (ob (ms.take k)) = lessOf 43 (ms.take k) := by
  have h := ob_less (ms.take k) fun m hm => hs m (List.mem_of_mem_take hm)
  have e : lessOf 43 ms = lessOf 43 (ms.take k) ++ lessOf 43 (ms.drop k) := by rw [← less_append, List.take_append_drop]
  rw [e, ← h, List.take_left]

theorem cut_stand {ms : List (Int × ByteArray)} (hs : ∀ m ∈ ms, sgn m.1) (n : Nat) : Good (cut ms n) ∧ Stand (lessOf 43 ms) (cut ms n) := by
  obtain ⟨c1, c2, _, _⟩ := cut_holds ms hs n
  refine ⟨⟨c2, fun h hh => ?_⟩, fun j hj => ?_⟩
  · obtain ⟨a, b, _, _, rfl, _⟩ := c1 h hh
    exact ⟨Int.natCast_nonneg _, fun m hm => hs m (List.mem_of_mem_take (List.mem_of_mem_drop hm))⟩
  · obtain ⟨a, b, hab, hb, e, _⟩ := c1 _ (hk_mem hj)
    rw [e]
    show stB (lessOf 43 ms) ((ob (ms.take a) : Int)).toNat (lessOf 43 ((ms.take b).drop a)) = true
    rw [Int.toNat_natCast, stB_iff]
    have e1 : lessOf 43 ms = lessOf 43 (ms.take a) ++ (lessOf 43 ((ms.take b).drop a) ++ lessOf 43 (ms.drop b)) := by
      rw [← List.append_assoc, ← less_append, ← tk_drop ms a b (by omega), ← less_append, List.take_append_drop]
    have h := ob_less (ms.take a) fun m hm => hs m (List.mem_of_mem_take hm)
    rw [← h, e1]
    refine ⟨by simp only [List.length_append]; omega, ?_⟩
    rw [List.drop_left, List.take_left]

/-- What the pieces that end ahead of a place make of the lines. -/
theorem cl_makes (ms : List (Int × ByteArray)) (hs : ∀ m ∈ ms, sgn m.1) (n k : Nat) (hk : k ≤ ms.length + 1) :
    sO (lessOf 43 ms) (cl ms n k) (cl ms n k).length ++ ((lessOf 43 ms).take (ob (ms.take (k - rl ms n k)))).drop (eo (cl ms n k)).toNat = lessOf 45 (ms.take (k - rl ms n k)) := by
  induction k with
  | zero => simp [cl, rl, sO, ob, lessOf]
  | succ k ih =>
    have ih := ih (by omega)
    obtain ⟨_, _, i3, _, _, _⟩ := cl_holds ms hs n k (by omega)
    obtain ⟨r1, r2, r3⟩ := rl_run (ms := ms) (n := n) k
    by_cases h : near ms n k = true
    · rw [rl_in h, cl_in h, show k + 1 - (rl ms n k + 1) = k - rl ms n k by omega]
      exact ih
    · have h : near ms n k = false := by simpa using h
      rw [rl_out h, Nat.sub_zero]
      have hm : (∃ t, ms.take (k + 1) = ms.take k ++ [((32 : Int), t)]) ∨ ms.take (k + 1) = ms.take k := by
        by_cases e : k < ms.length
        · refine .inl ⟨(ms.getD k (0, ByteArray.empty)).2, ?_⟩
          rw [tk_snoc ms k e, ← not_near e h]
        · refine .inr ?_
          rw [List.take_of_length_le (by omega), List.take_of_length_le (by omega)]
      -- a kept mark more, or none
      have hstep : ∀ (P : List ByteArray) (e : Nat), e ≤ ob (ms.take k) → P ++ ((lessOf 43 ms).take (ob (ms.take k))).drop e = lessOf 45 (ms.take k) → P ++ ((lessOf 43 ms).take (ob (ms.take (k + 1)))).drop e = lessOf 45 (ms.take (k + 1)) := by
        intro P e he hP
        rcases hm with ⟨t, hm⟩ | hm
        · rw [less_take hs] at hP ⊢
          rw [hm, less_append, less_append]
          have hl := ob_less (ms.take k) fun m hm => hs m (List.mem_of_mem_take hm)
          rw [List.drop_append_of_le_length (by omega), ← List.append_assoc, hP]
          rfl
        · rw [hm]; exact hP
      by_cases hr : rl ms n k = 0
      · rw [hr, Nat.sub_zero] at ih i3
        rw [cl_out h hr]
        exact hstep _ _ (by omega) ih
      · rw [cl_end h hr]
        obtain ⟨a, ha⟩ : ∃ a, k - rl ms n k = a := ⟨_, rfl⟩
        rw [ha] at ih i3 ⊢
        have hal : a ≤ k := by omega
        have hsp := tk_drop ms a k hal
        have eO : ob (ms.take k) = ob (ms.take a) + ob ((ms.take k).drop a) := by conv => lhs; rw [hsp, ob_append]
        have e1 : (cl ms n k ++ [pc ms a k]).length = (cl ms n k).length + 1 := by simp
        have e2 : (cl ms n k ++ [pc ms a k]).getD (cl ms n k).length (0, 0, []) = pc ms a k := by simp
        have e3 : eN (cl ms n k ++ [pc ms a k]) (cl ms n k).length = (eo (cl ms n k)).toNat := by unfold eN; rw [List.take_left]
        have e4 : (eo (cl ms n k ++ [pc ms a k])).toNat = ob (ms.take k) := by
          rw [eo_snoc]
          show ((ob (ms.take a) : Int) + ob ((ms.take k).drop a)).toNat = _
          omega
        rw [e1, sO, e2, e3, sO_more _ _ _ _ (Nat.le_refl _), e4]
        refine hstep _ _ (Nat.le_refl _) ?_
        show (sO (lessOf 43 ms) (cl ms n k) (cl ms n k).length ++ (((lessOf 43 ms).take ((ob (ms.take a) : Int)).toNat).drop (eo (cl ms n k)).toNat ++ lessOf 45 ((ms.take k).drop a))) ++ _ = _
        rw [Int.toNat_natCast, ← List.append_assoc, ih, ← less_append, ← hsp, List.drop_of_length_le (by rw [List.length_take]; omega), List.append_nil]

/-- Pieces of a script lead from the one file to the other. -/
theorem cut_makes {ms : List (Int × ByteArray)} (hs : ∀ m ∈ ms, sgn m.1) (n : Nat) : sR (lessOf 43 ms) (cut ms n) = lessOf 45 ms := by
  have h := cl_makes ms hs n (ms.length + 1) (Nat.le_refl _)
  rw [cut_rl, Nat.sub_zero, List.take_of_length_le (l := ms) (by omega)] at h
  unfold sR
  have e : eN (cut ms n) (cut ms n).length = (eo (cut ms n)).toNat := by unfold eN; rw [List.take_length]
  rw [e]
  have hl := ob_less ms hs
  rw [← hl, List.take_length] at h
  exact h

/-- The first hunk that does not stand. -/
def clF (xs : List ByteArray) (l : List Hk) : Nat → Nat → Option Nat
  | 0, _ => none
  | f + 1, k => if stH xs (l.getD k (0, 0, [])) = true then clF xs l f (k + 1) else some k
def clash (xs : List ByteArray) (l : List Hk) : Option Nat := clF xs l l.length 0

theorem clF_skip (xs : List ByteArray) (l : List Hk) (m k : Nat) (h : ∀ j, j < k → stH xs (l.getD j (0, 0, [])) = true) (hk : k ≤ m) : clF xs l m 0 = clF xs l (m - k) k := by
  induction k with
  | zero => rfl
  | succ k ih => rw [ih (fun j hj => h j (by omega)) (by omega), show m - k = (m - (k + 1)) + 1 by omega, clF, if_pos (h k (by omega))]

theorem clash_at {xs : List ByteArray} {l : List Hk} {k : Nat} (h : ∀ j, j < k → stH xs (l.getD j (0, 0, [])) = true) (hk : k < l.length) (hb : stH xs (l.getD k (0, 0, [])) = false) : clash xs l = some k := by
  unfold clash
  rw [clF_skip xs l l.length k h (by omega), show l.length - k = (l.length - (k + 1)) + 1 by omega, clF, if_neg (by rw [hb]; simp)]

theorem clash_none {xs : List ByteArray} {l : List Hk} (h : Stand xs l) : clash xs l = none := by
  unfold clash
  rw [clF_skip xs l l.length l.length h (Nat.le_refl _), Nat.sub_self, clF]

end Go.Proofs.YtnkdmgekpajfhadGreatDoor.Dist

namespace Go.Proofs.YtnkdmgekpajfhadGreatDoor.Dist

/-- A mark is kept. -/
def kp (s : List (Int × ByteArray)) (j : Nat) : Bool := (s.getD j (0, ByteArray.empty)).1 == 32
/-- How many marks are let go at the beginning; where the rest ends. -/
def hdF (s : List (Int × ByteArray)) : Nat → Nat → Nat
  | 0, h => h
  | f + 1, h => if kp s h = true then hdF s f (h + 1) else h
def tlF (s : List (Int × ByteArray)) : Nat → Nat → Nat
  | 0, t => t
  | f + 1, t => if t = 0 then 0 else if kp s (t - 1) = true then tlF s f (t - 1) else t
def hd (s : List (Int × ByteArray)) (f : Nat) : Nat := hdF s f 0
def tl (s : List (Int × ByteArray)) (f : Nat) : Nat := tlF s f s.length
/-- What is left of a hunk's marks. -/
def ptM (s : List (Int × ByteArray)) (f : Nat) : List (Int × ByteArray) := (s.take (tl s f)).drop (hd s f)

theorem hdF_spec (s : List (Int × ByteArray)) : ∀ (f h : Nat), (∀ j, j < h → kp s j = true) → h ≤ hdF s f h ∧ hdF s f h ≤ h + f ∧ ∀ j, j < hdF s f h → kp s j = true
  | 0, h, hh => ⟨Nat.le_refl _, Nat.le_refl _, hh⟩
  | f + 1, h, hh => by
    rw [hdF]
    by_cases e : kp s h = true
    · rw [if_pos e]
      obtain ⟨h1, h2, h3⟩ := hdF_spec s f (h + 1) fun j hj => by
        by_cases e2 : j = h
        · rw [e2]; exact e
        · exact hh j (by omega)
      exact ⟨by omega, by omega, h3⟩
    · rw [if_neg e]; exact ⟨Nat.le_refl _, by omega, hh⟩

theorem tlF_spec (s : List (Int × ByteArray)) : ∀ (f t : Nat), (∀ j, t ≤ j → j < s.length → kp s j = true) → tlF s f t ≤ t ∧ t ≤ tlF s f t + f ∧ ∀ j, tlF s f t ≤ j → j < s.length → kp s j = true
  | 0, t, ht => ⟨Nat.le_refl _, Nat.le_refl _, ht⟩
  | f + 1, t, ht => by
    rw [tlF]
    by_cases e0 : t = 0
    · rw [if_pos e0]; subst e0; exact ⟨Nat.le_refl _, by omega, ht⟩
    · rw [if_neg e0]
      by_cases e : kp s (t - 1) = true
      · rw [if_pos e]
        obtain ⟨h1, h2, h3⟩ := tlF_spec s f (t - 1) fun j hj hl => by
          by_cases e2 : j = t - 1
          · rw [e2]; exact e
          · exact ht j (by omega) hl
        exact ⟨by omega, by omega, h3⟩
      · rw [if_neg e]; exact ⟨Nat.le_refl _, by omega, ht⟩

theorem hd_spec (s : List (Int × ByteArray)) (f : Nat) : hd s f ≤ f ∧ ∀ j, j < hd s f → kp s j = true := by
  obtain ⟨_, h2, h3⟩ := hdF_spec s f 0 fun j hj => absurd hj (Nat.not_lt_zero _)
  exact ⟨by unfold hd; omega, h3⟩
theorem tl_spec (s : List (Int × ByteArray)) (f : Nat) : tl s f ≤ s.length ∧ s.length ≤ tl s f + f ∧ ∀ j, tl s f ≤ j → j < s.length → kp s j = true :=
  tlF_spec s f s.length fun j h1 h2 => absurd h2 (by omega)

/-- A mark that is not kept. -/
theorem chg_ex {s : List (Int × ByteArray)} (h : 0 < chg s) : ∃ c, c < s.length ∧ kp s c = false := by
  unfold chg at h
  obtain ⟨m, hm⟩ := List.length_pos_iff_exists_mem.1 h
  obtain ⟨h1, h2⟩ := List.mem_filter.1 hm
  obtain ⟨i, hi, rfl⟩ := List.mem_iff_getElem.1 h1
  exact ⟨i, hi, by unfold kp; simp only [List.getD_eq_getElem?_getD, List.getElem?_eq_getElem hi, Option.getD_some]; simpa using h2⟩

theorem hd_lt {s : List (Int × ByteArray)} {c : Nat} (hc : kp s c = false) (f : Nat) : hd s f ≤ c := by
  by_cases e : hd s f ≤ c
  · exact e
  · have := (hd_spec s f).2 c (by omega)
    rw [hc] at this; cases this
theorem tl_gt {s : List (Int × ByteArray)} {c : Nat} (hl : c < s.length) (hc : kp s c = false) (f : Nat) : c < tl s f := by
  by_cases e : c < tl s f
  · exact e
  · have := (tl_spec s f).2.2 c (by omega) hl
    rw [hc] at this; cases this

theorem ptM_zero (s : List (Int × ByteArray)) : ptM s 0 = s ∧ hd s 0 = 0 := by
  refine ⟨?_, rfl⟩
  show (s.take s.length).drop 0 = s
  rw [List.take_length]; rfl

/-- The first place that serves. -/
def nrF (p : Int → Bool) : Nat → Nat → Option Int
  | 0, _ => none
  | m + 1, n => if p (-(n : Int)) = true then some (-(n : Int)) else if p n = true then some (n : Int) else nrF p m (n + 1)

/-- Old lines stand at a place that is not ahead of an end. -/
def pB (A : List ByteArray) (E : Int) (o : List ByteArray) (at' : Int) : Bool := decide (E ≤ at') && (decide (at' + o.length ≤ A.length) && decide ((A.drop at'.toNat).take o.length = o))
def big (A : List ByteArray) (h : Hk) : Bool := decide ((60 : Int) < A.length + nb h.2.2 - ob h.2.2)
/-- Where a hunk is wanted, and so much further. -/
def plc (S : Int) (h : Hk) (f : Nat) (d : Int) : Int := h.1 + S + hd h.2.2 f + d
def pF (A : List ByteArray) (E S : Int) (h : Hk) (f : Nat) (d : Int) : Bool := pB A E (lessOf 43 (ptM h.2.2 f)) (plc S h f d)
def trF (A : List ByteArray) (E S : Int) (h : Hk) (far : Nat) : Nat → Nat → Option (Nat × Int)
  | 0, _ => none
  | m + 1, f => match nrF (pF A E S h f) (far + 1) 0 with
    | some d => some (f, d)
    | none => trF A E S h far m (f + 1)
def doH (A : List ByteArray) (E S : Int) (h : Hk) (fuzz far : Nat) : Option (Nat × Int) := if big A h = true then none else trF A E S h far (fuzz + 1) 0

/-- Lines, where the last hunk that was done ends, what they put less what they take, what is left, how far each went. -/
structure LS where
  A : List ByteArray
  E : Int
  S : Int
  L : List Hk
  W : List Int

/-- What holds of lines on the way. -/
structure OkS (Q : ByteArray → Prop) (n : Nat) (xs : List ByteArray) (k : Nat) (s : LS) : Prop where
  len : s.A.length ≤ 60
  e0 : 0 ≤ s.E
  e1 : s.E ≤ s.A.length
  sz : (s.A.length : Int) = xs.length + s.S
  ll : s.L.length ≤ k
  wl : s.W.length = k
  q : ∀ x ∈ s.A, Q x
  all : s.L.length = k → s.A = xs
  wb : ∀ d ∈ s.W, d = -1000 ∨ -(n : Int) ≤ d ∧ d ≤ n

theorem less_mem {c : Int} {s : List (Int × ByteArray)} {x : ByteArray} (h : x ∈ lessOf c s) : ∃ m ∈ s, m.2 = x := by
  unfold lessOf at h
  obtain ⟨m, hm, e⟩ := List.mem_map.1 h
  exact ⟨m, (List.mem_filter.1 hm).1, e⟩

theorem rep_len {A x : List ByteArray} {k n : Nat} (h : k + n ≤ A.length) : (rep A k n x).length = A.length + x.length - n := by
  unfold rep
  simp only [List.length_append, List.length_take, List.length_drop]; omega

end Go.Proofs.YtnkdmgekpajfhadGreatDoor.Dist
