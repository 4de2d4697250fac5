/-
  The plain mathematics of hunks that are done to a file: what comes of it, hunk by hunk from the first one on, and from the last one on; that turned hunks lead back; that pieces of a script lead from the one file to the other. The plain mathematics of hunks that are done as near as may be: what is let go, which place comes first, hunk by hunk; that it is done where it is said if all fits, and as much further behind as lines were put ahead.
-/
import Derived.Test.YtnkdmgekpajfhaeDoorXi
namespace Go.Proofs.YtnkdmgekpajfhaeDoor.Dist

abbrev Hk := Int × Int × List (Int × ByteArray)

/-- Where the hunk ahead of a place ends. -/
def eN (l : List Hk) (k : Nat) : Nat := (eo (l.take k)).toNat
/-- Lines stand at a place. -/
def stB (xs : List ByteArray) (k : Nat) (o : List ByteArray) : Bool := decide (k + o.length ≤ xs.length ∧ (xs.drop k).take o.length = o)
def stH (xs : List ByteArray) (h : Hk) : Bool := stB xs h.1.toNat (lessOf 43 h.2.2)
/-- What comes of the lines ahead of where a hunk ends. -/
def sO (xs : List ByteArray) (l : List Hk) : Nat → List ByteArray
  | 0 => []
  | k + 1 => sO xs l k ++ ((xs.take (l.getD k (0, 0, [])).1.toNat).drop (eN l k) ++ lessOf 45 (l.getD k (0, 0, [])).2.2)
/-- What comes of all. -/
def sR (xs : List ByteArray) (l : List Hk) : List ByteArray := sO xs l l.length ++ xs.drop (eN l l.length)
/-- So many lines at a place by others. -/
def rep (A : List ByteArray) (k n : Nat) (x : List ByteArray) : List ByteArray := A.take k ++ (x ++ A.drop (k + n))
/-- From the last hunk on. -/
def bO (xs : List ByteArray) (l : List Hk) : Nat → List ByteArray
  | 0 => xs
  | m + 1 => rep (bO xs l m) (l.getD (l.length - 1 - m) (0, 0, [])).1.toNat (lessOf 43 (l.getD (l.length - 1 - m) (0, 0, [])).2.2).length (lessOf 45 (l.getD (l.length - 1 - m) (0, 0, [])).2.2)

/-- Hunks that stand where they may. -/
def Good (l : List Hk) : Prop := Fit l ∧ ∀ h ∈ l, 0 ≤ h.1 ∧ ∀ m ∈ h.2.2, sgn m.1
def Stand (xs : List ByteArray) (l : List Hk) : Prop := ∀ j, j < l.length → stH xs (l.getD j (0, 0, [])) = true

theorem hk_mem {l : List Hk} {k : Nat} (hk : k < l.length) : l.getD k (0, 0, []) ∈ l := by
  have e : l.getD k (0, 0, []) = l[k] := by simp [hk]
  rw [e]; exact List.getElem_mem _

theorem take_hk {l : List Hk} {k : Nat} (hk : k < l.length) : l.take (k + 1) = l.take k ++ [l.getD k (0, 0, [])] := by
  have e : l.getD k (0, 0, []) = l[k] := by simp [hk]
  rw [e, List.take_succ_eq_append_getElem hk]

theorem eN_zero (l : List Hk) : eN l 0 = 0 := by simp [eN, eo]

theorem Good.at {l : List Hk} (h : Good l) {k : Nat} (hk : k < l.length) : 0 ≤ (l.getD k (0, 0, [])).1 ∧ (∀ m ∈ (l.getD k (0, 0, [])).2.2, sgn m.1) ∧ eN l k ≤ (l.getD k (0, 0, [])).1.toNat ∧ eN l (k + 1) = (l.getD k (0, 0, [])).1.toNat + (lessOf 43 (l.getD k (0, 0, [])).2.2).length := by
  obtain ⟨h1, h2⟩ := h.2 _ (hk_mem hk)
  refine ⟨h1, h2, ?_, ?_⟩
  · have := (h.1 k hk).1
    unfold eN; omega
  · unfold eN
    rw [take_hk hk, eo_snoc, ob_less _ h2]
    omega

theorem stB_iff {xs : List ByteArray} {k : Nat} {o : List ByteArray} : stB xs k o = true ↔ k + o.length ≤ xs.length ∧ (xs.drop k).take o.length = o := by
  unfold stB; exact decide_eq_true_iff

theorem Stand.at {xs : List ByteArray} {l : List Hk} (h : Stand xs l) {k : Nat} (hk : k < l.length) : (l.getD k (0, 0, [])).1.toNat + (lessOf 43 (l.getD k (0, 0, [])).2.2).length ≤ xs.length ∧ (xs.drop (l.getD k (0, 0, [])).1.toNat).take (lessOf 43 (l.getD k (0, 0, [])).2.2).length = lessOf 43 (l.getD k (0, 0, [])).2.2 := by
  have := h k hk
  unfold stH at this
  exact stB_iff.1 this

theorem take_split (xs : List ByteArray) (a b : Nat) (h : a ≤ b) : xs.take b = xs.take a ++ (xs.take b).drop a := by
  have : (xs.take b).take a = xs.take a := by rw [List.take_take, Nat.min_eq_left h]
  rw [← this, List.take_append_drop]

/-- From the last one on it comes to the same. -/
theorem bO_part {xs : List ByteArray} {l : List Hk} (hg : Good l) (hs : Stand xs l) (m : Nat) (hm : m ≤ l.length) :
    (bO xs l m).take (eN l (l.length - m)) = xs.take (eN l (l.length - m)) ∧ sO xs l (l.length - m) ++ (bO xs l m).drop (eN l (l.length - m)) = sR xs l := by
  induction m with
  | zero => exact ⟨rfl, rfl⟩
  | succ m ih =>
    obtain ⟨i1, i2⟩ := ih (by omega)
    have hk : l.length - 1 - m < l.length := by omega
    have e0 : l.length - m = (l.length - 1 - m) + 1 := by omega
    have e1 : l.length - (m + 1) = l.length - 1 - m := by omega
    obtain ⟨g1, g2, g3, g4⟩ := hg.at hk
    obtain ⟨s1, s2⟩ := hs.at hk
    rw [e0] at i1 i2
    rw [e1, bO]
    unfold rep
    obtain ⟨i, hi⟩ : ∃ i, l.length - 1 - m = i := ⟨_, rfl⟩
    rw [hi] at i1 i2 g1 g2 g3 g4 s1 s2 ⊢
    rw [sO] at i2
    obtain ⟨h, hh⟩ : ∃ h, l.getD i (0, 0, []) = h := ⟨_, rfl⟩
    rw [hh] at i2 g1 g2 g3 g4 s1 s2 ⊢
    rw [← g4]
    have hB : (bO xs l m).take h.1.toNat = xs.take h.1.toNat := by
      have := congrArg (List.take h.1.toNat) i1
      rw [List.take_take, List.take_take, Nat.min_eq_left (by omega)] at this
      exact this
    rw [hB]
    constructor
    · rw [List.take_append_of_le_length (by rw [List.length_take]; omega), List.take_take, Nat.min_eq_left g3]
    · rw [List.drop_append_of_le_length (by rw [List.length_take]; omega), ← i2]
      simp only [List.append_assoc]

theorem bO_all {xs : List ByteArray} {l : List Hk} (hg : Good l) (hs : Stand xs l) : bO xs l l.length = sR xs l := by
  have := (bO_part hg hs l.length (Nat.le_refl _)).2
  rw [Nat.sub_self, eN_zero] at this
  simpa [sO] using this

/-- How many lines come ahead of where a hunk ends. -/
theorem sO_len {xs : List ByteArray} {l : List Hk} (hg : Good l) (hs : Stand xs l) (k : Nat) (hk : k ≤ l.length) : ((sO xs l k).length : Int) = eN l k + sh (l.take k) := by
  induction k with
  | zero => simp [sO, eN_zero, sh]
  | succ k ih =>
    have ih := ih (by omega)
    obtain ⟨g1, g2, g3, g4⟩ := hg.at (show k < l.length by omega)
    obtain ⟨s1, s2⟩ := hs.at (show k < l.length by omega)
    rw [sO, take_hk (by omega), sh_snoc, g4, List.length_append, List.length_append, List.length_drop, List.length_take, nb_less _ g2, ob_less _ g2]
    rw [ob_less _ g2] at s1
    omega

theorem sO_pre (xs : List ByteArray) (l : List Hk) (k m : Nat) (h : k ≤ m) : ∃ t, sO xs l m = sO xs l k ++ t := by
  induction m with
  | zero => obtain rfl : k = 0 := by omega
            exact ⟨[], by simp⟩
  | succ m ih =>
    by_cases e : k = m + 1
    · subst e; exact ⟨[], by simp⟩
    · obtain ⟨t, ht⟩ := ih (by omega)
      refine ⟨t ++ ((xs.take (l.getD m (0, 0, [])).1.toNat).drop (eN l m) ++ lessOf 45 (l.getD m (0, 0, [])).2.2), ?_⟩
      rw [sO, ht, List.append_assoc]

theorem sR_pre (xs : List ByteArray) (l : List Hk) (k : Nat) (h : k ≤ l.length) : ∃ t, sR xs l = sO xs l k ++ t := by
  obtain ⟨t, ht⟩ := sO_pre xs l k l.length h
  exact ⟨t ++ xs.drop (eN l l.length), by unfold sR; rw [ht, List.append_assoc]⟩

theorem less_swm (ms : List (Int × ByteArray)) (h : ∀ m ∈ ms, sgn m.1) : lessOf 43 (swm ms) = lessOf 45 ms ∧ lessOf 45 (swm ms) = lessOf 43 ms := by
  induction ms with
  | nil => exact ⟨rfl, rfl⟩
  | cons m r ih =>
    obtain ⟨i1, i2⟩ := ih fun m hm => h m (List.mem_cons_of_mem _ hm)
    have e : swm (m :: r) = (sw m.1, m.2) :: swm r := rfl
    have em : m :: r = (m.1, m.2) :: r := rfl
    rw [e, em]
    rcases h m (by simp) with hc | hc | hc
    · rw [hc, show sw 32 = 32 from rfl, lessOf_hit _ _ _ _ (by decide), lessOf_hit _ _ _ _ (by decide), lessOf_hit _ _ _ _ (by decide), lessOf_hit _ _ _ _ (by decide), i1, i2]; exact ⟨rfl, rfl⟩
    · rw [hc, show sw 45 = 43 from rfl, lessOf_skip, lessOf_skip, lessOf_hit _ _ _ _ (by decide), lessOf_hit _ _ _ _ (by decide), i1, i2]; exact ⟨rfl, rfl⟩
    · rw [hc, show sw 43 = 45 from rfl, lessOf_hit _ _ _ _ (by decide), lessOf_hit _ _ _ _ (by decide), lessOf_skip, lessOf_skip, i1, i2]; exact ⟨rfl, rfl⟩

theorem trn_at (l : List Hk) (k : Nat) (hk : k < l.length) : (trn l).getD k (0, 0, []) = tn (l.getD k (0, 0, [])) := by simp [trn, hk]

/-- Where a hunk stands in the new file. -/
theorem new_at {xs : List ByteArray} {l : List Hk} (hg : Good l) (hs : Stand xs l) {k : Nat} (hk : k < l.length) : ((l.getD k (0, 0, [])).2.1 : Int) = (sO xs l k).length + ((l.getD k (0, 0, [])).1.toNat - eN l k : Nat) := by
  obtain ⟨g1, g2, g3, g4⟩ := hg.at hk
  have h1 := (hg.1 k hk).2
  have h2 := sO_len hg hs k (by omega)
  omega

theorem trn_good {xs : List ByteArray} {l : List Hk} (hg : Good l) (hs : Stand xs l) : Good (trn l) := by
  refine ⟨hg.1.trn, fun h hh => ?_⟩
  unfold trn at hh
  obtain ⟨x, hx, rfl⟩ := List.mem_map.1 hh
  obtain ⟨i, hi, rfl⟩ := List.mem_iff_getElem.1 hx
  have e : l[i] = l.getD i (0, 0, []) := by simp [hi]
  rw [e]
  have h1 := new_at hg hs hi
  refine ⟨?_, ?_⟩
  · show 0 ≤ (l.getD i (0, 0, [])).2.1
    omega
  · intro m hm
    have hm : m ∈ swm (l.getD i (0, 0, [])).2.2 := hm
    unfold swm at hm
    obtain ⟨y, hy, rfl⟩ := List.mem_map.1 hm
    have := (hg.at hi).2.1 y hy
    unfold sgn sw at *
    rcases this with e | e | e <;> simp [e]

theorem eN_trn {xs : List ByteArray} {l : List Hk} (hg : Good l) (hs : Stand xs l) (k : Nat) (hk : k ≤ l.length) : eN (trn l) k = (sO xs l k).length := by
  cases k with
  | zero => rw [eN_zero]; rfl
  | succ k =>
    have hk' : k < (trn l).length := by simp [trn]; omega
    obtain ⟨_, _, _, g4⟩ := (trn_good hg hs).at hk'
    have hn := new_at hg hs (show k < l.length by omega)
    have h1 := (less_swm _ (hg.at (show k < l.length by omega)).2.1).1
    rw [g4, trn_at _ _ (by omega)]
    show (l.getD k (0, 0, [])).2.1.toNat + (lessOf 43 (swm (l.getD k (0, 0, [])).2.2)).length = _
    obtain ⟨s1, s2⟩ := hs.at (show k < l.length by omega)
    rw [h1, sO, List.length_append, List.length_append, List.length_drop, List.length_take]
    omega

/-- Turned they stand in what came, and lead back. -/
theorem undo_part {xs : List ByteArray} {l : List Hk} (hg : Good l) (hs : Stand xs l) (k : Nat) (hk : k ≤ l.length) :
    (∀ j, j < k → stH (sR xs l) ((trn l).getD j (0, 0, [])) = true) ∧ sO (sR xs l) (trn l) k = xs.take (eN l k) := by
  induction k with
  | zero => exact ⟨fun j hj => absurd hj (Nat.not_lt_zero _), by rw [eN_zero]; rfl⟩
  | succ k ih =>
    obtain ⟨i1, i2⟩ := ih (by omega)
    have hkl : k < l.length := by omega
    obtain ⟨g1, g2, g3, g4⟩ := hg.at hkl
    obtain ⟨s1, s2⟩ := hs.at hkl
    have hn := new_at hg hs hkl
    obtain ⟨w1, w2⟩ := less_swm _ g2
    obtain ⟨t, ht⟩ := sR_pre xs l (k + 1) (by omega)
    have hen := eN_trn hg hs k (by omega)
    have ed := trn_at l k hkl
    rw [sO] at ht
    obtain ⟨h, hh⟩ : ∃ h, l.getD k (0, 0, []) = h := ⟨_, rfl⟩
    rw [hh] at g1 g2 g3 g4 s1 s2 hn w1 w2 ht ed
    have eN1 : h.2.1.toNat = (sO xs l k ++ (xs.take h.1.toNat).drop (eN l k)).length := by
      rw [List.length_append, List.length_drop, List.length_take]; omega
    have ht' : sR xs l = (sO xs l k ++ (xs.take h.1.toNat).drop (eN l k)) ++ (lessOf 45 h.2.2 ++ t) := by rw [ht]; simp only [List.append_assoc]
    constructor
    · intro j hj
      by_cases e : j = k
      · subst e
        rw [ed]
        show stB (sR xs l) h.2.1.toNat (lessOf 43 (swm h.2.2)) = true
        rw [w1, stB_iff, ht', eN1]
        refine ⟨by simp only [List.length_append]; omega, ?_⟩
        rw [List.drop_left, List.take_left]
      · exact i1 j (by omega)
    · rw [sO, ed, i2, hen]
      show xs.take (eN l k) ++ (((sR xs l).take h.2.1.toNat).drop (sO xs l k).length ++ lessOf 45 (swm h.2.2)) = xs.take (eN l (k + 1))
      rw [w2, ht', eN1, List.take_left, List.drop_left, ← List.append_assoc, ← take_split xs _ _ g3, g4]
      rw [take_split xs h.1.toNat (h.1.toNat + (lessOf 43 h.2.2).length) (by omega), List.drop_take]
      rw [show h.1.toNat + (lessOf 43 h.2.2).length - h.1.toNat = (lessOf 43 h.2.2).length by omega, s2]

theorem undo {xs : List ByteArray} {l : List Hk} (hg : Good l) (hs : Stand xs l) : Stand (sR xs l) (trn l) ∧ sR (sR xs l) (trn l) = xs := by
  have hl : (trn l).length = l.length := by simp [trn]
  obtain ⟨h1, h2⟩ := undo_part hg hs l.length (Nat.le_refl _)
  refine ⟨fun j hj => h1 j (by omega), ?_⟩
  show sO (sR xs l) (trn l) (trn l).length ++ (sR xs l).drop (eN (trn l) (trn l).length) = xs
  rw [hl, h2, eN_trn hg hs _ (Nat.le_refl _)]
  have : (sR xs l).drop (sO xs l l.length).length = xs.drop (eN l l.length) := by
    conv => lhs; rw [show sR xs l = sO xs l l.length ++ xs.drop (eN l l.length) from rfl]
    rw [List.drop_left]
  rw [this, List.take_append_drop]

theorem sO_more (xs : List ByteArray) (l r : List Hk) (k : Nat) (h : k ≤ l.length) : sO xs (l ++ r) k = sO xs l k := by
  induction k with
  | zero => rfl
  | succ k ih =>
    have e : (l ++ r).getD k (0, 0, []) = l.getD k (0, 0, []) := by simp [List.getElem?_append, show k < l.length by omega]
    have e2 : eN (l ++ r) k = eN l k := by unfold eN; rw [List.take_append_of_le_length (by omega)]
    rw [sO, sO, ih (by omega), e, e2]

theorem less_append (c : Int) (a b : List (Int × ByteArray)) : lessOf c (a ++ b) = lessOf c a ++ lessOf c b := by
  unfold lessOf; rw [List.filter_append, List.map_append]

theorem less_take {ms : List (Int × ByteArray)} (hs : ∀ m ∈ ms, sgn m.1) (k : Nat) : (lessOf 43 ms).take (ob (ms.take k)) = lessOf 43 (ms.take k) := by
  have h := ob_less (ms.take k) fun m hm => hs m (List.mem_of_mem_take hm)
  have e : lessOf 43 ms = lessOf 43 (ms.take k) ++ lessOf 43 (ms.drop k) := by rw [← less_append, List.take_append_drop]
  rw [e, ← h, List.take_left]

theorem cut_stand {ms : List (Int × ByteArray)} (hs : ∀ m ∈ ms, sgn m.1) (n : Nat) : Good (cut ms n) ∧ Stand (lessOf 43 ms) (cut ms n) := by
  obtain ⟨c1, c2, _, _⟩ := cut_holds ms hs n
  refine ⟨⟨c2, fun h hh => ?_⟩, fun j hj => ?_⟩
  · obtain ⟨a, b, _, _, rfl, _⟩ := c1 h hh
    exact ⟨Int.natCast_nonneg _, fun m hm => hs m (List.mem_of_mem_take (List.mem_of_mem_drop hm))⟩
  · obtain ⟨a, b, hab, hb, e, _⟩ := c1 _ (hk_mem hj)
    rw [e]
    show stB (lessOf 43 ms) ((ob (ms.take a) : Int)).toNat (lessOf 43 ((ms.take b).drop a)) = true
    rw [Int.toNat_natCast, stB_iff]
    have e1 : lessOf 43 ms = lessOf 43 (ms.take a) ++ (lessOf 43 ((ms.take b).drop a) ++ lessOf 43 (ms.drop b)) := by
      rw [← List.append_assoc, ← less_append, ← tk_drop ms a b (by omega), ← less_append, List.take_append_drop]
    have h := ob_less (ms.take a) fun m hm => hs m (List.mem_of_mem_take hm)
    rw [← h, e1]
    refine ⟨by simp only [List.length_append]; omega, ?_⟩
    rw [List.drop_left, List.take_left]

/-- What the pieces that end ahead of a place make of the lines. -/
theorem cl_makes (ms : List (Int × ByteArray)) (hs : ∀ m ∈ ms, sgn m.1) (n k : Nat) (hk : k ≤ ms.length + 1) :
    sO (lessOf 43 ms) (cl ms n k) (cl ms n k).length ++ ((lessOf 43 ms).take (ob (ms.take (k - rl ms n k)))).drop (eo (cl ms n k)).toNat = lessOf 45 (ms.take (k - rl ms n k)) := by
  induction k with
  | zero => simp [cl, rl, sO, ob, lessOf]
  | succ k ih =>
    have ih := ih (by omega)
    obtain ⟨_, _, i3, _, _, _⟩ := cl_holds ms hs n k (by omega)
    obtain ⟨r1, r2, r3⟩ := rl_run (ms := ms) (n := n) k
    by_cases h : near ms n k = true
    · rw [rl_in h, cl_in h, show k + 1 - (rl ms n k + 1) = k - rl ms n k by omega]
      exact ih
    · have h : near ms n k = false := by simpa using h
      rw [rl_out h, Nat.sub_zero]
      have hm : (∃ t, ms.take (k + 1) = ms.take k ++ [((32 : Int), t)]) ∨ ms.take (k + 1) = ms.take k := by
        by_cases e : k < ms.length
        · refine .inl ⟨(ms.getD k (0, ByteArray.empty)).2, ?_⟩
          rw [tk_snoc ms k e, ← not_near e h]
        · refine .inr ?_
          rw [List.take_of_length_le (by omega), List.take_of_length_le (by omega)]
      -- a kept mark more, or none
      have hstep : ∀ (P : List ByteArray) (e : Nat), e ≤ ob (ms.take k) → P ++ ((lessOf 43 ms).take (ob (ms.take k))).drop e = lessOf 45 (ms.take k) → P ++ ((lessOf 43 ms).take (ob (ms.take (k + 1)))).drop e = lessOf 45 (ms.take (k + 1)) := by
        intro P e he hP
        rcases hm with ⟨t, hm⟩ | hm
        · rw [less_take hs] at hP ⊢
          rw [hm, less_append, less_append]
          have hl := ob_less (ms.take k) fun m hm => hs m (List.mem_of_mem_take hm)
          rw [List.drop_append_of_le_length (by omega), ← List.append_assoc, hP]
          rfl
        · rw [hm]; exact hP
      by_cases hr : rl ms n k = 0
      · rw [hr, Nat.sub_zero] at ih i3
        rw [cl_out h hr]
        exact hstep _ _ (by omega) ih
      · rw [cl_end h hr]
        obtain ⟨a, ha⟩ : ∃ a, k - rl ms n k = a := ⟨_, rfl⟩
        rw [ha] at ih i3 ⊢
        have hal : a ≤ k := by omega
        have hsp := tk_drop ms a k hal
        have eO : ob (ms.take k) = ob (ms.take a) + ob ((ms.take k).drop a) := by conv => lhs; rw [hsp, ob_append]
        have e1 : (cl ms n k ++ [pc ms a k]).length = (cl ms n k).length + 1 := by simp
        have e2 : (cl ms n k ++ [pc ms a k]).getD (cl ms n k).length (0, 0, []) = pc ms a k := by simp
        have e3 : eN (cl ms n k ++ [pc ms a k]) (cl ms n k).length = (eo (cl ms n k)).toNat := by unfold eN; rw [List.take_left]
        have e4 : (eo (cl ms n k ++ [pc ms a k])).toNat = ob (ms.take k) := by
          rw [eo_snoc]
          show ((ob (ms.take a) : Int) + ob ((ms.take k).drop a)).toNat = _
          omega
        rw [e1, sO, e2, e3, sO_more _ _ _ _ (Nat.le_refl _), e4]
        refine hstep _ _ (Nat.le_refl _) ?_
        show (sO (lessOf 43 ms) (cl ms n k) (cl ms n k).length ++ (((lessOf 43 ms).take ((ob (ms.take a) : Int)).toNat).drop (eo (cl ms n k)).toNat ++ lessOf 45 ((ms.take k).drop a))) ++ _ = _
        rw [Int.toNat_natCast, ← List.append_assoc, ih, ← less_append, ← hsp, List.drop_of_length_le (by rw [List.length_take]; omega), List.append_nil]

/-- Pieces of a script lead from the one file to the other. -/
theorem cut_makes {ms : List (Int × ByteArray)} (hs : ∀ m ∈ ms, sgn m.1) (n : Nat) : sR (lessOf 43 ms) (cut ms n) = lessOf 45 ms := by
  have h := cl_makes ms hs n (ms.length + 1) (Nat.le_refl _)
  rw [cut_rl, Nat.sub_zero, List.take_of_length_le (l := ms) (by omega)] at h
  unfold sR
  have e : eN (cut ms n) (cut ms n).length = (eo (cut ms n)).toNat := by unfold eN; rw [List.take_length]
  rw [e]
  have hl := ob_less ms hs
  rw [← hl, List.take_length] at h
  exact h

/-- The first hunk that does not stand. -/
def clF (xs : List ByteArray) (l : List Hk) : Nat → Nat → Option Nat
  | 0, _ => none
  | f + 1, k => if stH xs (l.getD k (0, 0, [])) = true then clF xs l f (k + 1) else some k
def clash (xs : List ByteArray) (l : List Hk) : Option Nat := clF xs l l.length 0

theorem clF_skip (xs : List ByteArray) (l : List Hk) (m k : Nat) (h : ∀ j, j < k → stH xs (l.getD j (0, 0, [])) = true) (hk : k ≤ m) : clF xs l m 0 = clF xs l (m - k) k := by
  induction k with
  | zero => rfl
  | succ k ih => rw [ih (fun j hj => h j (by omega)) (by omega), show m - k = (m - (k + 1)) + 1 by omega, clF, if_pos (h k (by omega))]

theorem clash_at {xs : List ByteArray} {l : List Hk} {k : Nat} (h : ∀ j, j < k → stH xs (l.getD j (0, 0, [])) = true) (hk : k < l.length) (hb : stH xs (l.getD k (0, 0, [])) = false) : clash xs l = some k := by
  unfold clash
  rw [clF_skip xs l l.length k h (by omega), show l.length - k = (l.length - (k + 1)) + 1 by omega, clF, if_neg (by rw [hb]; simp)]

theorem clash_none {xs : List ByteArray} {l : List Hk} (h : Stand xs l) : clash xs l = none := by
  unfold clash
  rw [clF_skip xs l l.length l.length h (Nat.le_refl _), Nat.sub_self, clF]

theorem clash_stand {xs : List ByteArray} {l : List Hk} (h : clash xs l = none) : Stand xs l := by
  intro j
  induction j using Nat.strongRecOn with
  | _ j ih =>
    intro hj
    by_cases e : stH xs (l.getD j (0, 0, [])) = true
    · exact e
    · have e : stH xs (l.getD j (0, 0, [])) = false := by simpa using e
      rw [clash_at (fun i hi => ih i hi (by omega)) hj e] at h
      cases h

end Go.Proofs.YtnkdmgekpajfhaeDoor.Dist
namespace Go.Proofs.YtnkdmgekpajfhaeDoor.Dist

/-- A mark is kept. -/
def kp (s : List (Int × ByteArray)) (j : Nat) : Bool := (s.getD j (0, ByteArray.empty)).1 == 32
/-- How many marks are let go at the beginning; where the rest ends. -/
def hdF (s : List (Int × ByteArray)) : Nat → Nat → Nat
  | 0, h => h
  | f + 1, h => if kp s h = true then hdF s f (h + 1) else h
def tlF (s : List (Int × ByteArray)) : Nat → Nat → Nat
  | 0, t => t
  | f + 1, t => if t = 0 then 0 else if kp s (t - 1) = true then tlF s f (t - 1) else t
def hd (s : List (Int × ByteArray)) (f : Nat) : Nat := hdF s f 0
def tl (s : List (Int × ByteArray)) (f : Nat) : Nat := tlF s f s.length
/-- What is left of a hunk's marks. -/
def ptM (s : List (Int × ByteArray)) (f : Nat) : List (Int × ByteArray) := (s.take (tl s f)).drop (hd s f)

theorem hdF_spec (s : List (Int × ByteArray)) : ∀ (f h : Nat), (∀ j, j < h → kp s j = true) → h ≤ hdF s f h ∧ hdF s f h ≤ h + f ∧ ∀ j, j < hdF s f h → kp s j = true
  | 0, h, hh => ⟨Nat.le_refl _, Nat.le_refl _, hh⟩
  | f + 1, h, hh => by
    rw [hdF]
    by_cases e : kp s h = true
    · rw [if_pos e]
      obtain ⟨h1, h2, h3⟩ := hdF_spec s f (h + 1) fun j hj => by
        by_cases e2 : j = h
        · rw [e2]; exact e
        · exact hh j (by omega)
      exact ⟨by omega, by omega, h3⟩
    · rw [if_neg e]; exact ⟨Nat.le_refl _, by omega, hh⟩

theorem tlF_spec (s : List (Int × ByteArray)) : ∀ (f t : Nat), (∀ j, t ≤ j → j < s.length → kp s j = true) → tlF s f t ≤ t ∧ t ≤ tlF s f t + f ∧ ∀ j, tlF s f t ≤ j → j < s.length → kp s j = true
  | 0, t, ht => ⟨Nat.le_refl _, Nat.le_refl _, ht⟩
  | f + 1, t, ht => by
    rw [tlF]
    by_cases e0 : t = 0
    · rw [if_pos e0]; subst e0; exact ⟨Nat.le_refl _, by omega, ht⟩
    · rw [if_neg e0]
      by_cases e : kp s (t - 1) = true
      · rw [if_pos e]
        obtain ⟨h1, h2, h3⟩ := tlF_spec s f (t - 1) fun j hj hl => by
          by_cases e2 : j = t - 1
          · rw [e2]; exact e
          · exact ht j (by omega) hl
        exact ⟨by omega, by omega, h3⟩
      · rw [if_neg e]; exact ⟨Nat.le_refl _, by omega, ht⟩

theorem hd_spec (s : List (Int × ByteArray)) (f : Nat) : hd s f ≤ f ∧ ∀ j, j < hd s f → kp s j = true := by
  obtain ⟨_, h2, h3⟩ := hdF_spec s f 0 fun j hj => absurd hj (Nat.not_lt_zero _)
  exact ⟨by unfold hd; omega, h3⟩
theorem tl_spec (s : List (Int × ByteArray)) (f : Nat) : tl s f ≤ s.length ∧ s.length ≤ tl s f + f ∧ ∀ j, tl s f ≤ j → j < s.length → kp s j = true :=
  tlF_spec s f s.length fun j h1 h2 => absurd h2 (by omega)

/-- A mark that is not kept. -/
theorem chg_ex {s : List (Int × ByteArray)} (h : 0 < chg s) : ∃ c, c < s.length ∧ kp s c = false := by
  unfold chg at h
  obtain ⟨m, hm⟩ := List.length_pos_iff_exists_mem.1 h
  obtain ⟨h1, h2⟩ := List.mem_filter.1 hm
  obtain ⟨i, hi, rfl⟩ := List.mem_iff_getElem.1 h1
  exact ⟨i, hi, by unfold kp; simp only [List.getD_eq_getElem?_getD, List.getElem?_eq_getElem hi, Option.getD_some]; simpa using h2⟩

theorem hd_lt {s : List (Int × ByteArray)} {c : Nat} (hc : kp s c = false) (f : Nat) : hd s f ≤ c := by
  by_cases e : hd s f ≤ c
  · exact e
  · have := (hd_spec s f).2 c (by omega)
    rw [hc] at this; cases this
theorem tl_gt {s : List (Int × ByteArray)} {c : Nat} (hl : c < s.length) (hc : kp s c = false) (f : Nat) : c < tl s f := by
  by_cases e : c < tl s f
  · exact e
  · have := (tl_spec s f).2.2 c (by omega) hl
    rw [hc] at this; cases this

theorem kp_counts {s : List (Int × ByteArray)} (h : ∀ m ∈ s, m.1 = 32) : ob s = nb s := by
  induction s with
  | nil => rfl
  | cons m r ih =>
    have := ih fun x hx => h x (List.mem_cons_of_mem _ hx)
    have e := h m (by simp)
    unfold ob nb at *
    simp [e, this]

theorem kp_mem {s : List (Int × ByteArray)} {j : Nat} (hj : j < s.length) (h : kp s j = true) : s[j].1 = 32 := by
  unfold kp at h
  rw [List.getD_eq_getElem?_getD, List.getElem?_eq_getElem hj, Option.getD_some] at h
  simpa using h

/-- What is let go counts in both. -/
theorem ptM_more {s : List (Int × ByteArray)} (hs : ∀ m ∈ s, sgn m.1) (hch : 0 < chg s) (f : Nat) : ((lessOf 45 (ptM s f)).length : Int) - (lessOf 43 (ptM s f)).length = (nb s : Int) - ob s ∧ (∀ m ∈ ptM s f, m ∈ s) := by
  obtain ⟨c, hc, hk⟩ := chg_ex hch
  have h1 := hd_lt hk f
  have h2 := tl_gt hc hk f
  have h3 := hd_spec s f
  have h4 := tl_spec s f
  have hsub : ∀ m ∈ ptM s f, m ∈ s := fun m hm => List.mem_of_mem_take (List.mem_of_mem_drop hm)
  refine ⟨?_, hsub⟩
  rw [nb_less _ fun m hm => hs m (hsub m hm), ob_less _ fun m hm => hs m (hsub m hm)]
  have e1 : s.take (tl s f) = s.take (hd s f) ++ ptM s f := tk_drop s (hd s f) (tl s f) (by omega)
  have e2 : s = s.take (hd s f) ++ (ptM s f ++ s.drop (tl s f)) := by rw [← List.append_assoc, ← e1, List.take_append_drop]
  have k1 : ob (s.take (hd s f)) = nb (s.take (hd s f)) := kp_counts fun m hm => by
    obtain ⟨i, hi, rfl⟩ := List.mem_iff_getElem.1 hm
    rw [List.length_take] at hi
    rw [List.getElem_take]
    exact kp_mem _ (h3.2 i (by omega))
  have k2 : ob (s.drop (tl s f)) = nb (s.drop (tl s f)) := kp_counts fun m hm => by
    obtain ⟨i, hi, rfl⟩ := List.mem_iff_getElem.1 hm
    rw [List.length_drop] at hi
    rw [List.getElem_drop]
    exact kp_mem _ (h4.2.2 _ (by omega) (by omega))
  have o1 : ob s = ob (s.take (hd s f)) + (ob (ptM s f) + ob (s.drop (tl s f))) := by conv => lhs; rw [e2, ob_append, ob_append]
  have o2 : nb s = nb (s.take (hd s f)) + (nb (ptM s f) + nb (s.drop (tl s f))) := by conv => lhs; rw [e2, nb_append, nb_append]
  omega

theorem ptM_zero (s : List (Int × ByteArray)) : ptM s 0 = s ∧ hd s 0 = 0 := by
  refine ⟨?_, rfl⟩
  show (s.take s.length).drop 0 = s
  rw [List.take_length]; rfl

/-- The first place that serves. -/
def nrF (p : Int → Bool) : Nat → Nat → Option Int
  | 0, _ => none
  | m + 1, n => if p (-(n : Int)) = true then some (-(n : Int)) else if p n = true then some (n : Int) else nrF p m (n + 1)

theorem nr_up {p : Int → Bool} {m n : Nat} (h : p (-(n : Int)) = true) : nrF p (m + 1) n = some (-(n : Int)) := by rw [nrF, if_pos h]
theorem nr_down {p : Int → Bool} {m n : Nat} (h : p (-(n : Int)) = false) (h2 : p n = true) : nrF p (m + 1) n = some (n : Int) := by rw [nrF, if_neg (by rw [h]; simp), if_pos h2]
theorem nr_next {p : Int → Bool} {m n : Nat} (h : p (-(n : Int)) = false) (h2 : p n = false) : nrF p (m + 1) n = nrF p m (n + 1) := by rw [nrF, if_neg (by rw [h]; simp), if_neg (by rw [h2]; simp)]

theorem nr_some {p : Int → Bool} : ∀ {m n : Nat} {d : Int}, nrF p m n = some d → p d = true ∧ -((n + m : Nat) : Int) < d ∧ d < (n + m : Nat)
  | 0, n, d, h => by cases h
  | m + 1, n, d, h => by
    rw [nrF] at h
    by_cases h1 : p (-(n : Int)) = true
    · rw [if_pos h1] at h
      obtain rfl := Option.some.inj h
      exact ⟨h1, by omega, by omega⟩
    · rw [if_neg h1] at h
      by_cases h2 : p n = true
      · rw [if_pos h2] at h
        obtain rfl := Option.some.inj h
        exact ⟨h2, by omega, by omega⟩
      · rw [if_neg h2] at h
        obtain ⟨i1, i2, i3⟩ := nr_some h
        exact ⟨i1, by omega, by omega⟩

theorem nr_skip {p : Int → Bool} {M : Nat} (k : Nat) (hk : k ≤ M) (h : ∀ n : Nat, n < k → p (-(n : Int)) = false ∧ p n = false) : nrF p M 0 = nrF p (M - k) k := by
  induction k with
  | zero => rfl
  | succ k ih =>
    rw [ih (by omega) fun n hn => h n (by omega), show M - k = (M - (k + 1)) + 1 by omega, nr_next (h k (by omega)).1 (h k (by omega)).2]

theorem nr_first {p : Int → Bool} {far D : Nat} (h : ∀ n : Nat, n < D → p (-(n : Int)) = false ∧ p n = false) (h2 : D ≠ 0 → p (-(D : Int)) = false) (h3 : p D = true) (hD : D ≤ far) : nrF p (far + 1) 0 = some (D : Int) := by
  rw [nr_skip D (by omega) h, show far + 1 - D = (far - D) + 1 by omega]
  by_cases e : D = 0
  · subst e
    rw [nrF]
    simp at h3 ⊢
    exact fun h => absurd (h3.symm.trans h) (by simp)
  · exact nr_down (h2 e) h3

/-- Old lines stand at a place that is not ahead of an end. -/
def pB (A : List ByteArray) (E : Int) (o : List ByteArray) (at' : Int) : Bool := decide (E ≤ at') && (decide (at' + o.length ≤ A.length) && decide ((A.drop at'.toNat).take o.length = o))
def big (A : List ByteArray) (h : Hk) : Bool := decide ((60 : Int) < A.length + nb h.2.2 - ob h.2.2)
/-- Where a hunk is wanted, and so much further. -/
def plc (S : Int) (h : Hk) (f : Nat) (d : Int) : Int := h.1 + S + hd h.2.2 f + d
def pF (A : List ByteArray) (E S : Int) (h : Hk) (f : Nat) (d : Int) : Bool := pB A E (lessOf 43 (ptM h.2.2 f)) (plc S h f d)
def trF (A : List ByteArray) (E S : Int) (h : Hk) (far : Nat) : Nat → Nat → Option (Nat × Int)
  | 0, _ => none
  | m + 1, f => match nrF (pF A E S h f) (far + 1) 0 with
    | some d => some (f, d)
    | none => trF A E S h far m (f + 1)
def doH (A : List ByteArray) (E S : Int) (h : Hk) (fuzz far : Nat) : Option (Nat × Int) := if big A h = true then none else trF A E S h far (fuzz + 1) 0

theorem pB_iff {A : List ByteArray} {E : Int} {o : List ByteArray} {a : Int} : pB A E o a = true ↔ E ≤ a ∧ a + o.length ≤ A.length ∧ (A.drop a.toNat).take o.length = o := by
  unfold pB; simp only [Bool.and_eq_true, decide_eq_true_eq]

theorem trF_hit {A : List ByteArray} {E S : Int} {h : Hk} {far m f : Nat} {d : Int} (e : nrF (pF A E S h f) (far + 1) 0 = some d) : trF A E S h far (m + 1) f = some (f, d) := by rw [trF, e]
theorem trF_next {A : List ByteArray} {E S : Int} {h : Hk} {far m f : Nat} (e : nrF (pF A E S h f) (far + 1) 0 = none) : trF A E S h far (m + 1) f = trF A E S h far m (f + 1) := by rw [trF, e]

theorem trF_some {A : List ByteArray} {E S : Int} {h : Hk} {far : Nat} : ∀ {m f g : Nat} {d : Int}, trF A E S h far m f = some (g, d) → g < f + m ∧ pF A E S h g d = true ∧ -(far : Int) ≤ d ∧ d ≤ far
  | 0, f, g, d, e => by cases e
  | m + 1, f, g, d, e => by
    cases hn : nrF (pF A E S h f) (far + 1) 0 with
    | some x =>
      rw [trF_hit hn] at e
      obtain ⟨rfl, rfl⟩ := Prod.mk.inj (Option.some.inj e)
      obtain ⟨h1, h2, h3⟩ := nr_some hn
      exact ⟨by omega, h1, by omega, by omega⟩
    | none =>
      rw [trF_next hn] at e
      obtain ⟨h1, h2⟩ := trF_some e
      exact ⟨by omega, h2⟩

theorem doH_some {A : List ByteArray} {E S : Int} {h : Hk} {fuzz far f : Nat} {d : Int} (e : doH A E S h fuzz far = some (f, d)) : (A.length : Int) + nb h.2.2 - ob h.2.2 ≤ 60 ∧ f ≤ fuzz ∧ pF A E S h f d = true ∧ -(far : Int) ≤ d ∧ d ≤ far := by
  unfold doH at e
  by_cases hb : big A h = true
  · rw [if_pos hb] at e; cases e
  · rw [if_neg hb] at e
    obtain ⟨h1, h2, h3, h4⟩ := trF_some e
    unfold big at hb
    simp only [decide_eq_true_eq] at hb
    exact ⟨by omega, by omega, h2, h3, h4⟩

/-- Lines, where the last hunk that was done ends, what they put less what they take, what is left, how far each went. -/
structure LS where
  A : List ByteArray
  E : Int
  S : Int
  L : List Hk
  W : List Int

def stL (fuzz far : Nat) (s : LS) (h : Hk) : LS := match doH s.A s.E s.S h fuzz far with
  | none => ⟨s.A, s.E, s.S, s.L ++ [h], s.W ++ [-1000]⟩
  | some (f, d) => ⟨rep s.A (plc s.S h f d).toNat (lessOf 43 (ptM h.2.2 f)).length (lessOf 45 (ptM h.2.2 f)), plc s.S h f d + (lessOf 45 (ptM h.2.2 f)).length, s.S + ((lessOf 45 (ptM h.2.2 f)).length - (lessOf 43 (ptM h.2.2 f)).length), s.L, s.W ++ [d]⟩
def lrun (fuzz far : Nat) (xs : List ByteArray) (l : List Hk) : Nat → LS
  | 0 => ⟨xs, 0, 0, [], []⟩
  | k + 1 => stL fuzz far (lrun fuzz far xs l k) (l.getD k (0, 0, []))

theorem stL_none {fuzz far : Nat} {s : LS} {h : Hk} (e : doH s.A s.E s.S h fuzz far = none) : stL fuzz far s h = ⟨s.A, s.E, s.S, s.L ++ [h], s.W ++ [-1000]⟩ := by unfold stL; rw [e]
theorem stL_some {fuzz far : Nat} {s : LS} {h : Hk} {f : Nat} {d : Int} (e : doH s.A s.E s.S h fuzz far = some (f, d)) : stL fuzz far s h = ⟨rep s.A (plc s.S h f d).toNat (lessOf 43 (ptM h.2.2 f)).length (lessOf 45 (ptM h.2.2 f)), plc s.S h f d + (lessOf 45 (ptM h.2.2 f)).length, s.S + ((lessOf 45 (ptM h.2.2 f)).length - (lessOf 43 (ptM h.2.2 f)).length), s.L, s.W ++ [d]⟩ := by unfold stL; rw [e]

/-- What holds of lines on the way. -/
structure OkS (Q : ByteArray → Prop) (n : Nat) (xs : List ByteArray) (k : Nat) (s : LS) : Prop where
  len : s.A.length ≤ 60
  e0 : 0 ≤ s.E
  e1 : s.E ≤ s.A.length
  sz : (s.A.length : Int) = xs.length + s.S
  ll : s.L.length ≤ k
  wl : s.W.length = k
  q : ∀ x ∈ s.A, Q x
  all : s.L.length = k → s.A = xs
  wb : ∀ d ∈ s.W, d = -1000 ∨ -(n : Int) ≤ d ∧ d ≤ n

theorem less_mem {c : Int} {s : List (Int × ByteArray)} {x : ByteArray} (h : x ∈ lessOf c s) : ∃ m ∈ s, m.2 = x := by
  unfold lessOf at h
  obtain ⟨m, hm, e⟩ := List.mem_map.1 h
  exact ⟨m, (List.mem_filter.1 hm).1, e⟩

theorem rep_len {A x : List ByteArray} {k n : Nat} (h : k + n ≤ A.length) : (rep A k n x).length = A.length + x.length - n := by
  unfold rep
  simp only [List.length_append, List.length_take, List.length_drop]; omega

theorem okS_step {Q : ByteArray → Prop} {xs : List ByteArray} {fuzz far k : Nat} {s : LS} {h : Hk} (hok : OkS Q far xs k s) (hs : ∀ m ∈ h.2.2, sgn m.1) (hch : 0 < chg h.2.2) (hq : ∀ m ∈ h.2.2, Q m.2) : OkS Q far xs (k + 1) (stL fuzz far s h) := by
  cases e : doH s.A s.E s.S h fuzz far with
  | none =>
    rw [stL_none e]
    refine ⟨hok.len, hok.e0, hok.e1, hok.sz, ?_, ?_, hok.q, fun hl => hok.all ?_, ?_⟩
    · have := hok.ll; simp; omega
    · have := hok.wl; simp; omega
    · simpa using hl
    · intro d hd
      rcases List.mem_append.1 hd with hd | hd
      · exact hok.wb d hd
      · exact .inl (List.mem_singleton.1 hd)
  | some r =>
    obtain ⟨f, d⟩ := r
    rw [stL_some e]
    obtain ⟨d1, d2, d3, d4, d5⟩ := doH_some e
    obtain ⟨p1, p2, p3⟩ := pB_iff.1 d3
    obtain ⟨m1, m2⟩ := ptM_more hs hch f
    have z := hok.e0
    have hlen := rep_len (A := s.A) (x := lessOf 45 (ptM h.2.2 f)) (k := (plc s.S h f d).toNat) (n := (lessOf 43 (ptM h.2.2 f)).length) (by omega)
    have hsz := hok.sz
    refine ⟨?_, ?_, ?_, ?_, ?_, ?_, ?_, ?_, ?_⟩
    · dsimp only; omega
    · dsimp only; omega
    · dsimp only; omega
    · dsimp only; omega
    · have := hok.ll; dsimp only; omega
    · have := hok.wl; simp; omega
    · intro x hx
      unfold rep at hx
      rcases List.mem_append.1 hx with hx | hx
      · exact hok.q x (List.mem_of_mem_take hx)
      · rcases List.mem_append.1 hx with hx | hx
        · obtain ⟨m, hm, rfl⟩ := less_mem hx
          exact hq m (m2 m hm)
        · exact hok.q x (List.mem_of_mem_drop hx)
    · intro hl
      have := hok.ll
      dsimp only at hl
      omega
    · intro x hx
      rcases List.mem_append.1 hx with hx | hx
      · exact hok.wb x hx
      · obtain rfl := List.mem_singleton.1 hx
        exact .inr ⟨d4, d5⟩

theorem run_ok {Q : ByteArray → Prop} {xs : List ByteArray} {l : List Hk} (hx : xs.length ≤ 60) (hq : ∀ x ∈ xs, Q x) (hl : ∀ h ∈ l, (∀ m ∈ h.2.2, sgn m.1 ∧ Q m.2) ∧ 0 < chg h.2.2) (fuzz far k : Nat) (hk : k ≤ l.length) : OkS Q far xs k (lrun fuzz far xs l k) := by
  induction k with
  | zero => exact ⟨hx, Int.le_refl _, Int.natCast_nonneg _, by simp [lrun], Nat.le_refl _, rfl, hq, fun _ => rfl, fun d hd => by simp [lrun] at hd⟩
  | succ k ih =>
    obtain ⟨h1, h2⟩ := hl _ (hk_mem (show k < l.length by omega))
    exact okS_step (ih (by omega)) (fun m hm => (h1 m hm).1) h2 (fun m hm => (h1 m hm).2)

/-- What is left, how far each went: as far as a place, and at it. -/
theorem run_pre (fuzz far : Nat) (xs : List ByteArray) (l : List Hk) (k m : Nat) (h : k ≤ m) : ∃ t u, (lrun fuzz far xs l m).L = (lrun fuzz far xs l k).L ++ t ∧ (lrun fuzz far xs l m).W = (lrun fuzz far xs l k).W ++ u := by
  induction m with
  | zero => obtain rfl : k = 0 := by omega
            exact ⟨[], [], by simp, by simp⟩
  | succ m ih =>
    by_cases e : k = m + 1
    · subst e; exact ⟨[], [], by simp, by simp⟩
    · obtain ⟨t, u, h1, h2⟩ := ih (by omega)
      cases hd : doH (lrun fuzz far xs l m).A (lrun fuzz far xs l m).E (lrun fuzz far xs l m).S (l.getD m (0, 0, [])) fuzz far with
      | none => exact ⟨t ++ [l.getD m (0, 0, [])], u ++ [-1000], by rw [lrun, stL_none hd, h1, List.append_assoc], by rw [lrun, stL_none hd, h2, List.append_assoc]⟩
      | some r =>
        obtain ⟨f, d⟩ := r
        exact ⟨t, u ++ [d], by rw [lrun, stL_some hd]; exact h1, by rw [lrun, stL_some hd, h2, List.append_assoc]⟩

/-- At a place: left, or done so far away. -/
theorem run_at {Q : ByteArray → Prop} {xs : List ByteArray} {l : List Hk} {fuzz far k : Nat} (hok : OkS Q far xs k (lrun fuzz far xs l k)) (hk : k < l.length) (hfar : far ≤ 60) :
    ((lrun fuzz far xs l l.length).W.getD k 0 = -1000 ∧ (lrun fuzz far xs l k).L.length < (lrun fuzz far xs l l.length).L.length ∧ (lrun fuzz far xs l l.length).L.getD (lrun fuzz far xs l k).L.length (0, 0, []) = l.getD k (0, 0, []) ∧ (lrun fuzz far xs l (k + 1)).L.length = (lrun fuzz far xs l k).L.length + 1) ∨
    ((lrun fuzz far xs l l.length).W.getD k 0 ≠ -1000 ∧ -(far : Int) ≤ (lrun fuzz far xs l l.length).W.getD k 0 ∧ (lrun fuzz far xs l l.length).W.getD k 0 ≤ far ∧ (lrun fuzz far xs l (k + 1)).L.length = (lrun fuzz far xs l k).L.length) := by
  obtain ⟨t, u, h1, h2⟩ := run_pre fuzz far xs l (k + 1) l.length (by omega)
  have hw := hok.wl
  cases hd : doH (lrun fuzz far xs l k).A (lrun fuzz far xs l k).E (lrun fuzz far xs l k).S (l.getD k (0, 0, [])) fuzz far with
  | none =>
    have e1 : (lrun fuzz far xs l (k + 1)).L = (lrun fuzz far xs l k).L ++ [l.getD k (0, 0, [])] := by rw [lrun, stL_none hd]
    have e2 : (lrun fuzz far xs l (k + 1)).W = (lrun fuzz far xs l k).W ++ [-1000] := by rw [lrun, stL_none hd]
    rw [e1] at h1
    rw [e2] at h2
    refine .inl ⟨?_, ?_, ?_, ?_⟩
    · rw [h2, List.append_assoc, List.getD_eq_getElem?_getD, List.getElem?_append_right (by omega), hw, Nat.sub_self]; simp
    · rw [h1]; simp
    · rw [h1, List.append_assoc, List.getD_eq_getElem?_getD, List.getElem?_append_right (by omega), Nat.sub_self]; simp
    · rw [e1]; simp
  | some r =>
    obtain ⟨f, d⟩ := r
    obtain ⟨_, _, _, d4, d5⟩ := doH_some hd
    have e1 : (lrun fuzz far xs l (k + 1)).L = (lrun fuzz far xs l k).L := by rw [lrun, stL_some hd]
    have e2 : (lrun fuzz far xs l (k + 1)).W = (lrun fuzz far xs l k).W ++ [d] := by rw [lrun, stL_some hd]
    rw [e2] at h2
    have e3 : (lrun fuzz far xs l l.length).W.getD k 0 = d := by
      rw [h2, List.append_assoc, List.getD_eq_getElem?_getD, List.getElem?_append_right (by omega), hw, Nat.sub_self]; simp
    rw [e3, e1]
    exact .inr ⟨by omega, d4, d5, rfl⟩

/-! ### All that fits, behind lines that were put ahead -/
def aS (pre xs : List ByteArray) (l : List Hk) (k : Nat) : List ByteArray := pre ++ (sO xs l k ++ xs.drop (eN l k))
def eS (pre xs : List ByteArray) (l : List Hk) (k : Nat) : Int := if k = 0 then 0 else (pre.length : Int) + (sO xs l k).length

theorem shift_step {pre xs : List ByteArray} {l : List Hk} (hg : Good l) (hs : Stand xs l) {fuzz far k : Nat} (hk : k < l.length) {W : List Int}
    (hf : doH (aS pre xs l k) (eS pre xs l k) (sh (l.take k)) (l.getD k (0, 0, [])) fuzz far = some (0, (pre.length : Int))) :
    stL fuzz far ⟨aS pre xs l k, eS pre xs l k, sh (l.take k), [], W⟩ (l.getD k (0, 0, [])) = ⟨aS pre xs l (k + 1), eS pre xs l (k + 1), sh (l.take (k + 1)), [], W ++ [(pre.length : Int)]⟩ := by
  rw [stL_some (s := ⟨aS pre xs l k, eS pre xs l k, sh (l.take k), [], W⟩) hf]
  obtain ⟨g1, g2, g3, g4⟩ := hg.at hk
  obtain ⟨s1, s2⟩ := hs.at hk
  have h1 := sO_len hg hs k (by omega)
  have h2 := sO_len hg hs (k + 1) (by omega)
  obtain ⟨z1, z2⟩ := ptM_zero (l.getD k (0, 0, [])).2.2
  have hsh := sh_snoc (l.take k) (l.getD k (0, 0, []))
  rw [← take_hk hk] at hsh
  have n1 := nb_less _ g2
  have n2 := ob_less _ g2
  have hso : sO xs l (k + 1) = sO xs l k ++ ((xs.take (l.getD k (0, 0, [])).1.toNat).drop (eN l k) ++ lessOf 45 (l.getD k (0, 0, [])).2.2) := rfl
  obtain ⟨h, hh⟩ : ∃ h, l.getD k (0, 0, []) = h := ⟨_, rfl⟩
  rw [hh] at g1 g2 g3 g4 s1 s2 z1 z2 hsh n1 n2 hso ⊢
  have hplc : (plc (sh (l.take k)) h 0 (pre.length : Int)) = ((pre.length + ((sO xs l k).length + (h.1.toNat - eN l k)) : Nat) : Int) := by unfold plc; rw [z2]; omega
  dsimp only
  rw [z1, hplc, Int.toNat_natCast]
  have hmid : ((xs.take h.1.toNat).drop (eN l k)).length = h.1.toNat - eN l k := by rw [List.length_drop, List.length_take]; omega
  have e1 : rep (aS pre xs l k) (pre.length + ((sO xs l k).length + (h.1.toNat - eN l k))) (lessOf 43 h.2.2).length (lessOf 45 h.2.2) = aS pre xs l (k + 1) := by
    unfold rep aS
    rw [hso, g4]
    have ed : xs.drop (eN l k) = (xs.take h.1.toNat).drop (eN l k) ++ xs.drop h.1.toNat := by
      conv => lhs; rw [← List.take_append_drop h.1.toNat xs]
      rw [List.drop_append_of_le_length (by rw [List.length_take]; omega)]
    have e : pre ++ (sO xs l k ++ xs.drop (eN l k)) = (pre ++ (sO xs l k ++ (xs.take h.1.toNat).drop (eN l k))) ++ xs.drop h.1.toNat := by rw [ed]; simp only [List.append_assoc]
    have el : (pre ++ (sO xs l k ++ (xs.take h.1.toNat).drop (eN l k))).length = pre.length + ((sO xs l k).length + (h.1.toNat - eN l k)) := by rw [List.length_append, List.length_append, hmid]
    rw [e, ← el, List.take_left, ← List.drop_drop, List.drop_left, List.drop_drop]
    simp only [List.append_assoc]
  rw [e1]
  have e2 : ((pre.length + ((sO xs l k).length + (h.1.toNat - eN l k)) : Nat) : Int) + (lessOf 45 h.2.2).length = eS pre xs l (k + 1) := by
    unfold eS
    rw [if_neg (by omega), hso, List.length_append, List.length_append, hmid]; omega
  rw [e2, hsh, n1, n2]

theorem shift_run {pre xs : List ByteArray} {l : List Hk} (hg : Good l) (hs : Stand xs l) {fuzz far : Nat}
    (hf : ∀ k, k < l.length → doH (aS pre xs l k) (eS pre xs l k) (sh (l.take k)) (l.getD k (0, 0, [])) fuzz far = some (0, (pre.length : Int))) (k : Nat) (hk : k ≤ l.length) :
    lrun fuzz far (pre ++ xs) l k = ⟨aS pre xs l k, eS pre xs l k, sh (l.take k), [], List.replicate k (pre.length : Int)⟩ := by
  induction k with
  | zero => simp [lrun, aS, eS, sO, eN_zero, sh]
  | succ k ih =>
    rw [lrun, ih (by omega), shift_step hg hs (by omega) (hf k (by omega)), List.replicate_succ']

/-- At the place where the lines went it serves. -/
theorem shift_fits {pre xs : List ByteArray} {l : List Hk} (hg : Good l) (hs : Stand xs l) {k : Nat} (hk : k < l.length) : pF (aS pre xs l k) (eS pre xs l k) (sh (l.take k)) (l.getD k (0, 0, [])) 0 (pre.length : Int) = true ∧
    plc (sh (l.take k)) (l.getD k (0, 0, [])) 0 (pre.length : Int) = ((pre.length + ((sO xs l k).length + ((l.getD k (0, 0, [])).1.toNat - eN l k)) : Nat) : Int) := by
  obtain ⟨g1, g2, g3, g4⟩ := hg.at hk
  obtain ⟨s1, s2⟩ := hs.at hk
  have h1 := sO_len hg hs k (by omega)
  obtain ⟨z1, z2⟩ := ptM_zero (l.getD k (0, 0, [])).2.2
  obtain ⟨h, hh⟩ : ∃ h, l.getD k (0, 0, []) = h := ⟨_, rfl⟩
  rw [hh] at g1 g2 g3 g4 s1 s2 z1 z2 ⊢
  have hplc : (plc (sh (l.take k)) h 0 (pre.length : Int)) = ((pre.length + ((sO xs l k).length + (h.1.toNat - eN l k)) : Nat) : Int) := by unfold plc; rw [z2]; omega
  refine ⟨?_, hplc⟩
  unfold pF
  rw [z1, hplc, pB_iff, Int.toNat_natCast]
  refine ⟨?_, ?_, ?_⟩
  · unfold eS; split <;> omega
  · unfold aS; simp only [List.length_append, List.length_drop]; omega
  · unfold aS
    rw [← List.drop_drop, List.drop_left, ← List.drop_drop, List.drop_left, List.drop_drop, show eN l k + (h.1.toNat - eN l k) = h.1.toNat by omega]
    exact s2

theorem not_big {pre xs : List ByteArray} {l : List Hk} (hg : Good l) (hs : Stand xs l) {k : Nat} (hk : k < l.length) (hr : (aS pre xs l (k + 1)).length ≤ 60) : big (aS pre xs l k) (l.getD k (0, 0, [])) = false := by
  obtain ⟨g1, g2, g3, g4⟩ := hg.at hk
  obtain ⟨s1, s2⟩ := hs.at hk
  have h1 := sO_len hg hs k (by omega)
  have h2 := sO_len hg hs (k + 1) (by omega)
  have hsh := sh_snoc (l.take k) (l.getD k (0, 0, []))
  rw [← take_hk hk] at hsh
  unfold big
  rw [decide_eq_false_iff_not]
  unfold aS at *
  simp only [List.length_append, List.length_drop] at *
  omega

/-- How many lines all put. -/
def nbs : List Hk → Nat
  | [] => 0
  | h :: r => nb h.2.2 + nbs r
theorem nbs_append (a b : List Hk) : nbs (a ++ b) = nbs a + nbs b := by
  induction a with
  | nil => simp [nbs]
  | cons h r ih => rw [List.cons_append, nbs, nbs, ih]; omega
theorem sh_nbs (l : List Hk) : sh l ≤ nbs l := by
  induction l with
  | nil => simp [sh, nbs]
  | cons h r ih => rw [sh, nbs]; omega

/-- What fits is done where it is said. -/
theorem exact_run {xs : List ByteArray} {l : List Hk} (hg : Good l) (hs : Stand xs l) {fuzz far : Nat} (hroom : xs.length + nbs l ≤ 60) : lrun fuzz far xs l l.length = ⟨sR xs l, eS [] xs l l.length, sh l, [], List.replicate l.length 0⟩ := by
  have h := shift_run (pre := []) hg hs (fuzz := fuzz) (far := far) (fun k hk => ?_) l.length (Nat.le_refl _)
  · rw [List.nil_append, List.take_length] at h
    rw [h]
    rfl
  · have h2 := sO_len hg hs (k + 1) (by omega)
    have h3 := sh_nbs (l.take (k + 1))
    have h4 : nbs l = nbs (l.take (k + 1)) + nbs (l.drop (k + 1)) := by rw [← nbs_append, List.take_append_drop]
    obtain ⟨_, _, _, g4⟩ := hg.at hk
    obtain ⟨s1, _⟩ := hs.at hk
    have hb := not_big (pre := []) hg hs hk (by unfold aS; simp only [List.length_append, List.length_drop, List.length_nil]; omega)
    unfold doH
    rw [hb, if_neg (by simp)]
    exact trF_hit (nr_first (D := 0) (fun n hn => absurd hn (Nat.not_lt_zero _)) (fun h => absurd rfl h) (shift_fits (pre := []) hg hs hk).1 (Nat.zero_le _))

/-- Where the lines went it goes. -/
theorem moves_run {pre xs : List ByteArray} {l : List Hk} (hg : Good l) (hs : Stand xs l) {fuzz : Nat} (hroom : pre.length + (sR xs l).length + xs.length ≤ 60)
    (hne : ∀ h ∈ l, 0 < (lessOf 43 h.2.2).length) (hd : ∀ i j : Nat, i < xs.length → j < xs.length → xs.getD i ByteArray.empty = xs.getD j ByteArray.empty → i = j) (ha : ∀ x ∈ pre, ∀ y ∈ xs, x ≠ y) :
    lrun fuzz pre.length (pre ++ xs) l l.length = ⟨pre ++ sR xs l, eS pre xs l l.length, sh l, [], List.replicate l.length (pre.length : Int)⟩ := by
  have h := shift_run (pre := pre) hg hs (fuzz := fuzz) (far := pre.length) (fun k hk => ?_) l.length (Nat.le_refl _)
  · rw [List.take_length] at h
    rw [h]
    rfl
  · obtain ⟨t, ht⟩ := sR_pre xs l (k + 1) (by omega)
    have hb := not_big (pre := pre) hg hs hk (by
      have := congrArg List.length ht
      unfold aS; simp only [List.length_append, List.length_drop] at *; omega)
    unfold doH
    rw [hb, if_neg (by simp)]
    obtain ⟨f1, f2⟩ := shift_fits (pre := pre) hg hs hk
    obtain ⟨g1, g2, g3, g4⟩ := hg.at hk
    obtain ⟨s1, s2⟩ := hs.at hk
    have hn := hne _ (hk_mem hk)
    obtain ⟨z1, z2⟩ := ptM_zero (l.getD k (0, 0, [])).2.2
    -- elsewhere it does not
    have hno : ∀ d : Int, d ≠ pre.length → pF (aS pre xs l k) (eS pre xs l k) (sh (l.take k)) (l.getD k (0, 0, [])) 0 d = false := by
      intro d hdn
      rw [Bool.eq_false_iff]
      intro hp
      unfold pF at hp
      have hpd : plc (sh (l.take k)) (l.getD k (0, 0, [])) 0 d = ((pre.length + ((sO xs l k).length + ((l.getD k (0, 0, [])).1.toNat - eN l k)) : Nat) : Int) + (d - pre.length) := by
        rw [← f2]; unfold plc; omega
      rw [z1, pB_iff] at hp
      obtain ⟨p1, p2, p3⟩ := hp
      obtain ⟨h, hh⟩ : ∃ h, l.getD k (0, 0, []) = h := ⟨_, rfl⟩
      rw [hh] at p1 p2 p3 hpd s1 s2 g1 g3 hn
      obtain ⟨at', hat⟩ : ∃ a, plc (sh (l.take k)) h 0 d = a := ⟨_, rfl⟩
      rw [hat] at p1 p2 p3 hpd
      have h0 : 0 ≤ at' := by unfold eS at p1; split at p1 <;> omega
      obtain ⟨q, rfl⟩ := Int.eq_ofNat_of_zero_le h0
      rw [Int.toNat_natCast] at p3
      -- the first of its old lines
      have hx : (lessOf 43 h.2.2)[0]? = xs[h.1.toNat]? := by rw [← s2, List.getElem?_take, if_pos hn, List.getElem?_drop, Nat.add_zero]
      have hA : (lessOf 43 h.2.2)[0]? = (aS pre xs l k)[q]? := by rw [← p3, List.getElem?_take, if_pos hn, List.getElem?_drop, Nat.add_zero]
      rw [hx] at hA
      have hxs : xs[h.1.toNat]? = some xs[h.1.toNat] := List.getElem?_eq_getElem (by omega)
      rw [hxs] at hA
      unfold aS at hA p2
      by_cases c1 : q < pre.length
      · rw [List.getElem?_append_left c1, List.getElem?_eq_getElem c1] at hA
        exact ha _ (List.getElem_mem c1) _ (List.getElem_mem (by omega)) (Option.some.inj hA).symm
      · rw [List.getElem?_append_right (by omega)] at hA
        by_cases c2 : q - pre.length < (sO xs l k).length
        · unfold eS at p1
          split at p1
          · rename_i hk0
            subst hk0
            simp [sO] at c2
          · omega
        · rw [List.getElem?_append_right (by omega), List.getElem?_drop] at hA
          obtain ⟨j, hj⟩ : ∃ j, eN l k + (q - pre.length - (sO xs l k).length) = j := ⟨_, rfl⟩
          rw [hj] at hA
          have hjl : j < xs.length := by
            by_cases e : j < xs.length
            · exact e
            · rw [List.getElem?_eq_none (by omega)] at hA; cases hA
          have := hd h.1.toNat j (by omega) hjl (by
            simp only [List.getD_eq_getElem?_getD]
            rw [← hA, hxs])
          omega
    exact trF_hit (nr_first (D := pre.length) (fun n hn => ⟨hno _ (by omega), hno _ (by omega)⟩) (fun h => hno _ (by omega)) f1 (Nat.le_refl _))

end Go.Proofs.YtnkdmgekpajfhaeDoor.Dist
