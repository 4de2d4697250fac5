/-
  The plain mathematics of hunks that are done to a file: what comes of it, hunk by hunk from the first one on, and from the last one on; that turned hunks lead back; that pieces of a script lead from the one file to the other.
-/
import Derived.Test.YtfmhapajdnmhoafDoorXi
namespace Go.Proofs.YtfmhapajdnmhoafDoor.Dist

abbrev Hk := Int × Int × List (Int × ByteArray)

/-- Where the hunk ahead of a place ends. -/
def eN (l : List Hk) (k : Nat) : Nat := (eo (l.take k)).toNat
/-- Lines stand at a place. -/
def stB (xs : List ByteArray) (k : Nat) (o : List ByteArray) : Bool := decide (k + o.length ≤ xs.length ∧ (xs.drop k).take o.length = o)
def stH (xs : List ByteArray) (h : Hk) : Bool := stB xs h.1.toNat (lessOf 43 h.2.2)
/-- What comes of the lines ahead of where a hunk ends. -/
def sO (xs : List ByteArray) (l : List Hk) : Nat → List ByteArray
  | 0 => []
  | k + 1 => sO xs l k ++ ((xs.take (l.getD k (0, 0, [])).1.toNat).drop (eN l k) ++ lessOf 45 (l.getD k (0, 0, [])).2.2)
/-- What comes of all. -/
def sR (xs : List ByteArray) (l : List Hk) : List ByteArray := sO xs l l.length ++ xs.drop (eN l l.length)
/-- So many lines at a place by others. -/
def rep (A : List ByteArray) (k n : Nat) (x : List ByteArray) : List ByteArray := A.take k ++ (x ++ A.drop (k + n))
/-- From the last hunk on. -/
def bO (xs : List ByteArray) (l : List Hk) : Nat → List ByteArray
  | 0 => xs
  | m + 1 => rep (bO xs l m) (l.getD (l.length - 1 - m) (0, 0, [])).1.toNat (lessOf 43 (l.getD (l.length - 1 - m) (0, 0, [])).2.2).length (lessOf 45 (l.getD (l.length - 1 - m) (0, 0, [])).2.2)

/-- Hunks that stand where they may. -/
def Good (l : List Hk) : Prop := Fit l ∧ ∀ h ∈ l, 0 ≤ h.1 ∧ ∀ m ∈ h.2.2, sgn m.1
def Stand (xs : List ByteArray) (l : List Hk) : Prop := ∀ j, j < l.length → stH xs (l.getD j (0, 0, [])) = true

theorem hk_mem {l : List Hk} {k : Nat} (hk : k < l.length) : l.getD k (0, 0, []) ∈ l := by
  have e : l.getD k (0, 0, []) = l[k] := by simp [hk]
  rw [e]; exact List.getElem_mem _

theorem take_hk {l : List Hk} {k : Nat} (hk : k < l.length) : l.take (k + 1) = l.take k ++ [l.getD k (0, 0, [])] := by
  have e : l.getD k (0, 0, []) = l[k] := by simp [hk]
  rw [e, List.take_succ_eq_append_getElem hk]

theorem eN_zero (l : List Hk) : eN l 0 = 0 := by simp [eN, eo]

theorem Good.at {l : List Hk} (h : Good l) {k : Nat} (hk : k < l.length) : 0 ≤ (l.getD k (0, 0, [])).1 ∧ (∀ m ∈ (l.getD k (0, 0, [])).2.2, sgn m.1) ∧ eN l k ≤ (l.getD k (0, 0, [])).1.toNat ∧ eN l (k + 1) = (l.getD k (0, 0, [])).1.toNat + (lessOf 43 (l.getD k (0, 0, [])).2.2).length := by
  obtain ⟨h1, h2⟩ := h.2 _ (hk_mem hk)
  refine ⟨h1, h2, ?_, ?_⟩
  · have := (h.1 k hk).1
    unfold eN; omega
  · unfold eN
    rw [take_hk hk, eo_snoc, ob_less _ h2]
    omega

theorem stB_iff {xs : List ByteArray} {k : Nat} {o : List ByteArray} : stB xs k o = true ↔ k + o.length ≤ xs.length ∧ (xs.drop k).take o.length = o := by
  unfold stB; exact decide_eq_true_iff

theorem Stand.at {xs : List ByteArray} {l : List Hk} (h : Stand xs l) {k : Nat} (hk : k < l.length) : (l.getD k (0, 0, [])).1.toNat + (lessOf 43 (l.getD k (0, 0, [])).2.2).length ≤ xs.length ∧ (xs.drop (l.getD k (0, 0, [])).1.toNat).take (lessOf 43 (l.getD k (0, 0, [])).2.2).length = lessOf 43 (l.getD k (0, 0, [])).2.2 := by
  have := h k hk
  unfold stH at this
  exact stB_iff.1 this

theorem take_split (xs : List ByteArray) (a b : Nat) (h : a ≤ b) : xs.take b = xs.take a ++ (xs.take b).drop a := by
  have : (xs.take b).take a = xs.take a := by rw [List.take_take, Nat.min_eq_left h]
  rw [← this, List.take_append_drop]

/-- From the last one on it comes to the same. -/
theorem bO_part {xs : List ByteArray} {l : List Hk} (hg : Good l) (hs : Stand xs l) (m : Nat) (hm : m ≤ l.length) :
    (bO xs l m).take (eN l (l.length - m)) = xs.take (eN l (l.length - m)) ∧ sO xs l (l.length - m) ++ (bO xs l m).drop (eN l (l.length - m)) = sR xs l := by
  induction m with
  | zero => exact ⟨rfl, rfl⟩
  | succ m ih =>
    obtain ⟨i1, i2⟩ := ih (by omega)
    have hk : l.length - 1 - m < l.length := by omega
    have e0 : l.length - m = (l.length - 1 - m) + 1 := by omega
    have e1 : l.length - (m + 1) = l.length - 1 - m := by omega
    obtain ⟨g1, g2, g3, g4⟩ := hg.at hk
    obtain ⟨s1, s2⟩ := hs.at hk
    rw [e0] at i1 i2
    rw [e1, bO]
    unfold rep
    obtain ⟨i, hi⟩ : ∃ i, l.length - 1 - m = i := ⟨_, rfl⟩
    rw [hi] at i1 i2 g1 g2 g3 g4 s1 s2 ⊢
    rw [sO] at i2
    obtain ⟨h, hh⟩ : ∃ h, l.getD i (0, 0, []) = h := ⟨_, rfl⟩
    rw [hh] at i2 g1 g2 g3 g4 s1 s2 ⊢
    rw [← g4]
    have hB : (bO xs l m).take h.1.toNat = xs.take h.1.toNat := by
      have := congrArg (List.take h.1.toNat) i1
      rw [List.take_take, List.take_take, Nat.min_eq_left (by omega)] at this
      exact this
    rw [hB]
    constructor
    · rw [List.take_append_of_le_length (by rw [List.length_take]; omega), List.take_take, Nat.min_eq_left g3]
    · rw [List.drop_append_of_le_length (by rw [List.length_take]; omega), ← i2]
      simp only [List.append_assoc]

theorem bO_all {xs : List ByteArray} {l : List Hk} (hg : Good l) (hs : Stand xs l) : bO xs l l.length = sR xs l := by
  have := (bO_part hg hs l.length (Nat.le_refl _)).2
  rw [Nat.sub_self, eN_zero] at this
  simpa [sO] using this

/-- How many lines come ahead of where a hunk ends. -/
theorem sO_len {xs : List ByteArray} {l : List Hk} (hg : Good l) (hs : Stand xs l) (k : Nat) (hk : k ≤ l.length) : ((sO xs l k).length : Int) = eN l k + sh (l.take k) := by
  induction k with
  | zero => simp [sO, eN_zero, sh]
  | succ k ih =>
    have ih := ih (by omega)
    obtain ⟨g1, g2, g3, g4⟩ := hg.at (show k < l.length by omega)
    obtain ⟨s1, s2⟩ := hs.at (show k < l.length by omega)
    rw [sO, take_hk (by omega), sh_snoc, g4, List.length_append, List.length_append, List.length_drop, List.length_take, nb_less _ g2, ob_less _ g2]
    rw [ob_less _ g2] at s1
    omega

theorem sO_pre (xs : List ByteArray) (l : List Hk) (k m : Nat) (h : k ≤ m) : ∃ t, sO xs l m = sO xs l k ++ t := by
  induction m with
  | zero => obtain rfl : k = 0 := by omega
            exact ⟨[], by simp⟩
  | succ m ih =>
    by_cases e : k = m + 1
    · subst e; exact ⟨[], by simp⟩
    · obtain ⟨t, ht⟩ := ih (by omega)
      refine ⟨t ++ ((xs.take (l.getD m (0, 0, [])).1.toNat).drop (eN l m) ++ lessOf 45 (l.getD m (0, 0, [])).2.2), ?_⟩
      rw [sO, ht, List.append_assoc]

theorem sR_pre (xs : List ByteArray) (l : List Hk) (k : Nat) (h : k ≤ l.length) : ∃ t, sR xs l = sO xs l k ++ t := by
  obtain ⟨t, ht⟩ := sO_pre xs l k l.length h
  exact ⟨t ++ xs.drop (eN l l.length), by unfold sR; rw [ht, List.append_assoc]⟩

theorem less_swm (ms : List (Int × ByteArray)) (h : ∀ m ∈ ms, sgn m.1) : lessOf 43 (swm ms) = lessOf 45 ms ∧ lessOf 45 (swm ms) = lessOf 43 ms := by
  induction ms with
  | nil => exact ⟨rfl, rfl⟩
  | cons m r ih =>
    obtain ⟨i1, i2⟩ := ih fun m hm => h m (List.mem_cons_of_mem _ hm)
    have e : swm (m :: r) = (sw m.1, m.2) :: swm r := rfl
    have em : m :: r = (m.1, m.2) :: r := rfl
    rw [e, em]
    rcases h m (by simp) with hc | hc | hc
    · rw [hc, show sw 32 = 32 from rfl, lessOf_hit _ _ _ _ (by decide), lessOf_hit _ _ _ _ (by decide), lessOf_hit _ _ _ _ (by decide), lessOf_hit _ _ _ _ (by decide), i1, i2]; exact ⟨rfl, rfl⟩
    · rw [hc, show sw 45 = 43 from rfl, lessOf_skip, lessOf_skip, lessOf_hit _ _ _ _ (by decide), lessOf_hit _ _ _ _ (by decide), i1, i2]; exact ⟨rfl, rfl⟩
    · rw [hc, show sw 43 = 45 from rfl, lessOf_hit _ _ _ _ (by decide), lessOf_hit _ _ _ _ (by decide), lessOf_skip, lessOf_skip, i1, i2]; exact ⟨rfl, rfl⟩

theorem trn_at (l : List Hk) (k : Nat) (hk : k < l.length) : (trn l).getD k (0, 0, []) = tn (l.getD k (0, 0, [])) := by simp [trn, hk]

/-- Where a hunk stands in the new file. -/
theorem new_at {xs : List ByteArray} {l : List Hk} (hg : Good l) (hs : Stand xs l) {k : Nat} (hk : k < l.length) : ((l.getD k (0, 0, [])).2.1 : Int) = (sO xs l k).length + ((l.getD k (0, 0, [])).1.toNat - eN l k : Nat) := by
  obtain ⟨g1, g2, g3, g4⟩ := hg.at hk
  have h1 := (hg.1 k hk).2
  have h2 := sO_len hg hs k (by omega)
  omega

theorem trn_good {xs : List ByteArray} {l : List Hk} (hg : Good l) (hs : Stand xs l) : Good (trn l) := by
  refine ⟨hg.1.trn, fun h hh => ?_⟩
  unfold trn at hh
  obtain ⟨x, hx, rfl⟩ := List.mem_map.1 hh
  obtain ⟨i, hi, rfl⟩ := List.mem_iff_getElem.1 hx
  have e : l[i] = l.getD i (0, 0, []) := by simp [hi]
  rw [e]
  have h1 := new_at hg hs hi
  refine ⟨?_, ?_⟩
  · show 0 ≤ (l.getD i (0, 0, [])).2.1
    omega
  · intro m hm
    have hm : m ∈ swm (l.getD i (0, 0, [])).2.2 := hm
    unfold swm at hm
    obtain ⟨y, hy, rfl⟩ := List.mem_map.1 hm
    have := (hg.at hi).2.1 y hy
    unfold sgn sw at *
    rcases this with e | e | e <;> simp [e]

theorem eN_trn {xs : List ByteArray} {l : List Hk} (hg : Good l) (hs : Stand xs l) (k : Nat) (hk : k ≤ l.length) : eN (trn l) k = (sO xs l k).length := by
  cases k with
  | zero => rw [eN_zero]; rfl
  | succ k =>
    have hk' : k < (trn l).length := by simp [trn]; omega
    obtain ⟨_, _, _, g4⟩ := (trn_good hg hs).at hk'
    have hn := new_at hg hs (show k < l.length by omega)
    have h1 := (less_swm _ (hg.at (show k < l.length by omega)).2.1).1
    rw [g4, trn_at _ _ (by omega)]
    show (l.getD k (0, 0, [])).2.1.toNat + (lessOf 43 (swm (l.getD k (0, 0, [])).2.2)).length = _
    obtain ⟨s1, s2⟩ := hs.at (show k < l.length by omega)
    rw [h1, sO, List.length_append, List.length_append, List.length_drop, List.length_take]
    omega

/-- Turned they stand in what came, and lead back. -/
theorem undo_part {xs : List ByteArray} {l : List Hk} (hg : Good l) (hs : Stand xs l) (k : Nat) (hk : k ≤ l.length) :
    (∀ j, j < k → stH (sR xs l) ((trn l).getD j (0, 0, [])) = true) ∧ sO (sR xs l) (trn l) k = xs.take (eN l k) := by
  induction k with
  | zero => exact ⟨fun j hj => absurd hj (Nat.not_lt_zero _), by rw [eN_zero]; rfl⟩
  | succ k ih =>
    obtain ⟨i1, i2⟩ := ih (by omega)
    have hkl : k < l.length := by omega
    obtain ⟨g1, g2, g3, g4⟩ := hg.at hkl
    obtain ⟨s1, s2⟩ := hs.at hkl
    have hn := new_at hg hs hkl
    obtain ⟨w1, w2⟩ := less_swm _ g2
    obtain ⟨t, ht⟩ := sR_pre xs l (k + 1) (by omega)
    have hen := eN_trn hg hs k (by omega)
    have ed := trn_at l k hkl
    rw [sO] at ht
    obtain ⟨h, hh⟩ : ∃ h, l.getD k (0, 0, []) = h := ⟨_, rfl⟩
    rw [hh] at g1 g2 g3 g4 s1 s2 hn w1 w2 ht ed
    have eN1 : h.2.1.toNat = (sO xs l k ++ (xs.take h.1.toNat).drop (eN l k)).length := by
      rw [List.length_append, List.length_drop, List.length_take]; omega
    have ht' : sR xs l = (sO xs l k ++ (xs.take h.1.toNat).drop (eN l k)) ++ (lessOf 45 h.2.2 ++ t) := by rw [ht]; simp only [List.append_assoc]
    constructor
    · intro j hj
      by_cases e : j = k
      · subst e
        rw [ed]
        show stB (sR xs l) h.2.1.toNat (lessOf 43 (swm h.2.2)) = true
        rw [w1, stB_iff, ht', eN1]
        refine ⟨by simp only [List.length_append]; omega, ?_⟩
        rw [List.drop_left, List.take_left]
      · exact i1 j (by omega)
    · rw [sO, ed, i2, hen]
      show xs.take (eN l k) ++ (((sR xs l).take h.2.1.toNat).drop (sO xs l k).length ++ lessOf 45 (swm h.2.2)) = xs.take (eN l (k + 1))
      rw [w2, ht', eN1, List.take_left, List.drop_left, ← List.append_assoc, ← take_split xs _ _ g3, g4]
      rw [take_split xs h.1.toNat (h.1.toNat + (lessOf 43 h.2.2).length) (by omega), List.drop_take]
      rw [show h.1.toNat + (lessOf 43 h.2.2).length - h.1.toNat = (lessOf 43 h.2.2).length by omega, s2]

theorem undo {xs : List ByteArray} {l : List Hk} (hg : Good l) (hs : Stand xs l) : Stand (sR xs l) (trn l) ∧ sR (sR xs l) (trn l) = xs := by
  have hl : (trn l).length = l.length := by simp [trn]
  obtain ⟨h1, h2⟩ := undo_part hg hs l.length (Nat.le_refl _)
  refine ⟨fun j hj => h1 j (by omega), ?_⟩
  show sO (sR xs l) (trn l) (trn l).length ++ (sR xs l).drop (eN (trn l) (trn l).length) = xs
  rw [hl, h2, eN_trn hg hs _ (Nat.le_refl _)]
  have : (sR xs l).drop (sO xs l l.length).length = xs.drop (eN l l.length) := by
    conv => lhs; rw [show sR xs l = sO xs l l.length ++ xs.drop (eN l l.length) from rfl]
    rw [List.drop_left]
  rw [this, List.take_append_drop]

theorem sO_more (xs : List ByteArray) (l r : List Hk) (k : Nat) (h : k ≤ l.length) : sO xs (l ++ r) k = sO xs l k := by
  induction k with
  | zero => rfl
  | succ k ih =>
    have e : (l ++ r).getD k (0, 0, []) = l.getD k (0, 0, []) := by simp [List.getElem?_append, show k < l.length by omega]
    have e2 : eN (l ++ r) k = eN l k := by unfold eN; rw [List.take_append_of_le_length (by omega)]
    rw [sO, sO, ih (by omega), e, e2]

theorem less_append (c : Int) (a b : List (Int × ByteArray)) : lessOf c (a ++ b) = lessOf c a ++ lessOf c b := by
  unfold lessOf; rw [List.filter_append, List.map_append]

theorem less_take {ms : List (Int × ByteArray)} (hs : ∀ m ∈ ms, sgn m.1) (k : Nat) : (lessOf 43 ms).take (ob (ms.take k)) = lessOf 43 (ms.take k) := by
  have h := ob_less (ms.take k) fun m hm => hs m (List.mem_of_mem_take hm)
  have e : lessOf 43 ms = lessOf 43 (ms.take k) ++ lessOf 43 (ms.drop k) := by rw [← less_append, List.take_append_drop]
  rw [e, ← h, List.take_left]

theorem cut_stand {ms : List (Int × ByteArray)} (hs : ∀ m ∈ ms, sgn m.1) (n : Nat) : Good (cut ms n) ∧ Stand (lessOf 43 ms) (cut ms n) := by
  obtain ⟨c1, c2, _, _⟩ := cut_holds ms hs n
  refine ⟨⟨c2, fun h hh => ?_⟩, fun j hj => ?_⟩
  · obtain ⟨a, b, _, _, rfl, _⟩ := c1 h hh
    exact ⟨Int.natCast_nonneg _, fun m hm => hs m (List.mem_of_mem_take (List.mem_of_mem_drop hm))⟩
  · obtain ⟨a, b, hab, hb, e, _⟩ := c1 _ (hk_mem hj)
    rw [e]
    show stB (lessOf 43 ms) ((ob (ms.take a) : Int)).toNat (lessOf 43 ((ms.take b).drop a)) = true
    rw [Int.toNat_natCast, stB_iff]
    have e1 : lessOf 43 ms = lessOf 43 (ms.take a) ++ (lessOf 43 ((ms.take b).drop a) ++ lessOf 43 (ms.drop b)) := by
      rw [← List.append_assoc, ← less_append, ← tk_drop ms a b (by omega), ← less_append, List.take_append_drop]
    have h := ob_less (ms.take a) fun m hm => hs m (List.mem_of_mem_take hm)
    rw [← h, e1]
    refine ⟨by simp only [List.length_append]; omega, ?_⟩
    rw [List.drop_left, List.take_left]

/-- What the pieces that end ahead of a place make of the lines. -/
theorem cl_makes (ms : List (Int × ByteArray)) (hs : ∀ m ∈ ms, sgn m.1) (n k : Nat) (hk : k ≤ ms.length + 1) :
    sO (lessOf 43 ms) (cl ms n k) (cl ms n k).length ++ ((lessOf 43 ms).take (ob (ms.take (k - rl ms n k)))).drop (eo (cl ms n k)).toNat = lessOf 45 (ms.take (k - rl ms n k)) := by
  induction k with
  | zero => simp [cl, rl, sO, ob, lessOf]
  | succ k ih =>
    have ih := ih (by omega)
    obtain ⟨_, _, i3, _, _, _⟩ := cl_holds ms hs n k (by omega)
    obtain ⟨r1, r2, r3⟩ := rl_run (ms := ms) (n := n) k
    by_cases h : near ms n k = true
    · rw [rl_in h, cl_in h, show k + 1 - (rl ms n k + 1) = k - rl ms n k by omega]
      exact ih
    · have h : near ms n k = false := by simpa using h
      rw [rl_out h, Nat.sub_zero]
      have hm : (∃ t, ms.take (k + 1) = ms.take k ++ [((32 : Int), t)]) ∨ ms.take (k + 1) = ms.take k := by
        by_cases e : k < ms.length
        · refine .inl ⟨(ms.getD k (0, ByteArray.empty)).2, ?_⟩
          rw [tk_snoc ms k e, ← not_near e h]
        · refine .inr ?_
          rw [List.take_of_length_le (by omega), List.take_of_length_le (by omega)]
      -- a kept mark more, or none
      have hstep : ∀ (P : List ByteArray) (e : Nat), e ≤ ob (ms.take k) → P ++ ((lessOf 43 ms).take (ob (ms.take k))).drop e = lessOf 45 (ms.take k) → P ++ ((lessOf 43 ms).take (ob (ms.take (k + 1)))).drop e = lessOf 45 (ms.take (k + 1)) := by
        intro P e he hP
        rcases hm with ⟨t, hm⟩ | hm
        · rw [less_take hs] at hP ⊢
          rw [hm, less_append, less_append]
          have hl := ob_less (ms.take k) fun m hm => hs m (List.mem_of_mem_take hm)
          rw [List.drop_append_of_le_length (by omega), ← List.append_assoc, hP]
          rfl
        · rw [hm]; exact hP
      by_cases hr : rl ms n k = 0
      · rw [hr, Nat.sub_zero] at ih i3
        rw [cl_out h hr]
        exact hstep _ _ (by omega) ih
      · rw [cl_end h hr]
        obtain ⟨a, ha⟩ : ∃ a, k - rl ms n k = a := ⟨_, rfl⟩
        rw [ha] at ih i3 ⊢
        have hal : a ≤ k := by omega
        have hsp := tk_drop ms a k hal
        have eO : ob (ms.take k) = ob (ms.take a) + ob ((ms.take k).drop a) := by conv => lhs; rw [hsp, ob_append]
        have e1 : (cl ms n k ++ [pc ms a k]).length = (cl ms n k).length + 1 := by simp
        have e2 : (cl ms n k ++ [pc ms a k]).getD (cl ms n k).length (0, 0, []) = pc ms a k := by simp
        have e3 : eN (cl ms n k ++ [pc ms a k]) (cl ms n k).length = (eo (cl ms n k)).toNat := by unfold eN; rw [List.take_left]
        have e4 : (eo (cl ms n k ++ [pc ms a k])).toNat = ob (ms.take k) := by
          rw [eo_snoc]
          show ((ob (ms.take a) : Int) + ob ((ms.take k).drop a)).toNat = _
          omega
        rw [e1, sO, e2, e3, sO_more _ _ _ _ (Nat.le_refl _), e4]
        refine hstep _ _ (Nat.le_refl _) ?_
        show (sO (lessOf 43 ms) (cl ms n k) (cl ms n k).length ++ (((lessOf 43 ms).take ((ob (ms.take a) : Int)).toNat).drop (eo (cl ms n k)).toNat ++ lessOf 45 ((ms.take k).drop a))) ++ _ = _
        rw [Int.toNat_natCast, ← List.append_assoc, ih, ← less_append, ← hsp, List.drop_of_length_le (by rw [List.length_take]; omega), List.append_nil]

/-- Pieces of a script lead from the one file to the other. -/
theorem cut_makes {ms : List (Int × ByteArray)} (hs : ∀ m ∈ ms, sgn m.1) (n : Nat) : sR (lessOf 43 ms) (cut ms n) = lessOf 45 ms := by
  have h := cl_makes ms hs n (ms.length + 1) (Nat.le_refl _)
  rw [cut_rl, Nat.sub_zero, List.take_of_length_le (l := ms) (by omega)] at h
  unfold sR
  have e : eN (cut ms n) (cut ms n).length = (eo (cut ms n)).toNat := by unfold eN; rw [List.take_length]
  rw [e]
  have hl := ob_less ms hs
  rw [← hl, List.take_length] at h
  exact h

/-- The first hunk that does not stand. -/
def clF (xs : List ByteArray) (l : List Hk) : Nat → Nat → Option Nat
  | 0, _ => none
  | f + 1, k => if stH xs (l.getD k (0, 0, [])) = true then clF xs l f (k + 1) else some k
def clash (xs : List ByteArray) (l : List Hk) : Option Nat := clF xs l l.length 0

theorem clF_skip (xs : List ByteArray) (l : List Hk) (m k : Nat) (h : ∀ j, j < k → stH xs (l.getD j (0, 0, [])) = true) (hk : k ≤ m) : clF xs l m 0 = clF xs l (m - k) k := by
  induction k with
  | zero => rfl
  | succ k ih => rw [ih (fun j hj => h j (by omega)) (by omega), show m - k = (m - (k + 1)) + 1 by omega, clF, if_pos (h k (by omega))]

theorem clash_at {xs : List ByteArray} {l : List Hk} {k : Nat} (h : ∀ j, j < k → stH xs (l.getD j (0, 0, [])) = true) (hk : k < l.length) (hb : stH xs (l.getD k (0, 0, [])) = false) : clash xs l = some k := by
  unfold clash
  rw [clF_skip xs l l.length k h (by omega), show l.length - k = (l.length - (k + 1)) + 1 by omega, clF, if_neg (by rw [hb]; simp)]

theorem clash_none {xs : List ByteArray} {l : List Hk} (h : Stand xs l) : clash xs l = none := by
  unfold clash
  rw [clF_skip xs l l.length l.length h (Nat.le_refl _), Nat.sub_self, clF]

theorem clash_stand {xs : List ByteArray} {l : List Hk} (h : clash xs l = none) : Stand xs l := by
  intro j
  induction j using Nat.strongRecOn with
  | _ j ih =>
    intro hj
    by_cases e : stH xs (l.getD j (0, 0, [])) = true
    · exact e
    · have e : stH xs (l.getD j (0, 0, [])) = false := by simpa using e
      rw [clash_at (fun i hi => ih i hi (by omega)) hj e] at h
      cases h

end Go.Proofs.YtfmhapajdnmhoafDoor.Dist
