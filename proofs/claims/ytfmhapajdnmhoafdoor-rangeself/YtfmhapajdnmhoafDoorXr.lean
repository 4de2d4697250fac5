/-
  Plain mathematics: a series sent again with one less: the best choice gives each itself. Plain mathematics: which is which: each place of each series is told once. Plain mathematics: of a series with itself each is itself; each place is told once.
-/
import Derived.Test.YtfmhapajdnmhoafDoorXc
import Derived.Test.YtfmhapajdnmhoafDoorXq
namespace Go.Proofs.YtfmhapajdnmhoafDoor.Dist

/-- Sums. -/
def sm (f : Nat → Int) : List Nat → Int
  | [] => 0
  | k :: l => f k + sm f l
theorem sm_app (f : Nat → Int) (a b : List Nat) : sm f (a ++ b) = sm f a + sm f b := by
  induction a with
  | nil => show sm f b = 0 + sm f b; omega
  | cons x r ih => rw [List.cons_append, sm, ih, sm]; omega
theorem sm_erase (f : Nat → Int) : ∀ {l : List Nat} {k : Nat}, k ∈ l → sm f l = f k + sm f (l.erase k)
  | x :: r, k, h => by
    by_cases e : x = k
    · subst e; rw [List.erase_cons_head]; rfl
    · have hk : k ∈ r := by
        rcases List.mem_cons.1 h with rfl | h
        · exact absurd rfl e
        · exact h
      rw [List.erase_cons_tail (by simpa using e), sm, sm, sm_erase f hk]; omega

/-- So many columns, no two the same: all of them. -/
theorem few {n : Nat} : ∀ {l : List Nat}, l.Nodup → (∀ k ∈ l, k < n) → l.length ≤ n := by
  induction n with
  | zero =>
    intro l _ h
    cases l with
    | nil => exact Nat.le_refl _
    | cons x r => exact absurd (h x (by simp)) (Nat.not_lt_zero _)
  | succ n ih =>
    intro l hn h
    by_cases e : n ∈ l
    · have h1 := ih (l := l.erase n) (hn.erase n) (fun k hk => by
        have := h k (List.mem_of_mem_erase hk)
        have : k ≠ n := fun e2 => by rw [e2] at hk; exact (List.Nodup.not_mem_erase hn) hk
        omega)
      rw [List.length_erase_of_mem e] at h1
      omega
    · have := ih hn (fun k hk => by
        have := h k hk
        have : k ≠ n := fun e2 => e (by rw [← e2]; exact hk)
        omega)
      omega

theorem sm_all (f : Nat → Int) {n : Nat} : ∀ {l : List Nat}, l.Nodup → (∀ k ∈ l, k < n) → l.length = n → sm f l = sm f (List.range n) := by
  induction n with
  | zero =>
    intro l _ _ h
    rw [List.length_eq_zero_iff.1 h]; rfl
  | succ n ih =>
    intro l hn h hl
    have e : n ∈ l := by
      by_cases e : n ∈ l
      · exact e
      · have := few hn (n := n) (fun k hk => by
          have := h k hk
          have : k ≠ n := fun e2 => e (by rw [← e2]; exact hk)
          omega)
        omega
    rw [sm_erase f e, List.range_succ, sm_app]
    rw [ih (l := l.erase n) (hn.erase n) (fun k hk => by
        have := h k (List.mem_of_mem_erase hk)
        have : k ≠ n := fun e2 => by rw [e2] at hk; exact (List.Nodup.not_mem_erase hn) hk
        omega) (by rw [List.length_erase_of_mem e]; omega)]
    show f n + sm f (List.range n) = sm f (List.range n) + (f n + 0)
    omega

theorem sm_range' (f : Nat → Int) (r : Nat) : ∀ (a b : Nat), sm f (List.range' r (a + b)) = sm f (List.range' r a) + sm f (List.range' (r + a) b) := by
  intro a b
  rw [← List.range'_append_1, sm_app]

/-- A choice's costs and what rows and columns bear: no less; if no more, each cost is just that. -/
theorem cst_dual {c : List (List Int)} {u v : Nat → Int} {n : Nat} (h : ∀ r k, r < n → k < n → u r + v k ≤ cAtM c r k) : ∀ (m : List Nat) (r : Nat), r + m.length ≤ n → (∀ k ∈ m, k < n) →
    sm u (List.range' r m.length) + sm v m ≤ cst c r m ∧ (cst c r m = sm u (List.range' r m.length) + sm v m → ∀ j, j < m.length → cAtM c (r + j) (m.getD j 0) = u (r + j) + v (m.getD j 0))
  | [], r, _, _ => ⟨Int.le_refl _, fun _ j hj => absurd hj (Nat.not_lt_zero _)⟩
  | k :: m, r, hr, hm => by
    rw [List.length_cons] at hr
    obtain ⟨h1, h2⟩ := cst_dual h m (r + 1) (by omega) (fun j hj => hm j (by simp [hj]))
    have h3 := h r k (by omega) (hm k (by simp))
    rw [List.length_cons, List.range'_succ, sm, sm, cst]
    refine ⟨by omega, fun e j hj => ?_⟩
    cases j with
    | zero => show cAtM c r k = u r + v k; omega
    | succ j =>
      have := h2 (by omega) j (by omega)
      rw [show r + (j + 1) = r + 1 + j by omega]
      exact this

theorem cst_tight {c : List (List Int)} {u v : Nat → Int} : ∀ (m : List Nat) (r : Nat), (∀ j, j < m.length → cAtM c (r + j) (m.getD j 0) = u (r + j) + v (m.getD j 0)) → cst c r m = sm u (List.range' r m.length) + sm v m
  | [], _, _ => rfl
  | k :: m, r, h => by
    have h0 : cAtM c r k = u r + v k := h 0 (by simp)
    have h1 := cst_tight (c := c) (u := u) (v := v) m (r + 1) (fun j hj => by
      have := h (j + 1) (by simpa using hj)
      rw [show r + 1 + j = r + (j + 1) by omega]
      exact this)
    rw [List.length_cons, List.range'_succ, sm, sm, cst, h0, h1]; omega

/-- Which of the series a place of the lesser one is; what a text costs alone. -/
def ro (i c : Nat) : Nat := if c < i then c else c + 1
def alo (ts : List (List ByteArray)) (r : Nat) : Int := (((ts.getD r []).length + 1) / 2 + 1 : Nat)
theorem alo_pos (ts : List (List ByteArray)) (r : Nat) : 1 ≤ alo ts r := by unfold alo; omega

def agU (ts : List (List ByteArray)) (m r : Nat) : Int := if r < m then alo ts r else 0
def agV (ts : List (List ByteArray)) (m i k : Nat) : Int := if k + 1 < m then -alo ts (ro i k) else 0
def agM (m i r : Nat) : Nat := if r < i then r else if r = i then m - 1 else if r < m then r - 1 else r

theorem ro_ne {i c : Nat} : ro i c ≠ i := by unfold ro; split <;> omega
theorem ro_lt {i c m : Nat} (h : c + 1 < m) : ro i c < m := by unfold ro; split <;> omega

/-- The four kinds of pairs. -/
theorem rcs_b {m r k : Nat} {ts : List (List ByteArray)} (a : r < m) (b : k + 1 < m) : rcs m (m - 1) ts r k = (dif (ts.getD r []) (ts.getD (m + k) []) : Int) := by
  unfold rcs; rw [if_pos (show r < m ∧ k < m - 1 from ⟨a, by omega⟩)]
theorem rcs_p {m r k : Nat} {ts : List (List ByteArray)} (a : r < m) (b : ¬k + 1 < m) : rcs m (m - 1) ts r k = alo ts r := by
  unfold rcs; rw [if_neg (show ¬(r < m ∧ k < m - 1) from fun x => b (by omega)), if_pos a]; rfl
theorem rcs_q {m r k : Nat} {ts : List (List ByteArray)} (a : ¬r < m) (b : k + 1 < m) : rcs m (m - 1) ts r k = alo ts (m + k) := by
  unfold rcs; rw [if_neg (show ¬(r < m ∧ k < m - 1) from fun x => a x.1), if_neg a, if_pos (show k < m - 1 by omega)]; rfl
theorem rcs_0 {m r k : Nat} {ts : List (List ByteArray)} (a : ¬r < m) (b : ¬k + 1 < m) : rcs m (m - 1) ts r k = 0 := by
  unfold rcs; rw [if_neg (show ¬(r < m ∧ k < m - 1) from fun x => a x.1), if_neg a, if_neg (show ¬k < m - 1 by omega)]
theorem alo_eq {ts : List (List ByteArray)} {a b : Nat} (h : ts.getD a [] = ts.getD b []) : alo ts a = alo ts b := by unfold alo; rw [h]
theorem agU_p {ts : List (List ByteArray)} {m r : Nat} (a : r < m) : agU ts m r = alo ts r := if_pos a
theorem agU_0 {ts : List (List ByteArray)} {m r : Nat} (a : ¬r < m) : agU ts m r = 0 := if_neg a
theorem agV_q {ts : List (List ByteArray)} {m i k : Nat} (b : k + 1 < m) : agV ts m i k = -alo ts (ro i k) := if_pos b
theorem agV_0 {ts : List (List ByteArray)} {m i k : Nat} (b : ¬k + 1 < m) : agV ts m i k = 0 := if_neg b

/-- What a pair bears, and where it bears all. -/
theorem ag_edge {m i : Nat} {ts : List (List ByteArray)} (h1 : ∀ c, c + 1 < m → ts.getD (m + c) [] = ts.getD (ro i c) []) (h2 : ∀ r r', r < m → r' < m → r ≠ r' → alo ts r - alo ts r' < (dif (ts.getD r []) (ts.getD r' []) : Int)) {r k : Nat} (hr : r < m + (m - 1)) (hk : k < m + (m - 1)) :
    agU ts m r + agV ts m i k ≤ cAtM (rmx m (m - 1) ts) r k ∧ (cAtM (rmx m (m - 1) ts) r k = agU ts m r + agV ts m i k → k + 1 < m → r = ro i k) := by
  rw [cAtM_rmx, if_pos ⟨hr, hk⟩]
  by_cases a : r < m
  · by_cases b : k + 1 < m
    · rw [rcs_b a b, agU_p a, agV_q b, h1 k b]
      by_cases e : r = ro i k
      · exact ⟨by rw [← e, dif_self]; omega, fun _ _ => e⟩
      · have := h2 r (ro i k) a (ro_lt b) e
        exact ⟨by omega, fun e2 _ => by omega⟩
    · rw [rcs_p a b, agU_p a, agV_0 b]
      exact ⟨by omega, fun _ x => absurd x b⟩
  · by_cases b : k + 1 < m
    · have h := alo_pos ts (ro i k)
      rw [rcs_q a b, agU_0 a, agV_q b, alo_eq (h1 k b)]
      exact ⟨by omega, fun e _ => by omega⟩
    · rw [rcs_0 a b, agU_0 a, agV_0 b]
      exact ⟨by omega, fun _ x => absurd x b⟩

theorem agM_a {m i r : Nat} (a : r < i) : agM m i r = r := if_pos a
theorem agM_i {m i : Nat} : agM m i i = m - 1 := by unfold agM; rw [if_neg (Nat.lt_irrefl _), if_pos rfl]
theorem agM_m {m i r : Nat} (a : i < r) (b : r < m) : agM m i r = r - 1 := by unfold agM; rw [if_neg (show ¬r < i by omega), if_neg (show ¬r = i by omega), if_pos b]
theorem agM_z {m i r : Nat} (a : i < m) (b : ¬r < m) : agM m i r = r := by unfold agM; rw [if_neg (show ¬r < i by omega), if_neg (show ¬r = i by omega), if_neg b]

theorem agM_tight {m i : Nat} {ts : List (List ByteArray)} (hi : i < m) (h1 : ∀ c, c + 1 < m → ts.getD (m + c) [] = ts.getD (ro i c) []) {r : Nat} (hr : r < m + (m - 1)) : agM m i r < m + (m - 1) ∧ cAtM (rmx m (m - 1) ts) r (agM m i r) = agU ts m r + agV ts m i (agM m i r) := by
  have hk : agM m i r < m + (m - 1) := by unfold agM; split <;> (try split) <;> (try split) <;> omega
  refine ⟨hk, ?_⟩
  rw [cAtM_rmx, if_pos ⟨hr, hk⟩]
  by_cases a : r < i
  · have e : ro i r = r := if_pos a
    have b : r + 1 < m := by omega
    have c : r < m := by omega
    rw [agM_a a, rcs_b c b, agU_p c, agV_q b, h1 r b, e, dif_self]; omega
  · by_cases b : r = i
    · subst b
      have c : ¬m - 1 + 1 < m := by omega
      rw [agM_i, rcs_p hi c, agU_p hi, agV_0 c]; omega
    · by_cases d : r < m
      · have e : ro i (r - 1) = r := by
          unfold ro; rw [if_neg (show ¬r - 1 < i by omega)]; omega
        have c : r - 1 + 1 < m := by omega
        rw [agM_m (by omega) d, rcs_b d c, agU_p d, agV_q c, h1 (r - 1) c, e, dif_self]; omega
      · have c : ¬r + 1 < m := by omega
        rw [agM_z hi d, rcs_0 d c, agU_0 d, agV_0 c]; rfl

theorem all_there {n : Nat} {l : List Nat} (hn : l.Nodup) (h : ∀ k ∈ l, k < n) (hl : l.length = n) {c : Nat} (hc : c < n) : c ∈ l := by
  by_cases e : c ∈ l
  · exact e
  · have := few (n := n) (l := c :: l) (List.nodup_cons.2 ⟨e, hn⟩) (fun k hk => by
      rcases List.mem_cons.1 hk with rfl | hk
      · exact hc
      · exact h k hk)
    rw [List.length_cons] at this
    omega

/-- Sent again with one less: each is itself, the missing one none. -/
theorem again {m i : Nat} {ts : List (List ByteArray)} {us : List Bool} {M : List Nat} (hi : i < m) (h1 : ∀ c, c + 1 < m → ts.getD (m + c) [] = ts.getD (ro i c) []) (h2 : ∀ r r', r < m → r' < m → r ≠ r' → alo ts r - alo ts r' < (dif (ts.getD r []) (ts.getD r' []) : Int))
    (hu : ∀ k, us.getD k false = false) (hM : isB (rmx m (m - 1) ts) (m + (m - 1)) (m + (m - 1)) 0 us M) : ∀ j, j < m → (j < i → M.getD j 0 = j) ∧ (j = i → m - 1 ≤ M.getD j 0) ∧ (i < j → M.getD j 0 = j - 1) := by
  obtain ⟨⟨l1, l2, l3⟩, hbest⟩ := hM
  have hlt : ∀ k ∈ M, k < m + (m - 1) := fun k hk => (l3 k hk).1
  have e1 : ∀ j, j < m + (m - 1) → (((List.range (m + (m - 1))).map (agM m i)).getD j 0) = agM m i j := fun j hj => by simp [hj]
  have g2 : ((List.range (m + (m - 1))).map (agM m i)).Nodup := by
    rw [List.nodup_iff_pairwise_ne, List.pairwise_map]
    refine List.pairwise_lt_range.imp_of_mem ?_
    intro a b ha hb hab e
    have ha := List.mem_range.1 ha
    have hb := List.mem_range.1 hb
    unfold agM at e
    split at e <;> (try split at e) <;> (try split at e) <;> (try split at e) <;> (try split at e) <;> (try split at e) <;> omega
  have g3 : ∀ k ∈ (List.range (m + (m - 1))).map (agM m i), k < m + (m - 1) := fun k hk => by
    obtain ⟨r, hr, rfl⟩ := List.mem_map.1 hk
    exact (agM_tight hi h1 (List.mem_range.1 hr)).1
  have hch : chz (m + (m - 1)) (m + (m - 1)) us ((List.range (m + (m - 1))).map (agM m i)) := ⟨by simp, g2, fun k hk => ⟨g3 k hk, hu k⟩⟩
  have hle := (hbest _ hch).1
  have t1 := cst_tight (c := rmx m (m - 1) ts) (u := agU ts m) (v := agV ts m i) ((List.range (m + (m - 1))).map (agM m i)) 0 (fun j hj => by
    rw [List.length_map, List.length_range] at hj
    rw [e1 j hj, Nat.zero_add]
    exact (agM_tight hi h1 hj).2)
  rw [List.length_map, List.length_range, sm_all _ g2 g3 (by simp)] at t1
  obtain ⟨t2, t3⟩ := cst_dual (c := rmx m (m - 1) ts) (u := agU ts m) (v := agV ts m i) (n := m + (m - 1)) (fun r k hr hk => (ag_edge h1 h2 hr hk).1) M 0 (by omega) hlt
  rw [l1, sm_all _ l2 hlt l1] at t2 t3
  have tight := t3 (by omega)
  have own : ∀ r, r < m + (m - 1) → M.getD r 0 + 1 < m → r = ro i (M.getD r 0) := fun r hr hk => by
    have hm : M.getD r 0 ∈ M := by
      have : M.getD r 0 = M[r] := by simp [show r < M.length by omega]
      rw [this]; exact List.getElem_mem _
    have := tight r hr
    rw [Nat.zero_add] at this
    exact (ag_edge h1 h2 hr (hlt _ hm)).2 this hk
  intro j hj
  have back : ∀ c, c + 1 < m → ro i c = j → M.getD j 0 = c := fun c hc e => by
    have hc2 := all_there l2 hlt l1 (c := c) (by omega)
    obtain ⟨r, hr, er⟩ := List.mem_iff_getElem.1 hc2
    have e2 : M.getD r 0 = c := by simp [hr, er]
    have := own r (by omega) (by omega)
    rw [e2, e] at this
    rw [← this]; exact e2
  refine ⟨fun h => back j (by omega) (by unfold ro; rw [if_pos h]), fun h => ?_, fun h => back (j - 1) (by omega) (by unfold ro; rw [if_neg (by omega)]; omega)⟩
  by_cases e : M.getD j 0 + 1 < m
  · exact absurd (own j (by omega) e).symm (by rw [h]; exact ro_ne)
  · omega

/-- Texts that differ: by how much more than what the one costs alone above the other. -/
theorem difT_zero {a b : List ByteArray} : ∀ {n : Nat}, difT a b n = 0 → ∀ i, i < n → i < a.length ∧ i < b.length ∧ a.getD i ByteArray.empty = b.getD i ByteArray.empty
  | 0, _, i, hi => absurd hi (Nat.not_lt_zero _)
  | n + 1, h, i, hi => by
    rw [difT] at h
    by_cases e : i = n
    · subst e
      have : dif1 a b i = 0 := by omega
      unfold dif1 at this
      split at this
      · assumption
      · exact absurd this (by omega)
    · exact difT_zero (n := n) (by omega) i (by omega)
theorem same_eq {a b : List ByteArray} (hl : a.length = b.length) (h : ∀ i, i < a.length → a.getD i ByteArray.empty = b.getD i ByteArray.empty) : a = b := by
  refine List.ext_getElem hl fun i h1 h2 => ?_
  have := h i h1
  simpa [h1, h2] using this
theorem dif_zero {a b : List ByteArray} (h : dif a b = 0) : a = b := by
  unfold dif at h
  have hz := difT_zero h
  have hl : a.length = b.length := by
    by_cases e : a.length < b.length
    · have := (hz a.length (by omega)).1; omega
    · by_cases e2 : b.length < a.length
      · have := (hz b.length (by omega)).2.1; omega
      · omega
  exact same_eq hl fun i hi => (hz i (by omega)).2.2
theorem difT_far {a b : List ByteArray} : ∀ k, k ≤ difT a b (b.length + k)
  | 0 => Nat.zero_le _
  | k + 1 => by
    have := difT_far (a := a) (b := b) k
    have e : dif1 a b (b.length + k) = 1 := by unfold dif1; rw [if_neg fun x => by omega]
    rw [show b.length + (k + 1) = (b.length + k) + 1 by omega, difT, e]; omega
theorem dif_far {a b : List ByteArray} (h : b.length ≤ a.length) : a.length ≤ b.length + dif a b := by
  have := difT_far (a := a) (b := b) (a.length - b.length)
  unfold dif
  rw [Nat.max_eq_left h]
  rw [show b.length + (a.length - b.length) = a.length by omega] at this
  omega
theorem dif_one {a b : List ByteArray} (hl : a.length = b.length + 1) (h : dif a b ≤ 1) : ∃ l, a = b ++ [l] := by
  unfold dif at h
  rw [Nat.max_eq_left (by omega), hl, difT] at h
  have e : dif1 a b b.length = 1 := by unfold dif1; rw [if_neg fun x => by omega]
  have hz := difT_zero (a := a) (b := b) (n := b.length) (by omega)
  refine ⟨a.getD b.length ByteArray.empty, same_eq (by simp [hl]) fun i hi => ?_⟩
  by_cases hb : i < b.length
  · rw [(hz i hb).2.2, List.getD_eq_getElem?_getD, List.getD_eq_getElem?_getD, List.getElem?_append_left hb]
  · rw [show i = b.length by omega]; simp
theorem alo_dif {ts : List (List ByteArray)} {r r' : Nat} (h1 : ts.getD r [] ≠ ts.getD r' []) (h2 : ∀ l, ts.getD r [] ≠ ts.getD r' [] ++ [l]) : alo ts r - alo ts r' < (dif (ts.getD r []) (ts.getD r' []) : Int) := by
  have h3 : dif (ts.getD r []) (ts.getD r' []) ≠ 0 := fun e => h1 (dif_zero e)
  unfold alo
  by_cases a : (ts.getD r []).length ≤ (ts.getD r' []).length
  · omega
  · have h4 := dif_far (a := ts.getD r []) (b := ts.getD r' []) (by omega)
    by_cases b : (ts.getD r []).length = (ts.getD r' []).length + 1
    · by_cases c : dif (ts.getD r []) (ts.getD r' []) ≤ 1
      · obtain ⟨l, e⟩ := dif_one b c
        exact absurd e (h2 l)
      · omega
    · omega

end Go.Proofs.YtfmhapajdnmhoafDoor.Dist
namespace Go.Proofs.YtfmhapajdnmhoafDoor.Dist

/-- A place, if it is one. -/
def plM (a : Int) : Option Nat := if a < 0 then none else some a.toNat
theorem plM_nat (a : Nat) : plM (a : Int) = some a := by unfold plM; rw [if_neg (by omega)]; rfl
theorem plM_none : plM (-1) = none := by unfold plM; rw [if_pos (by decide)]

theorem filterMap_all {α β : Type} (f : α → Option β) (g : α → β) : ∀ (l : List α), (∀ x ∈ l, f x = some (g x)) → l.filterMap f = l.map g
  | [], _ => rfl
  | x :: r, h => by
    rw [List.filterMap_cons_some (h x (by simp)), filterMap_all f g r (fun y hy => h y (by simp [hy]))]; rfl
theorem filterMap_no {α β : Type} (f : α → Option β) : ∀ (l : List α), (∀ x ∈ l, f x = none) → l.filterMap f = []
  | [], _ => rfl
  | x :: r, h => by
    rw [List.filterMap_cons_none (h x (by simp)), filterMap_no f r (fun y hy => h y (by simp [hy]))]

/-- The first ones, in their order. -/
theorem rgo_fst (np nq : Nat) (m : List Nat) : (rgo np nq m).filterMap (fun e => plM e.1) = List.range np := by
  unfold rgo
  rw [List.filterMap_append, filterMap_all _ (fun e => e.1.toNat), filterMap_no, List.append_nil, List.map_map]
  · exact (List.map_congr_left fun i _ => rfl).trans (List.map_id _)
  · intro e he
    obtain ⟨k, _, he⟩ := List.mem_flatMap.1 he
    obtain ⟨_, _, rfl⟩ := List.mem_map.1 he
    exact plM_none
  · intro e he
    obtain ⟨i, _, rfl⟩ := List.mem_map.1 he
    exact plM_nat i

/-- What a pair is. -/
theorem rgo_mem {np nq : Nat} {m : List Nat} {e : Int × Int} (h : e ∈ rgo np nq m) : ¬(e.1 < 0 ∧ e.2 < 0) ∧ -1 ≤ e.1 ∧ e.1 < np ∧ -1 ≤ e.2 ∧ e.2 < nq := by
  unfold rgo at h
  rcases List.mem_append.1 h with h | h
  · obtain ⟨i, hi, rfl⟩ := List.mem_map.1 h
    have hi := List.mem_range.1 hi
    show ¬((i : Int) < 0 ∧ _) ∧ -1 ≤ (i : Int) ∧ (i : Int) < np ∧ -1 ≤ (if _ then _ else (-1 : Int)) ∧ (if _ then _ else (-1 : Int)) < (nq : Int)
    split <;> omega
  · obtain ⟨k, hk, h⟩ := List.mem_flatMap.1 h
    obtain ⟨_, _, rfl⟩ := List.mem_map.1 h
    have hk := List.mem_range.1 hk
    show ¬((-1 : Int) < 0 ∧ (k : Int) < 0) ∧ (-1 : Int) ≤ -1 ∧ (-1 : Int) < np ∧ -1 ≤ (k : Int) ∧ (k : Int) < nq
    omega

theorem count_part {nq : Nat} {m : List Nat} (k : Nat) : ∀ (l : List Nat), ((l.map fun (i : Nat) => ((i : Int), if m.getD i 0 < nq then (m.getD i 0 : Int) else -1)).filterMap (fun e => plM e.2)).count k = l.countP fun i => decide (m.getD i 0 = k ∧ k < nq)
  | [] => rfl
  | i :: l => by
    rw [List.map_cons, List.countP_cons, ← count_part k l]
    by_cases h : m.getD i 0 < nq
    · rw [List.filterMap_cons_some (b := m.getD i 0) (by simp only; rw [if_pos h]; exact plM_nat _), List.count_cons]
      by_cases e : m.getD i 0 = k
      · rw [if_pos (by simpa using e), if_pos (by simpa using ⟨e, e ▸ h⟩)]
      · rw [if_neg (by simpa using e), if_neg (by
          simp only [decide_eq_true_eq]
          exact fun x => e x.1)]
    · rw [List.filterMap_cons_none (by simp only; rw [if_neg h]; exact plM_none), if_neg (by
        simp only [decide_eq_true_eq]
        rintro ⟨rfl, x⟩
        exact h x)]
      rfl

theorem count_same (k : Nat) {j : Nat} : ∀ (l : List Nat), ((l.map fun _ => ((-1 : Int), (j : Int))).filterMap (fun e => plM e.2)).count k = if j = k then l.length else 0
  | [] => by simp
  | i :: l => by
    rw [List.map_cons, List.filterMap_cons_some (f := fun e : Int × Int => plM e.2) (b := j) (plM_nat j), List.count_cons, count_same k l]
    by_cases e : j = k
    · rw [if_pos e, if_pos e, if_pos (by simpa using e), List.length_cons]
    · rw [if_neg e, if_neg e, if_neg (by simpa using e)]

theorem count_rest {np nq : Nat} {m : List Nat} (k : Nat) : ∀ (l : List Nat), l.Nodup → ((l.flatMap fun (j : Nat) => ((List.range' np nq).filter fun (i : Nat) => decide (m.getD i 0 = j)).map fun _ => ((-1 : Int), (j : Int))).filterMap (fun e => plM e.2)).count k = if k ∈ l then (List.range' np nq).countP fun i => decide (m.getD i 0 = k) else 0
  | [], _ => by simp
  | j :: l, hn => by
    have hn := List.nodup_cons.1 hn
    rw [List.flatMap_cons, List.filterMap_append, List.count_append, count_rest k l hn.2, count_same]
    by_cases e : j = k
    · subst e
      rw [if_pos rfl, if_neg hn.1, if_pos (by simp), List.countP_eq_length_filter]; rfl
    · rw [if_neg e, Nat.zero_add]
      by_cases h : k ∈ l
      · rw [if_pos h, if_pos (by simp [h])]
      · rw [if_neg h, if_neg (by simp [h, Ne.symm e])]

/-- The second ones: each once. -/
theorem rgo_snd {np nq : Nat} {m : List Nat} {us : List Bool} (h : chz (np + nq) (np + nq) us m) : ((rgo np nq m).filterMap fun e => plM e.2).Perm (List.range nq) := by
  obtain ⟨l1, l2, l3⟩ := h
  have hm : (List.range (np + nq)).map (fun i => m.getD i 0) = m := by
    refine List.ext_getElem (by simp [l1]) fun i h1 h2 => ?_
    simp [h2]
  rw [List.perm_iff_count]
  intro k
  unfold rgo
  rw [List.filterMap_append, List.count_append, count_part, count_rest k _ List.nodup_range, List.count_range]
  by_cases hk : k < nq
  · rw [if_pos (List.mem_range.2 hk), if_pos hk]
    have e1 : (List.range np).countP (fun i => decide (m.getD i 0 = k ∧ k < nq)) = (List.range np).countP fun i => decide (m.getD i 0 = k) := List.countP_congr fun i _ => by simp [hk]
    have e2 : m.count k = (List.range np).countP (fun i => decide (m.getD i 0 = k)) + (List.range' np nq).countP fun i => decide (m.getD i 0 = k) := by
      conv => lhs; rw [← hm]
      rw [List.count_eq_countP, List.countP_map, List.range_eq_range', ← List.range'_append_1, List.countP_append, Nat.zero_add, ← List.range_eq_range']
      congr 1 <;> exact List.countP_congr fun i _ => by simp
    rw [e1, ← e2]
    exact Nat.le_antisymm (List.nodup_iff_count.1 l2 k) (List.count_pos_iff.2 (all_there l2 (fun x hx => (l3 x hx).1) l1 (by omega)))
  · rw [if_neg (fun x => hk (List.mem_range.1 x)), if_neg hk, List.countP_eq_zero.2 (fun i _ => by simp [hk])]

theorem rgo_many {np nq : Nat} {m : List Nat} {us : List Bool} (h : chz (np + nq) (np + nq) us m) : ((rgo np nq m).filterMap fun e => plM e.2).Nodup ∧ ((rgo np nq m).filterMap fun e => plM e.2).length = nq := by
  have hp := rgo_snd h
  exact ⟨hp.nodup_iff.2 List.nodup_range, by rw [hp.length_eq, List.length_range]⟩

end Go.Proofs.YtfmhapajdnmhoafDoor.Dist
namespace Go.Proofs.YtfmhapajdnmhoafDoor
open Dist

theorem rgo_self (n : Nat) : rgo n n (List.range (n + n)) = (List.range n).map fun (i : Nat) => ((i : Int), (i : Int)) := by
  unfold rgo
  have h2 : ((List.range n).flatMap fun (k : Nat) => ((List.range' n n).filter fun (i : Nat) => decide ((List.range (n + n)).getD i 0 = k)).map fun _ => ((-1 : Int), (k : Int))) = [] := flat_none _ _ fun k hk => by
    have hk := List.mem_range.1 hk
    rw [filt_none]
    · rfl
    · intro i hi
      have hi := List.mem_range'_1.1 hi
      have e : (List.range (n + n)).getD i 0 = i := by simp [hi.2]
      rw [e]
      simp; omega
  rw [h2, List.append_nil]
  refine List.map_congr_left fun i hi => ?_
  have hi := List.mem_range.1 hi
  have e : (List.range (n + n)).getD i 0 = i := by simp [show i < n + n by omega]
  rw [e, if_pos hi]

theorem rep_false (n k : Nat) : (List.replicate n false).getD k false = false := by
  by_cases h : k < n
  · simp [h]
  · simp [h]
theorem rgM_self {p : List (List Ch)} (h : rfF p p = 0) : rgM p p = List.range (p.length + p.length) := by
  refine isB_one (rgM_best h) (isB_diag (fun i k => rmx_nonneg _ _ _ i k) (fun i => rmx_diag (fun i hi => ?_) i) (fun k => rep_false _ k))
  rw [List.getD_eq_getElem?_getD, List.getD_eq_getElem?_getD, List.getElem?_append_left (by rw [txs_len]; exact hi), List.getElem?_append_right (by rw [txs_len]; omega), txs_len, Nat.add_sub_cancel_left]
theorem rgP_self {p : List (List Ch)} (h : rfF p p = 0) : rgP p p = (List.range p.length).map fun (i : Nat) => ((i : Int), (i : Int)) := by
  unfold rgP
  rw [if_neg (by simp [h]), rgM_self h, rgo_self]
theorem rfF_self {p : List (List Ch)} : rfF p p = 0 ↔ p.length ≤ 4 ∧ srF p = 0 := by
  unfold rfF
  constructor
  · intro h
    split at h
    · cases h
    · split at h
      · rename_i h1 h2; exact absurd h h2
      · rename_i h1 h2; exact ⟨by omega, h⟩
  · rintro ⟨h1, h2⟩
    rw [if_neg (by omega), if_neg (by simp [h2]), h2]

/-- The first ones, the second ones, so far. -/
def fsO (l : List (Int × Int)) : List Int := (l.filterMap fun e => plM e.1).map Int.ofNat
def snO (l : List (Int × Int)) : List Int := (l.filterMap fun e => plM e.2).map Int.ofNat
theorem nodup_ofNat {l : List Nat} (h : l.Nodup) : (l.map Int.ofNat).Nodup := by
  unfold List.Nodup at h ⊢
  rw [List.pairwise_map]
  exact h.imp fun h e => h (Int.ofNat_inj.1 e)
theorem fsO_app (a b : List (Int × Int)) : fsO (a ++ b) = fsO a ++ fsO b := by unfold fsO; rw [List.filterMap_append, List.map_append]
theorem snO_app (a b : List (Int × Int)) : snO (a ++ b) = snO a ++ snO b := by unfold snO; rw [List.filterMap_append, List.map_append]
theorem fsO_one (e : Int × Int) : fsO [e] = if e.1 < 0 then [] else [e.1] := by
  unfold fsO plM
  by_cases h : e.1 < 0
  · simp [h]
  · simp [h]; omega
theorem snO_one (e : Int × Int) : snO [e] = if e.2 < 0 then [] else [e.2] := by
  unfold snO plM
  by_cases h : e.2 < 0
  · simp [h]
  · simp [h]; omega
theorem fsO_pos {l : List (Int × Int)} : ∀ x ∈ fsO l, 0 ≤ x := by
  intro x hx
  obtain ⟨k, _, rfl⟩ := List.mem_map.1 hx
  exact Int.natCast_nonneg k
theorem snO_pos {l : List (Int × Int)} : ∀ x ∈ snO l, 0 ≤ x := by
  intro x hx
  obtain ⟨k, _, rfl⟩ := List.mem_map.1 hx
  exact Int.natCast_nonneg k
theorem cut_at {l : List (Int × Int)} {k : Nat} (hk : k < l.length) : l = l.take k ++ l.getD k (0, 0) :: l.drop (k + 1) := by
  conv => lhs; rw [← List.take_append_drop k l]
  rw [List.drop_eq_getElem_cons hk]
  simp [hk]
theorem take_at {l : List (Int × Int)} {k : Nat} (hk : k < l.length) : l.take (k + 1) = l.take k ++ [l.getD k (0, 0)] := by
  rw [List.take_succ_eq_append_getElem hk]
  simp [hk]
theorem fsO_new {l : List (Int × Int)} (h : (fsO l).Nodup) {k : Nat} (hk : k < l.length) : (l.getD k (0, 0)).1 ∉ fsO (l.take k) := by
  intro hm
  have h0 := fsO_pos _ hm
  rw [cut_at hk, fsO_app, show l.getD k (0, 0) :: l.drop (k + 1) = [l.getD k (0, 0)] ++ l.drop (k + 1) from rfl, fsO_app, fsO_one, if_neg (by omega)] at h
  exact (List.nodup_append.1 h).2.2 _ hm _ (by simp) rfl
theorem snO_new {l : List (Int × Int)} (h : (snO l).Nodup) {k : Nat} (hk : k < l.length) : (l.getD k (0, 0)).2 ∉ snO (l.take k) := by
  intro hm
  have h0 := snO_pos _ hm
  rw [cut_at hk, snO_app, show l.getD k (0, 0) :: l.drop (k + 1) = [l.getD k (0, 0)] ++ l.drop (k + 1) from rfl, snO_app, snO_one, if_neg (by omega)] at h
  exact (List.nodup_append.1 h).2.2 _ hm _ (by simp) rfl

/-- What the pairs of two series are. -/
theorem rgP_told {p q : List (List Ch)} (h : rfF p q = 0) : (fsO (rgP p q)).Nodup ∧ (snO (rgP p q)).Nodup ∧ (fsO (rgP p q)).length = p.length ∧ (snO (rgP p q)).length = q.length ∧ (rgP p q).length ≤ 8 ∧
    ∀ e ∈ rgP p q, ¬(e.1 < 0 ∧ e.2 < 0) ∧ -1 ≤ e.1 ∧ e.1 < p.length ∧ -1 ≤ e.2 ∧ e.2 < q.length := by
  have hb := rgM_best h
  obtain ⟨h4, h5, _, _⟩ := rfF_zero h
  have e : rgP p q = rgo p.length q.length (rgM p q) := by unfold rgP; rw [if_neg (by simp [h])]
  have h1 := rgo_fst p.length q.length (rgM p q)
  obtain ⟨h2, h3⟩ := rgo_many hb.1
  have hl : (rgP p q).length ≤ 8 := by
    rw [rgP_ok h, rgM_len h]
    have : ∀ k, (prs p.length q.length (rgM p q) k).length ≤ k := by
      intro k
      induction k with
      | zero => rw [prs_zero]; simp
      | succ k ih =>
        rw [prs_succ, List.length_append]
        unfold pr1
        split <;> simp <;> omega
    have := this (p.length + q.length)
    omega
  refine ⟨?_, ?_, ?_, ?_, hl, fun x hx => rgo_mem (by rw [← e]; exact hx)⟩
  · unfold fsO; rw [e, h1]; exact nodup_ofNat List.nodup_range
  · unfold snO; rw [e]; exact nodup_ofNat h2
  · unfold fsO; rw [e, h1]; simp
  · unfold snO; rw [e, List.length_map, h3]

end Go.Proofs.YtfmhapajdnmhoafDoor
