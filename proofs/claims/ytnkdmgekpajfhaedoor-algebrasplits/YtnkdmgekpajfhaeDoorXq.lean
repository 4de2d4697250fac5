/-
  Plain mathematics: a patch in pieces, one behind the other. Plain mathematics: the pieces of a patch, counted and told.
-/
import Derived.Test.YtnkdmgekpajfhaeDoorXd
namespace Go.Proofs.YtnkdmgekpajfhaeDoor.Dist

/-- A hunk by itself: its Old is its New. -/
def hk1 (h : Hk) : Hk := (h.2.1, h.2.1, h.2.2)
/-- The pieces of a change, of a patch. -/
def pcC (c : Ch) : List Ch := if c.2.2 = [] then [c] else c.2.2.map fun h => (c.1, c.2.1, [hk1 h])
def spA (p : List Ch) : List Ch := p.flatMap pcC
/-- The first fault of pieces. -/
def spF : List Ch → Int
  | [] => 0
  | d :: r => if (kf [d]).2 ≠ 0 then (kf [d]).2 else spF r
/-- Pieces one behind the other. -/
def rnP : List Fl → List Ch → List Fl × Int
  | x, [] => (x, 0)
  | x, d :: r => if (apF x [d]).2.2 ≠ 0 then ([], (apF x [d]).2.2) else rnP (apF x [d]).1 r

theorem spF_zero {l : List Ch} (h : spF l = 0) : ∀ d ∈ l, (kf [d]).2 = 0 := by
  induction l with
  | nil => intro d hd; cases hd
  | cons x r ih =>
    rw [spF] at h
    by_cases e : (kf [x]).2 = 0
    · rw [if_neg (fun k => k e)] at h
      intro d hd
      rcases List.mem_cons.1 hd with rfl | hd
      · exact e
      · exact ih h d hd
    · rw [if_pos e] at h; exact absurd h e

/-- The first so many hunks done, the rest as it is. -/
def md (xs : List ByteArray) (l : List Hk) (k : Nat) : List ByteArray := sO xs l k ++ xs.drop (eN l k)

theorem md_zero (xs : List ByteArray) (l : List Hk) : md xs l 0 = xs := by unfold md; rw [eN_zero]; rfl

theorem md_step {xs : List ByteArray} {l : List Hk} (hg : Good l) (hs : Stand xs l) {k : Nat} (hk : k < l.length) :
    Stand (md xs l k) [hk1 (l.getD k (0, 0, []))] ∧ sR (md xs l k) [hk1 (l.getD k (0, 0, []))] = md xs l (k + 1) := by
  obtain ⟨g1, g2, g3, g4⟩ := hg.at hk
  obtain ⟨s1, s2⟩ := hs.at hk
  have hn := new_at hg hs hk
  have hmd : md xs l (k + 1) = (sO xs l k ++ ((xs.take (l.getD k (0, 0, [])).1.toNat).drop (eN l k) ++ lessOf 45 (l.getD k (0, 0, [])).2.2)) ++ xs.drop (eN l (k + 1)) := by unfold md; rw [sO]
  rw [g4] at hmd
  obtain ⟨h, hh⟩ : ∃ h, l.getD k (0, 0, []) = h := ⟨_, rfl⟩
  rw [hh] at g1 g2 g3 s1 s2 hn hmd ⊢
  obtain ⟨A, hA⟩ : ∃ A, sO xs l k ++ (xs.take h.1.toNat).drop (eN l k) = A := ⟨_, rfl⟩
  have hAl : A.length = h.2.1.toNat := by rw [← hA, List.length_append, List.length_drop, List.length_take]; omega
  have hM : md xs l k = A ++ xs.drop h.1.toNat := by
    unfold md
    rw [← hA, List.append_assoc]
    congr 1
    conv => lhs; rw [← List.take_append_drop h.1.toNat xs]
    rw [List.drop_append_of_le_length (by rw [List.length_take]; omega)]
  have hgk : Good [hk1 h] := by
    refine ⟨fun j hj => ?_, fun x hx => ?_⟩
    · obtain rfl : j = 0 := by simp at hj; omega
      refine ⟨?_, ?_⟩
      · show (0 : Int) ≤ h.2.1; omega
      · show h.2.1 = h.2.1 + 0; omega
    · rw [List.mem_singleton] at hx
      subst hx
      exact ⟨by show 0 ≤ h.2.1; omega, g2⟩
  obtain ⟨_, _, _, k4⟩ := hgk.at (k := 0) (by simp)
  have k4' : eN [hk1 h] 1 = A.length + (lessOf 43 h.2.2).length := by rw [hAl]; exact k4
  refine ⟨fun j hj => ?_, ?_⟩
  · obtain rfl : j = 0 := by simp at hj; omega
    show stB (md xs l k) h.2.1.toNat (lessOf 43 h.2.2) = true
    rw [stB_iff, hM, ← hAl, List.drop_left]
    refine ⟨by rw [List.length_append, List.length_drop]; omega, s2⟩
  · have e1 : sO (md xs l k) [hk1 h] 1 = A ++ lessOf 45 h.2.2 := by
      show [] ++ (((md xs l k).take h.2.1.toNat).drop (eN [hk1 h] 0) ++ lessOf 45 h.2.2) = _
      rw [eN_zero, List.drop_zero, hM, ← hAl, List.take_left, List.nil_append]
    show sO (md xs l k) [hk1 h] 1 ++ (md xs l k).drop (eN [hk1 h] 1) = _
    rw [e1, k4', hM, ← List.drop_drop, List.drop_left, List.drop_drop, hmd, ← hA]
    simp only [List.append_assoc]

theorem apF_one {x : List Fl} {d : Ch} (ht : (tf x).2 = 0) (hk : (kf [d]).2 = 0) (h : (chg1 d (look x d.2.1)).1 = 0 ∨ (chg1 d (look x d.2.1)).1 = 3) :
    (apF x [d]).2.2 = 3 ∨ ((chg1 d (look x d.2.1)).1 = 0 ∧ apF x [d] = (setM x d.2.1 (chg1 d (look x d.2.1)).2, 0, 0) ∧ (tf (setM x d.2.1 (chg1 d (look x d.2.1)).2)).2 = 0) := by
  rcases h with h | h
  · have e : apR x [d] 0 = (setM x d.2.1 (chg1 d (look x d.2.1)).2, 0, 0) := by rw [apR, if_pos h, apR]
    by_cases h8 : 8 < (setM x d.2.1 (chg1 d (look x d.2.1)).2).length
    · left
      unfold apF
      rw [if_neg (fun k => k ht), if_neg (fun k => k hk), e, if_neg (by simp), if_pos h8]
    · right
      refine ⟨h, ?_, ?_⟩
      · rw [apF_of ht hk (by rw [e]) (by rw [e]; exact Nat.le_of_not_lt h8), e]
      · have := apR_tree ht hk (by rw [e]) (by rw [e]; exact Nat.le_of_not_lt h8)
        rw [e] at this
        rw [this]
  · left
    have e : apR x [d] 0 = ([], 0, (chg1 d (look x d.2.1)).1) := by rw [apR, if_neg (by omega)]
    unfold apF
    rw [if_neg (fun k => k ht), if_neg (fun k => k hk), e, if_pos (by rw [h]; decide)]
    exact h

/-- A piece is the whole: of a change that is no Edit, of one without hunks. -/
theorem pcC_self {c : Ch} (h : cOne c = 0) (h1 : c.1 ≠ 1 ∨ c.2.2 = []) : pcC c = [c] := by
  obtain ⟨_, _, h4, h5⟩ := cOne_zero h
  unfold pcC
  by_cases e : c.2.2 = []
  · rw [if_pos e]
  · rw [if_neg e]
    rcases h1 with h1 | h1
    · obtain ⟨wh, q, hs⟩ := c
      unfold shp at h5
      simp only at h1 e h4 h5 ⊢
      rw [if_neg h1] at h5
      cases hs with
      | nil => exact absurd rfl e
      | cons a r =>
        simp only [Bool.and_eq_true, decide_eq_true_eq] at h5
        obtain ⟨⟨rfl, h0⟩, _⟩ := h5
        obtain ⟨h6, _⟩ := hf_first h4
        obtain ⟨o, n, ms⟩ := a
        simp only at h6 h0
        subst h6
        rfl
    · exact absurd h1 e

/-- The pieces of a change, done one behind the other. -/
theorem edit_run {c : Ch} {xs : List ByteArray} {l : List Hk} {r : List Ch} (h1 : c.1 = 1) (hg : Good l) (hs : Stand xs l) {t : List Fl} (m : Nat) :
    ∀ (k : Nat) (x : List Fl), l.length - k = m → k ≤ l.length → (tf x).2 = 0 → (∀ q, look x q = if q = c.2.1 then some (md xs l k) else look t q) → (∀ d ∈ (l.drop k).map (fun h => ((c.1, c.2.1, [hk1 h]) : Ch)), (kf [d]).2 = 0) →
      (rnP x ((l.drop k).map (fun h => ((c.1, c.2.1, [hk1 h]) : Ch)) ++ r)).2 = 3 ∨ ∃ y, rnP x ((l.drop k).map (fun h => ((c.1, c.2.1, [hk1 h]) : Ch)) ++ r) = rnP y r ∧ (tf y).2 = 0 ∧ ∀ q, look y q = if q = c.2.1 then some (sR xs l) else look t q := by
  induction m with
  | zero =>
    intro k x hm hk hx hlk _
    obtain rfl : k = l.length := by omega
    rw [List.drop_length, List.map_nil, List.nil_append]
    exact .inr ⟨x, rfl, hx, hlk⟩
  | succ m ih =>
    intro k x hm hk hx hlk hkf
    have hkl : k < l.length := by omega
    have ed : l.drop k = l.getD k (0, 0, []) :: l.drop (k + 1) := by
      rw [List.drop_eq_getElem_cons hkl]; simp [hkl]
    rw [ed, List.map_cons] at hkf
    rw [ed, List.map_cons, List.cons_append]
    obtain ⟨h, hh⟩ : ∃ h, l.getD k (0, 0, []) = h := ⟨_, rfl⟩
    obtain ⟨m1, m2⟩ := md_step hg hs hkl
    rw [hh] at hkf m1 m2 ⊢
    obtain ⟨d, hd⟩ : ∃ d : Ch, (c.1, c.2.1, [hk1 h]) = d := ⟨_, rfl⟩
    rw [hd] at hkf ⊢
    have hd1 : d.1 = 1 := by rw [← hd]; exact h1
    have hd2 : d.2.1 = c.2.1 := by rw [← hd]
    have hd3 : d.2.2 = [hk1 h] := by rw [← hd]
    have hkd := hkf d (by simp)
    have hlx : look x d.2.1 = some (md xs l k) := by rw [hd2, hlk, if_pos rfl]
    have hls : lsf (bts (md xs l k)) = 0 := tree_okL (tf_zero hx).2.2 d.2.1 _ hlx
    have hhf : (hf [hk1 h]).2 = 0 := by
      have := ((kf_zero hkd).2.2 d (by simp))
      rw [← hd3]; exact (cOne_zero this).2.2.1
    have hch : (chg1 d (look x d.2.1)).1 = 3 ∨ chg1 d (look x d.2.1) = (0, some (md xs l (k + 1))) := by
      unfold chg1
      rw [hlx, hd3, hd1, if_neg (by simp), if_neg (by simp)]
      show (if (stF (md xs l k) [hk1 h]).2 ≠ 0 then _ else _ : Int × Option (List ByteArray)).1 = 3 ∨ (if (stF (md xs l k) [hk1 h]).2 ≠ 0 then _ else _ : Int × Option (List ByteArray)) = _
      by_cases h60 : 60 < (sR (md xs l k) [hk1 h]).length
      · left
        rw [stF_full hls hhf (clash_none m1) h60, if_pos (by decide)]
        show (stF (md xs l k) [hk1 h]).2 = 3
        rw [stF_full hls hhf (clash_none m1) h60]
      · right
        rw [stF_ok hls hhf (clash_none m1) h60, if_neg (by simp), if_pos (by decide)]
        show (0, some (sR (md xs l k) [hk1 h])) = _
        rw [m2]
    have h03 : (chg1 d (look x d.2.1)).1 = 0 ∨ (chg1 d (look x d.2.1)).1 = 3 := by
      rcases hch with e | e
      · exact .inr e
      · left; rw [e]
    rcases apF_one hx hkd h03 with e | ⟨e1, e2, e3⟩
    · left
      rw [rnP, if_pos (by rw [e]; decide)]; exact e
    · have hch : chg1 d (look x d.2.1) = (0, some (md xs l (k + 1))) := by
        rcases hch with e | e
        · omega
        · exact e
      rw [hch] at e2 e3
      rw [rnP, if_neg (by rw [e2]; simp), e2]
      refine ih (k + 1) _ (by omega) (by omega) e3 (fun q => ?_) (fun z hz => hkf z (List.mem_cons_of_mem _ hz))
      dsimp only
      rw [look_set (tf_zero hx).2.1, hd2, hlk]
      by_cases e : q = c.2.1
      · simp only [if_pos e]
      · simp only [if_neg e]

theorem pieces_run {c : Ch} {x : List Fl} (hx : (tf x).2 = 0) (hone : cOne c = 0) (hc : (chg1 c (look x c.2.1)).1 = 0) (hk : ∀ d ∈ pcC c, (kf [d]).2 = 0) (r : List Ch) :
    (rnP x (pcC c ++ r)).2 = 3 ∨ ∃ y, rnP x (pcC c ++ r) = rnP y r ∧ (tf y).2 = 0 ∧ ∀ q, look y q = if q = c.2.1 then (chg1 c (look x c.2.1)).2 else look x q := by
  by_cases h1 : c.1 ≠ 1 ∨ c.2.2 = []
  · have ep := pcC_self hone h1
    rw [ep] at hk ⊢
    rw [List.singleton_append, rnP]
    rcases apF_one hx (hk c (by simp)) (.inl hc) with e | ⟨_, e2, e3⟩
    · left
      rw [if_pos (by rw [e]; decide)]; exact e
    · right
      rw [if_neg (by rw [e2]; simp), e2]
      exact ⟨_, rfl, e3, fun q => look_set (tf_zero hx).2.1 _ _ _⟩
  · have h2 : c.1 = 1 := by
      by_cases e : c.1 = 1
      · exact e
      · exact absurd (.inl e) h1
    have h3 : c.2.2 ≠ [] := fun e => h1 (.inr e)
    obtain ⟨c1, c2, _, c4⟩ := chg1_zero hc
    obtain ⟨xs, hxs⟩ : ∃ xs, look x c.2.1 = some xs := by
      cases e : look x c.2.1 with
      | none => have := c1.2 e; omega
      | some xs => exact ⟨xs, rfl⟩
    rw [hxs] at c2 c4
    have c2 : (stF xs c.2.2).2 = 0 := c2
    have c4 : (chg1 c (some xs)).2 = some (sR xs c.2.2) := by rw [c4, if_neg (by omega)]; rfl
    obtain ⟨_, s2, s3, _⟩ := stF_zero c2
    have ep : pcC c = (c.2.2.drop 0).map (fun h => ((c.1, c.2.1, [hk1 h]) : Ch)) := by unfold pcC; rw [if_neg h3, List.drop_zero]
    rw [ep] at hk ⊢
    rw [hxs, c4]
    refine edit_run (t := x) (r := r) h2 (hf_good s2).1 (clash_stand s3) c.2.2.length 0 x (by omega) (Nat.zero_le _) hx (fun q => ?_) hk
    rw [md_zero]
    by_cases e : q = c.2.1
    · rw [if_pos e, e, hxs]
    · rw [if_neg e]

/-- All pieces of a patch lead where it leads, or there is no room. -/
theorem run_all {p : List Ch} : ∀ {t : List Fl}, (tf t).2 = 0 → RisC p → (∀ c ∈ p, cOne c = 0) → (∀ c ∈ p, (chg1 c (look t c.2.1)).1 = 0) → (∀ d ∈ spA p, (kf [d]).2 = 0) →
    (rnP t (spA p)).2 = 3 ∨ ((rnP t (spA p)).2 = 0 ∧ (tf (rnP t (spA p)).1).2 = 0 ∧ ∀ q, look (rnP t (spA p)).1 q = lk p q (look t q)) := by
  induction p with
  | nil => intro t ht _ _ _ _; exact .inr ⟨rfl, ht, fun q => rfl⟩
  | cons c r ih =>
    intro t ht hp ho hc hk
    obtain ⟨p1, p2⟩ := List.pairwise_cons.1 hp
    have es : spA (c :: r) = pcC c ++ spA r := by unfold spA; rw [List.flatMap_cons]
    rw [es] at hk ⊢
    rcases pieces_run ht (ho c (by simp)) (hc c (by simp)) (fun d hd => hk d (List.mem_append_left _ hd)) (spA r) with e | ⟨y, e1, e2, e3⟩
    · exact .inl e
    · rw [e1]
      have hne : ∀ d ∈ r, d.2.1 ≠ c.2.1 := fun d hd e => bl_ne (p1 d hd) e.symm
      rcases ih e2 p2 (fun d hd => ho d (List.mem_cons_of_mem _ hd)) (fun d hd => by rw [e3, if_neg (hne d hd)]; exact hc d (List.mem_cons_of_mem _ hd)) (fun d hd => hk d (List.mem_append_right _ hd)) with e | ⟨f1, f2, f3⟩
      · exact .inl e
      · refine .inr ⟨f1, f2, fun q => ?_⟩
        rw [f3, e3, lk]
        by_cases e : c.2.1 = q
        · rw [if_pos e, if_pos e.symm, lk_none (fun d hd => by rw [← e]; exact hne d hd), e]
        · rw [if_neg e, if_neg (fun k => e k.symm)]

theorem rnP_apF {t : List Fl} {p : List Ch} (h : (apF t p).2.2 = 0) (hs : spF (spA p) = 0) : (rnP t (spA p)).2 = 3 ∨ rnP t (spA p) = ((apF t p).1, 0) := by
  obtain ⟨h1, h2, h3, h4, h5⟩ := apF_zero h
  obtain ⟨_, k2, k3⟩ := kf_zero h2
  obtain ⟨_, t2, _⟩ := tf_zero h1
  have hc := apR_inv t2 k2 h3
  obtain ⟨_, a2, a3⟩ := apR_ok (k := 0) t2 k2 hc
  rcases run_all h1 k2 k3 hc (spF_zero hs) with e | ⟨e1, e2, e3⟩
  · exact .inl e
  · right
    have : (rnP t (spA p)).1 = (apR t p 0).1 := look_ext (tf_zero e2).2.1 a2 fun q => by rw [e3, a3]
    rw [h5, ← this, ← e1]

end Go.Proofs.YtnkdmgekpajfhaeDoor.Dist
namespace Go.Proofs.YtnkdmgekpajfhaeDoor.Dist

/-- Patches of one change each; the fault of the pieces; what is answered. -/
def ones (l : List Ch) : List (List Ch) := l.map fun c => [c]
def spE (p : List Ch) : Int := if (kf p).2 ≠ 0 then (kf p).2 else spF (spA p)
def spO (p : List Ch) : List (List Ch) := if spE p = 0 then ones (spA p) else []
def pc1 (c : Ch) (h : Hk) : Ch := (c.1, c.2.1, [hk1 h])

theorem spE_bad {p : List Ch} (h : (kf p).2 ≠ 0) : spE p = (kf p).2 := by unfold spE; rw [if_pos h]
theorem spE_ok {p : List Ch} (h : (kf p).2 = 0) : spE p = spF (spA p) := by unfold spE; rw [if_neg (fun e => e h)]
theorem spO_bad {p : List Ch} (h : spE p ≠ 0) : spO p = [] := by unfold spO; rw [if_neg h]
theorem spO_ok {p : List Ch} (h : spE p = 0) : spO p = ones (spA p) := by unfold spO; rw [if_pos h]

theorem spF_app {a : List Ch} (h : spF a = 0) (r : List Ch) : spF (a ++ r) = spF r := by
  induction a with
  | nil => rfl
  | cons x t ih =>
    rw [spF] at h
    by_cases e : (kf [x]).2 = 0
    · rw [if_neg (fun k => k e)] at h
      rw [List.cons_append, spF, if_neg (fun k => k e), ih h]
    · rw [if_pos e] at h; exact absurd h e

theorem spF_cons {x : Ch} (h : (kf [x]).2 ≠ 0) (r : List Ch) : spF (x :: r) = (kf [x]).2 := by rw [spF, if_pos h]
theorem spF_snoc {a : List Ch} (h : spF a = 0) {x : Ch} (hx : (kf [x]).2 = 0) : spF (a ++ [x]) = 0 := by
  rw [spF_app h, spF, if_neg (fun k => k hx), spF]

theorem pcC_hunks {c : Ch} (h : c.2.2 ≠ []) : pcC c = c.2.2.map (pc1 c) := by unfold pcC; rw [if_neg h]; rfl
theorem pcC_none {c : Ch} (h : c.2.2 = []) : pcC c = [c] := by unfold pcC; rw [if_pos h]

theorem spA_split {l : List Ch} {k : Nat} (hk : k < l.length) : spA l = spA (l.take k) ++ (pcC (l.getD k cz) ++ spA (l.drop (k + 1))) := by
  have e : l.drop k = l.getD k cz :: l.drop (k + 1) := by rw [List.drop_eq_getElem_cons hk]; simp [hk]
  conv => lhs; rw [← List.take_append_drop k l, e]
  unfold spA
  rw [List.flatMap_append, List.flatMap_cons]

theorem spA_next {l : List Ch} {k : Nat} (hk : k < l.length) : spA (l.take (k + 1)) = spA (l.take k) ++ pcC (l.getD k cz) := by
  have e : l.take (k + 1) = l.take k ++ [l.getD k cz] := by rw [List.take_succ_eq_append_getElem hk]; simp [hk]
  rw [e]
  unfold spA
  rw [List.flatMap_append]
  simp

theorem kf_single {c : Ch} (h : cOne c = 0) : kf [c] = (0, 0) :=
  kf_of (by simp) (List.pairwise_singleton _ _) (fun d hd => by rw [List.mem_singleton] at hd; rw [hd]; exact h)

theorem hks_at {l : List Hk} {j : Nat} (hj : j < l.length) : l = l.take j ++ l.getD j (0, 0, []) :: l.drop (j + 1) := by
  have e : l.getD j (0, 0, []) = l[j] := by simp [hj]
  rw [e, ← List.drop_eq_getElem_cons hj, List.take_append_drop]

/-- A piece that is wrong is told. -/
theorem spE_at {l : List Ch} {k j : Nat} (h0 : (kf l).2 = 0) (hk : k < l.length) (hj : j < (l.getD k cz).2.2.length) (h : spF (spA (l.take k) ++ ((l.getD k cz).2.2.take j).map (pc1 (l.getD k cz))) = 0) (hb : (kf [pc1 (l.getD k cz) ((l.getD k cz).2.2.getD j (0, 0, []))]).2 ≠ 0) :
    spE l = (kf [pc1 (l.getD k cz) ((l.getD k cz).2.2.getD j (0, 0, []))]).2 := by
  have hne : (l.getD k cz).2.2 ≠ [] := fun e => by rw [e] at hj; simp at hj
  have e := hks_at hj
  rw [spE_ok h0, spA_split hk, pcC_hunks hne]
  conv => lhs; rw [e]
  rw [List.map_append, List.map_cons, List.append_assoc, ← List.append_assoc, spF_app h, List.cons_append, spF_cons hb]

theorem spA_len {l : List Ch} (h : ∀ c ∈ l, c.2.2.length ≤ 60) : (spA l).length ≤ 60 * l.length := by
  induction l with
  | nil => simp [spA]
  | cons c r ih =>
    have h1 := ih (fun d hd => h d (List.mem_cons_of_mem _ hd))
    have h2 := h c (by simp)
    have e : spA (c :: r) = pcC c ++ spA r := by unfold spA; rw [List.flatMap_cons]
    rw [e, List.length_append, List.length_cons]
    have : (pcC c).length ≤ 60 := by
      unfold pcC
      split
      · simp
      · rw [List.length_map]; exact h2
    omega

/-- The pieces are small. -/
theorem spO_small (p : List Ch) : (spO p).length ≤ 960 ∧ ∀ q ∈ spO p, q.length ≤ 16 ∧ ∀ c ∈ q, c.2.2.length ≤ 60 ∧ ∀ h ∈ c.2.2, h.2.2.length ≤ 120 := by
  by_cases h : spE p = 0
  · have h0 : (kf p).2 = 0 := by
      by_cases e : (kf p).2 = 0
      · exact e
      · rw [spE_bad e] at h; exact absurd h e
    rw [spE_ok h0] at h
    obtain ⟨k1, _, k3⟩ := kf_zero h0
    rw [spO_ok (by rw [spE_ok h0]; exact h)]
    refine ⟨?_, fun q hq => ?_⟩
    · unfold ones
      rw [List.length_map]
      have := spA_len (l := p) (fun c hc => (hf_zero (cOne_zero (k3 c hc)).2.2.1).1)
      omega
    · unfold ones at hq
      obtain ⟨c, hc, rfl⟩ := List.mem_map.1 hq
      have hk := spF_zero h c hc
      have h1 := (kf_zero hk).2.2 c (by simp)
      obtain ⟨_, _, h2, _⟩ := cOne_zero h1
      refine ⟨by simp, fun d hd => ?_⟩
      rw [List.mem_singleton] at hd
      subst hd
      exact ⟨(hf_zero h2).1, fun x hx => (sf_zero ((hf_good h2).2.2 x hx).1).1⟩
  · rw [spO_bad h]
    exact ⟨Nat.zero_le _, fun q hq => by cases hq⟩

end Go.Proofs.YtnkdmgekpajfhaeDoor.Dist
