/-
  Patches, as mathematics: a patch done to a tree, path by path; turned it leads back; what is between two trees leads from the one to the other. Patches, as mathematics: a patch done to a tree with its faults; what is between two trees. Patches, as mathematics: a patch done to a tree as the program does it, file by file in order; what is between two trees, found by going through both at once.
-/
import Derived.Test.YtnkdmgekpajfhadGreatDoorPa0
import Derived.Test.YtnkdmgekpajfhadGreatDoorXl

namespace Go.Proofs.YtnkdmgekpajfhadGreatDoor
open Go Dist

/-- The lines of a path, if it is there. -/
def look (t : List Fl) (p : ByteArray) : Option (List ByteArray) := (eqs t p).head?.map (·.2)

theorem look_none {t : List Fl} {p : ByteArray} : look t p = none ↔ eqs t p = [] := by
  unfold look
  cases eqs t p with
  | nil => simp
  | cons x r => simp

theorem Ris.look_mem {t : List Fl} (h : Ris t) {x : Fl} (hx : x ∈ t) : look t x.1 = some x.2 := by
  have hm : x ∈ eqs t x.1 := mem_eqs.2 ⟨hx, rfl⟩
  rcases h.one x.1 with e | ⟨y, e, _⟩
  · rw [e] at hm; cases hm
  · rw [e, List.mem_singleton] at hm
    unfold look
    rw [e, hm]; rfl

theorem look_some {t : List Fl} {p : ByteArray} {l : List ByteArray} (h : look t p = some l) : (p, l) ∈ t := by
  unfold look at h
  cases e : eqs t p with
  | nil => rw [e] at h; simp at h
  | cons x r =>
    rw [e] at h
    have hx := mem_eqs.1 (show x ∈ eqs t p by rw [e]; simp)
    simp at h
    rw [← h, ← hx.2]; exact hx.1

theorem look_put {t : List Fl} (h : Ris t) (f : Fl) (q : ByteArray) : look (putM t f) q = if q = f.1 then some f.2 else look t q := by
  unfold look
  by_cases e : q = f.1
  · rw [if_pos e, e, (lo_put t f).2.1]; rfl
  · rw [if_neg e, eqs_put e h]

theorem eqs_drop {t : List Fl} (h : Ris t) {p q : ByteArray} (hne : q ≠ p) : eqs (dropM t p) q = eqs t q := by
  have e := congrArg (fun x => eqs x q) (h.split p)
  simp only [eqs_append] at e
  have e0 : eqs (eqs t p) q = [] := List.filter_eq_nil_iff.2 fun x hx => by simpa [(mem_eqs.1 hx).2] using fun e => hne e.symm
  rw [e0, List.nil_append] at e
  unfold dropM
  rw [eqs_append, ← e]

theorem look_drop {t : List Fl} (h : Ris t) (p q : ByteArray) : look (dropM t p) q = if q = p then none else look t q := by
  by_cases e : q = p
  · rw [if_pos e, e]; exact look_none.2 (eqs_dropM t p)
  · rw [if_neg e]; unfold look; rw [eqs_drop h e]

/-- What becomes of a file by a change: the fault, the lines. -/
def chg1 (c : Ch) (x : Option (List ByteArray)) : Int × Option (List ByteArray) :=
  if c.1 = 2 ∧ x ≠ none then (6, none) else if c.1 ≠ 2 ∧ x = none then (4, none)
  else if (stF (x.getD []) c.2.2).2 ≠ 0 then ((stF (x.getD []) c.2.2).2, none)
  else if c.1 ≠ 3 then (0, some (sR (x.getD []) c.2.2)) else if sR (x.getD []) c.2.2 ≠ [] then (6, none) else (0, none)

theorem chg1_zero {c : Ch} {x : Option (List ByteArray)} (h : (chg1 c x).1 = 0) : (c.1 = 2 ↔ x = none) ∧ (stF (x.getD []) c.2.2).2 = 0 ∧ (c.1 = 3 → sR (x.getD []) c.2.2 = []) ∧ (chg1 c x).2 = if c.1 = 3 then none else some (sR (x.getD []) c.2.2) := by
  unfold chg1 at h ⊢
  by_cases h1 : c.1 = 2 ∧ x ≠ none
  · rw [if_pos h1] at h; simp at h
  · rw [if_neg h1] at h ⊢
    by_cases h2 : c.1 ≠ 2 ∧ x = none
    · rw [if_pos h2] at h; simp at h
    · rw [if_neg h2] at h ⊢
      have h12 : c.1 = 2 ↔ x = none := by
        constructor
        · intro e
          by_cases e2 : x = none
          · exact e2
          · exact absurd ⟨e, e2⟩ h1
        · intro e
          by_cases e2 : c.1 = 2
          · exact e2
          · exact absurd ⟨e2, e⟩ h2
      by_cases h3 : (stF (x.getD []) c.2.2).2 = 0
      · rw [if_neg (fun e => e h3)] at h ⊢
        by_cases h4 : c.1 = 3
        · rw [if_neg (fun e => e h4)] at h ⊢
          by_cases h5 : sR (x.getD []) c.2.2 = []
          · rw [if_neg (fun e => e h5), if_pos h4]
            exact ⟨h12, h3, fun _ => h5, rfl⟩
          · rw [if_pos h5] at h; simp at h
        · rw [if_pos h4, if_neg h4]
          exact ⟨h12, h3, fun e => absurd e h4, rfl⟩
      · rw [if_pos h3] at h; exact absurd h h3

theorem chg1_of {c : Ch} {x : Option (List ByteArray)} (h1 : c.1 = 2 ↔ x = none) (h2 : (stF (x.getD []) c.2.2).2 = 0) (h3 : c.1 = 3 → sR (x.getD []) c.2.2 = []) : chg1 c x = (0, if c.1 = 3 then none else some (sR (x.getD []) c.2.2)) := by
  unfold chg1
  rw [if_neg (fun h => h.2 (h1.1 h.1)), if_neg (fun h => h.1 (h1.2 h.2)), if_neg (fun e => e h2)]
  by_cases h4 : c.1 = 3
  · rw [if_neg (fun e => e h4), if_neg (fun e => e (h3 h4)), if_pos h4]
  · rw [if_pos h4, if_neg h4]

/-- Lines that are those of a file. -/
def okL (x : Option (List ByteArray)) : Prop := ∀ l, x = some l → lsf (bts l) = 0

theorem sR_ok {xs : List ByteArray} {l : List Hk} (h : (stF xs l).2 = 0) : lsf (bts (sR xs l)) = 0 := by
  obtain ⟨h1, h2, _, h4⟩ := stF_zero h
  exact lsf_of h4 (sR_lines h1 h2)

theorem chg1_okL {c : Ch} {x : Option (List ByteArray)} (h : (chg1 c x).1 = 0) : okL (chg1 c x).2 := by
  obtain ⟨_, h2, _, h4⟩ := chg1_zero h
  intro l hl
  rw [h4] at hl
  by_cases e : c.1 = 3
  · rw [if_pos e] at hl; cases hl
  · rw [if_neg e] at hl
    rw [← Option.some.inj hl]; exact sR_ok h2

/-- A path set to lines, or to none. -/
def setM (t : List Fl) (p : ByteArray) : Option (List ByteArray) → List Fl
  | some l => putM t (p, l)
  | none => dropM t p

theorem setM_ris {t : List Fl} (h : Ris t) (p : ByteArray) (o : Option (List ByteArray)) : Ris (setM t p o) := by
  cases o with
  | none => exact h.dropd p
  | some l => exact h.put (p, l)

theorem look_set {t : List Fl} (h : Ris t) (p : ByteArray) (o : Option (List ByteArray)) (q : ByteArray) : look (setM t p o) q = if q = p then o else look t q := by
  cases o with
  | none => exact look_drop h p q
  | some l => exact look_put h (p, l) q

/-- A patch done to a tree, change by change. -/
def apR (t : List Fl) : List Ch → Nat → List Fl × Nat × Int
  | [], _ => (t, 0, 0)
  | c :: r, k => if (chg1 c (look t c.2.1)).1 = 0 then apR (setM t c.2.1 (chg1 c (look t c.2.1)).2) r (k + 1) else ([], k, (chg1 c (look t c.2.1)).1)

/-- What a path comes to. -/
def lk : List Ch → ByteArray → Option (List ByteArray) → Option (List ByteArray)
  | [], _, x => x
  | c :: r, q, x => if c.2.1 = q then (chg1 c x).2 else lk r q x

theorem apR_ok {p : List Ch} {t : List Fl} {k : Nat} (ht : Ris t) (hp : RisC p) (h : ∀ c ∈ p, (chg1 c (look t c.2.1)).1 = 0) :
    (apR t p k).2 = (0, 0) ∧ Ris (apR t p k).1 ∧ ∀ q, look (apR t p k).1 q = lk p q (look t q) := by
  induction p generalizing t k with
  | nil => exact ⟨rfl, ht, fun q => rfl⟩
  | cons c r ih =>
    obtain ⟨p1, p2⟩ := List.pairwise_cons.1 hp
    have h0 := h c (by simp)
    have hne : ∀ d ∈ r, d.2.1 ≠ c.2.1 := fun d hd e => bl_ne (p1 d hd) e.symm
    have := ih (t := setM t c.2.1 (chg1 c (look t c.2.1)).2) (k := k + 1) (setM_ris ht _ _) p2 fun d hd => by
      rw [look_set ht, if_neg (hne d hd)]
      exact h d (List.mem_cons_of_mem _ hd)
    rw [apR, if_pos h0]
    obtain ⟨i1, i2, i3⟩ := this
    refine ⟨i1, i2, fun q => ?_⟩
    rw [i3, look_set ht, lk]
    by_cases e : c.2.1 = q
    · rw [if_pos e.symm, if_pos e]
      have hl : ∀ (r : List Ch) (x : Option (List ByteArray)), (∀ d ∈ r, d.2.1 ≠ q) → lk r q x = x := by
        intro r
        induction r with
        | nil => intro x _; rfl
        | cons d r ih => intro x hr; rw [lk, if_neg (hr d (by simp))]; exact ih x fun d hd => hr d (List.mem_cons_of_mem _ hd)
      rw [hl r _ fun d hd => by rw [← e]; exact hne d hd, e]
    · rw [if_neg (fun x => e x.symm), if_neg e]

theorem apR_inv {p : List Ch} {t : List Fl} {k : Nat} (ht : Ris t) (hp : RisC p) (h : (apR t p k).2.2 = 0) : ∀ c ∈ p, (chg1 c (look t c.2.1)).1 = 0 := by
  induction p generalizing t k with
  | nil => intro c hc; cases hc
  | cons c r ih =>
    obtain ⟨p1, p2⟩ := List.pairwise_cons.1 hp
    rw [apR] at h
    by_cases h0 : (chg1 c (look t c.2.1)).1 = 0
    · rw [if_pos h0] at h
      have := ih (setM_ris ht _ _) p2 h
      intro d hd
      rcases List.mem_cons.1 hd with rfl | hd
      · exact h0
      · have h1 := this d hd
        rw [look_set ht, if_neg (fun e => bl_ne (p1 d hd) e.symm)] at h1
        exact h1
    · rw [if_neg h0] at h; exact absurd h h0

theorem lk_mem {p : List Ch} (hp : RisC p) {c : Ch} (hc : c ∈ p) (x : Option (List ByteArray)) : lk p c.2.1 x = (chg1 c x).2 := by
  induction p with
  | nil => cases hc
  | cons d r ih =>
    obtain ⟨p1, p2⟩ := List.pairwise_cons.1 hp
    rw [lk]
    rcases List.mem_cons.1 hc with rfl | hc
    · rw [if_pos rfl]
    · rw [if_neg (bl_ne (p1 c hc)), ih p2 hc]
theorem lk_none {p : List Ch} {q : ByteArray} (h : ∀ c ∈ p, c.2.1 ≠ q) (x : Option (List ByteArray)) : lk p q x = x := by
  induction p with
  | nil => rfl
  | cons d r ih => rw [lk, if_neg (h d (by simp)), ih fun c hc => h c (List.mem_cons_of_mem _ hc)]

end Go.Proofs.YtnkdmgekpajfhadGreatDoor

namespace Go.Proofs.YtnkdmgekpajfhadGreatDoor
open Go Dist

/-- A patch done to a tree: the tree, where it fails, how. -/
def apF (t : List Fl) (p : List Ch) : List Fl × Nat × Int :=
  if (tf t).2 ≠ 0 then ([], 0, (tf t).2) else if (kf p).2 ≠ 0 then ([], (kf p).1, (kf p).2)
  else if (apR t p 0).2.2 ≠ 0 then ([], (apR t p 0).2.1, (apR t p 0).2.2)
  else if 8 < (apR t p 0).1.length then ([], 0, 3) else ((apR t p 0).1, 0, 0)

theorem apF_zero {t : List Fl} {p : List Ch} (h : (apF t p).2.2 = 0) : (tf t).2 = 0 ∧ (kf p).2 = 0 ∧ (apR t p 0).2.2 = 0 ∧ (apR t p 0).1.length ≤ 8 ∧ apF t p = ((apR t p 0).1, 0, 0) := by
  unfold apF at h ⊢
  by_cases h1 : (tf t).2 = 0
  · rw [if_neg (fun e => e h1)] at h ⊢
    by_cases h2 : (kf p).2 = 0
    · rw [if_neg (fun e => e h2)] at h ⊢
      by_cases h3 : (apR t p 0).2.2 = 0
      · rw [if_neg (fun e => e h3)] at h ⊢
        by_cases h4 : 8 < (apR t p 0).1.length
        · rw [if_pos h4] at h; simp at h
        · rw [if_neg h4]
          exact ⟨h1, h2, h3, by omega, rfl⟩
      · rw [if_pos h3] at h; exact absurd h h3
    · rw [if_pos h2] at h; exact absurd h h2
  · rw [if_pos h1] at h; exact absurd h h1
theorem apF_of {t : List Fl} {p : List Ch} (h1 : (tf t).2 = 0) (h2 : (kf p).2 = 0) (h3 : (apR t p 0).2.2 = 0) (h4 : (apR t p 0).1.length ≤ 8) : apF t p = ((apR t p 0).1, 0, 0) := by
  unfold apF
  rw [if_neg (fun e => e h1), if_neg (fun e => e h2), if_neg (fun e => e h3), if_neg (by omega)]
theorem apF_bad {t : List Fl} {p : List Ch} (h : (apF t p).2.2 ≠ 0) : (apF t p).1 = [] := by
  unfold apF at h ⊢
  split
  · rfl
  · split
    · rfl
    · split
      · rfl
      · split
        · rfl
        · rename_i a b c d
          rw [if_neg a, if_neg b, if_neg c, if_neg d] at h
          exact absurd rfl h

/-- What comes of a tree is one, if it is not too great. -/
theorem apR_tree {t : List Fl} {p : List Ch} (h1 : (tf t).2 = 0) (h2 : (kf p).2 = 0) (h3 : (apR t p 0).2.2 = 0) (h4 : (apR t p 0).1.length ≤ 8) : tf (apR t p 0).1 = (0, 0) := by
  obtain ⟨_, t2, t3⟩ := tf_zero h1
  obtain ⟨_, k2, k3⟩ := kf_zero h2
  have h0 := apR_inv t2 k2 h3
  obtain ⟨_, r2, r3⟩ := apR_ok (k := 0) t2 k2 h0
  refine tf_of h4 r2 fun x hx => ?_
  have hl := r2.look_mem hx
  rw [r3] at hl
  by_cases hq : ∃ c ∈ p, c.2.1 = x.1
  · obtain ⟨c, hc, e⟩ := hq
    rw [← e, lk_mem k2 hc] at hl
    have hp := (cOne_zero (k3 c hc)).2.1
    rw [e] at hp
    rw [fOne_lines hp]
    have := chg1_okL (h0 c hc)
    rw [e] at this hl
    exact this _ hl
  · rw [lk_none fun c hc e => hq ⟨c, hc, e⟩] at hl
    exact t3 _ (look_some hl)

/-- All lines as one hunk. -/
def whl (ls : List ByteArray) (sg : Int) : List Hk := if ls = [] then [] else [(0, 0, ls.map fun s => (sg, s))]

theorem less_whole (ls : List ByteArray) (sg c : Int) : lessOf c (ls.map fun s => (sg, s)) = if sg = c then [] else ls := by
  unfold lessOf
  induction ls with
  | nil => simp
  | cons x r ih =>
    by_cases e : sg = c
    · rw [if_pos e] at ih ⊢
      rw [List.map_cons, List.filter_cons_of_neg (by simp [e])]
      exact ih
    · rw [if_neg e] at ih ⊢
      rw [List.map_cons, List.filter_cons_of_pos (by simp [e]), List.map_cons, ih]

theorem hf_whl {ls : List ByteArray} {sg : Int} (h : lsf (bts ls) = 0) (hs : sg = 43 ∨ sg = 45) : hf (whl ls sg) = (0, 0) := by
  unfold whl
  by_cases e : ls = []
  · rw [if_pos e]; rfl
  · rw [if_neg e]
    obtain ⟨h1, h2⟩ := lsf_zero h
    rw [bts_length] at h1
    have hsg : ∀ m ∈ ls.map (fun s => (sg, s)), sgn m.1 := fun m hm => by
      obtain ⟨s, _, rfl⟩ := List.mem_map.1 hm
      unfold sgn
      rcases hs with e | e <;> simp [e]
    have hsf : sf (ls.map fun s => (sg, s)) = 0 := sf_of (by rw [List.length_map]; omega) fun m hm => ⟨hsg m hm, by
      obtain ⟨s, hs, rfl⟩ := List.mem_map.1 hm
      exact h2 _ (List.mem_map.2 ⟨s, hs, rfl⟩)⟩
    have ho := ob_less _ hsg
    have hn := nb_less _ hsg
    rw [less_whole] at ho hn
    have hc : 0 < chg (ls.map fun s => (sg, s)) := by
      unfold chg
      cases ls with
      | nil => exact absurd rfl e
      | cons x r =>
        rw [List.map_cons, List.filter_cons_of_pos (by rcases hs with e | e <;> simp [e])]
        simp
    have hob : ob (ls.map fun s => (sg, s)) ≤ 60 := by
      rw [← ho]
      split
      · simp
      · exact h1
    have hnb : Dist.nb (ls.map fun s => (sg, s)) ≤ 60 := by
      rw [← hn]
      split
      · simp
      · exact h1
    refine hf_ok (by simp) fun j hj => ?_
    obtain rfl : j = 0 := by simpa using hj
    refine hAt_of ?_ ?_
    · refine hOne_of (h := (0, 0, ls.map fun s => (sg, s))) hsf hc ?_
      show (0 : Int) ≤ 0 ∧ (0 : Int) ≤ 60 ∧ (0 : Int) + (ob (ls.map fun s => (sg, s)) : Int) ≤ 60 ∧ (0 : Int) ≤ 0 ∧ (0 : Int) ≤ 60 ∧ (0 : Int) + (Dist.nb (ls.map fun s => (sg, s)) : Int) ≤ 60
      omega
    · simp [eo, sh]

/-- One hunk at the file's head: what it makes. -/
theorem sR_one (xs : List ByteArray) (ms : List (Int × ByteArray)) (hs : ∀ m ∈ ms, sgn m.1) : sR xs [(0, 0, ms)] = lessOf 45 ms ++ xs.drop (lessOf 43 ms).length := by
  rw [ob_less ms hs]
  unfold sR
  show sO xs [(0, 0, ms)] 1 ++ xs.drop (eN [(0, 0, ms)] 1) = _
  have e1 : eN [((0 : Int), (0 : Int), ms)] 1 = ob ms := by
    unfold eN
    show (eo [((0 : Int), (0 : Int), ms)]).toNat = ob ms
    have : eo [((0 : Int), (0 : Int), ms)] = (0 : Int) + ob ms := by
      have := eo_snoc [] ((0 : Int), (0 : Int), ms)
      simpa using this
    rw [this]; omega
  have e2 : sO xs [((0 : Int), (0 : Int), ms)] 1 = lessOf 45 ms := by
    simp [sO, eN, eo]
  rw [e1, e2]

theorem stF_whl_make {ls : List ByteArray} (h : lsf (bts ls) = 0) : (stF [] (whl ls 43)).2 = 0 ∧ sR [] (whl ls 43) = ls := by
  have hh := hf_whl (sg := 43) h (.inl rfl)
  have h0 : lsf (bts []) = 0 := rfl
  have hs : sR [] (whl ls 43) = ls := by
    unfold whl
    by_cases e : ls = []
    · rw [if_pos e, e]; rfl
    · rw [if_neg e, sR_one [] _ (fun m hm => by obtain ⟨s, _, rfl⟩ := List.mem_map.1 hm; unfold sgn; simp), less_whole, less_whole]
      simp
  have hst : Stand [] (whl ls 43) := by
    intro j hj
    unfold whl at hj ⊢
    by_cases e : ls = []
    · rw [if_pos e] at hj; simp at hj
    · rw [if_neg e] at hj ⊢
      obtain rfl : j = 0 := by simpa using hj
      show stB [] 0 (lessOf 43 (ls.map fun s => (43, s))) = true
      rw [less_whole, if_pos rfl, stB_iff]
      exact ⟨Nat.le_refl _, rfl⟩
  refine ⟨?_, hs⟩
  rw [stF_ok h0 (by rw [hh]) (clash_none hst) (by rw [hs]; have := lsf_len h; omega)]

theorem stF_whl_wipe {ls : List ByteArray} (h : lsf (bts ls) = 0) : (stF ls (whl ls 45)).2 = 0 ∧ sR ls (whl ls 45) = [] := by
  have hh := hf_whl (sg := 45) h (.inr rfl)
  have hs : sR ls (whl ls 45) = [] := by
    unfold whl
    by_cases e : ls = []
    · rw [if_pos e, e]; rfl
    · rw [if_neg e, sR_one ls _ (fun m hm => by obtain ⟨s, _, rfl⟩ := List.mem_map.1 hm; unfold sgn; simp), less_whole, less_whole]
      simp
  have hst : Stand ls (whl ls 45) := by
    intro j hj
    unfold whl at hj ⊢
    by_cases e : ls = []
    · rw [if_pos e] at hj; simp at hj
    · rw [if_neg e] at hj ⊢
      obtain rfl : j = 0 := by simpa using hj
      show stB ls 0 (lessOf 43 (ls.map fun s => (45, s))) = true
      rw [less_whole, if_neg (by decide), stB_iff]
      exact ⟨by omega, by simp⟩
  refine ⟨?_, hs⟩
  rw [stF_ok h (by rw [hh]) (clash_none hst) (by rw [hs]; simp)]

/-- A script that changes nothing has no pieces. -/
theorem cut_none {ms : List (Int × ByteArray)} (h : chg ms = 0) (n : Nat) : cut ms n = [] := by
  have hk : ∀ k, k < ms.length → (ms.getD k (0, ByteArray.empty)).1 = 32 := fun k hk => by
    have e : ms.getD k (0, ByteArray.empty) = ms[k] := by simp [hk]
    rw [e]
    unfold chg at h
    have := List.length_eq_zero_iff.1 h
    have := List.filter_eq_nil_iff.1 this ms[k] (List.getElem_mem _)
    simpa using this
  have hn : ∀ i, near ms n i = false := fun i => by
    rw [near_not]
    rintro ⟨_, k, h1, h2, _⟩
    exact h2 (hk k h1)
  have : ∀ k, rl ms n k = 0 ∧ cl ms n k = [] := by
    intro k
    induction k with
    | zero => exact ⟨rfl, rfl⟩
    | succ k ih => exact ⟨rl_out (hn k), by rw [cl_out (hn k) ih.1]; exact ih.2⟩
  exact (this _).2

/-- What is between a path's lines in the one tree and in the other. -/
def dfc (x y : Option (List ByteArray)) (p : ByteArray) (n : Nat) : Option Ch := match x, y with
  | none, none => none
  | none, some ys => some (2, p, whl ys 43)
  | some xs, none => some (3, p, whl xs 45)
  | some xs, some ys => if cut (scr xs ys) n = [] then none else some (1, p, cut (scr xs ys) n)

/-- All paths of both trees. -/
def allM (a b : List Fl) : List Fl := b.foldl putM a
def dfP (a b : List Fl) (n : Nat) : List Ch := (allM a b).filterMap fun f => dfc (look a f.1) (look b f.1) f.1 n

theorem scr_facts {xs ys : List ByteArray} (hx : lsf (bts xs) = 0) (hy : lsf (bts ys) = 0) {n : Nat} (hn : n ≤ 1000) : hf (cut (scr xs ys) n) = (0, 0) ∧ (stF xs (cut (scr xs ys) n)).2 = 0 ∧ sR xs (cut (scr xs ys) n) = ys := by
  have hff : ff xs ys = 0 := by unfold ff both; simp [hx, hy]
  have hm : mkf xs ys n = 0 := by
    unfold mkf
    rw [if_neg (fun e => e hff), if_neg (by omega)]
  have e : mOfH xs ys n = cut (scr xs ys) n := by unfold mOfH; rw [if_pos hm, Int.toNat_natCast]
  obtain ⟨h1, h2⟩ := stF_make hm
  rw [e] at h1 h2
  refine ⟨?_, by rw [h1], h2⟩
  have hz := (stF_zero (xs := xs) (l := cut (scr xs ys) n) (by rw [h1])).2.1
  obtain ⟨a1, a2⟩ := hf_zero hz
  exact hf_ok a1 a2

/-- What is between leads there. -/
theorem dfc_some {x y : Option (List ByteArray)} {p : ByteArray} {n : Nat} {c : Ch} (hx : okL x) (hy : okL y) (hn : n ≤ 1000) (hp : pf p.data.toList = 0) (h : dfc x y p n = some c) : c.2.1 = p ∧ cOne c = 0 ∧ chg1 c x = (0, y) := by
  cases x with
  | none =>
    cases y with
    | none => cases h
    | some ys =>
      obtain rfl := Option.some.inj h
      have hys := hy ys rfl
      obtain ⟨s1, s2⟩ := stF_whl_make hys
      refine ⟨rfl, cOne_of ⟨by simp, by simp⟩ hp (by rw [hf_whl hys (.inl rfl)]) ?_, ?_⟩
      · unfold shp
        rw [if_neg (by simp)]
        show (match whl ys 43 with | [] => true | h :: r => decide (r = []) && decide (h.1 = 0) && decide (lessOf (if (2 : Int) = 2 then 43 else 45) h.2.2 = [])) = true
        unfold whl
        by_cases e : ys = []
        · rw [if_pos e]
        · rw [if_neg e]
          simp only
          rw [less_whole]; simp
      · rw [chg1_of (c := (2, p, whl ys 43)) (x := none) ⟨fun _ => rfl, fun _ => rfl⟩ s1 (fun e => by simp at e), if_neg (by simp)]
        show (0, some (sR [] (whl ys 43))) = (0, some ys)
        rw [s2]
  | some xs =>
    have hxs := hx xs rfl
    cases y with
    | none =>
      obtain rfl := Option.some.inj h
      obtain ⟨s1, s2⟩ := stF_whl_wipe hxs
      refine ⟨rfl, cOne_of ⟨by simp, by simp⟩ hp (by rw [hf_whl hxs (.inr rfl)]) ?_, ?_⟩
      · unfold shp
        rw [if_neg (by simp)]
        show (match whl xs 45 with | [] => true | h :: r => decide (r = []) && decide (h.1 = 0) && decide (lessOf (if (3 : Int) = 2 then 43 else 45) h.2.2 = [])) = true
        unfold whl
        by_cases e : xs = []
        · rw [if_pos e]
        · rw [if_neg e]
          simp only
          rw [less_whole]; simp
      · rw [chg1_of (c := (3, p, whl xs 45)) (x := some xs) ⟨fun e => by simp at e, fun e => by cases e⟩ s1 (fun _ => s2), if_pos rfl]
    | some ys =>
      have hys := hy ys rfl
      obtain ⟨f1, f2, f3⟩ := scr_facts hxs hys hn
      unfold dfc at h
      simp only at h
      by_cases e : cut (scr xs ys) n = []
      · rw [if_pos e] at h; cases h
      · rw [if_neg e] at h
        obtain rfl := Option.some.inj h
        refine ⟨rfl, cOne_of ⟨by simp, by simp⟩ hp (by rw [f1]) ?_, ?_⟩
        · unfold shp
          rw [if_pos rfl]
          exact decide_eq_true e
        · rw [chg1_of (c := (1, p, cut (scr xs ys) n)) (x := some xs) ⟨fun e => by simp at e, fun e => by cases e⟩ f2 (fun e => by simp at e), if_neg (by simp)]
          show (0, some (sR xs (cut (scr xs ys) n))) = (0, some ys)
          rw [f3]

theorem dfc_none {x y : Option (List ByteArray)} {p : ByteArray} {n : Nat} (hx : okL x) (hy : okL y) (hn : n ≤ 1000) (h : dfc x y p n = none) : x = y := by
  cases x with
  | none =>
    cases y with
    | none => rfl
    | some ys => cases h
  | some xs =>
    cases y with
    | none => cases h
    | some ys =>
      obtain ⟨_, _, f3⟩ := scr_facts (hx xs rfl) (hy ys rfl) hn
      unfold dfc at h
      simp only at h
      by_cases e : cut (scr xs ys) n = []
      · rw [e] at f3
        have : sR xs [] = xs := by simp [sR, sO, eN, eo]
        rw [this] at f3
        rw [f3]
      · rw [if_neg e] at h; cases h

/-- All paths of both, each once. -/
theorem all_ris {a : List Fl} (h : Ris a) (b : List Fl) : Ris (allM a b) := by
  unfold allM
  induction b generalizing a with
  | nil => exact h
  | cons x r ih => exact ih (h.put x)
theorem all_mem {a : List Fl} (h : Ris a) (b : List Fl) (q : ByteArray) : eqs (allM a b) q = [] ↔ eqs a q = [] ∧ eqs b q = [] := by
  unfold allM
  induction b generalizing a with
  | nil => simp [eqs]
  | cons x r ih =>
    rw [List.foldl_cons, ih (h.put x)]
    by_cases e : q = x.1
    · have h1 : eqs (putM a x) q = [x] := by rw [e]; exact (lo_put a x).2.1
      have h2 : eqs (x :: r) q ≠ [] := fun e2 => by
        have : x ∈ eqs (x :: r) q := mem_eqs.2 ⟨by simp, e.symm⟩
        rw [e2] at this; cases this
      rw [h1]
      constructor
      · rintro ⟨a, _⟩; cases a
      · rintro ⟨_, b⟩; exact absurd b h2
    · have h1 : eqs (x :: r) q = eqs r q := List.filter_cons_of_neg (by simpa using fun e2 => e e2.symm)
      rw [eqs_put e h, h1]
theorem all_length {a : List Fl} (h : Ris a) (b : List Fl) : (allM a b).length ≤ a.length + b.length := by
  unfold allM
  induction b generalizing a with
  | nil => simp
  | cons x r ih =>
    have := ih (h.put x)
    obtain ⟨p1, p2⟩ := h.put_length x
    have hp : (putM a x).length ≤ a.length + 1 := by
      by_cases e : eqs a x.1 = []
      · rw [p2 e]; omega
      · rw [p1 e]; omega
    rw [List.foldl_cons, List.length_cons]; omega

theorem tree_okL {t : List Fl} (h : ∀ x ∈ t, fOne x = 0) (q : ByteArray) : okL (look t q) := fun _ hl => (fOne_zero (h _ (look_some hl))).2
theorem tree_path {t : List Fl} (h : ∀ x ∈ t, fOne x = 0) {q : ByteArray} (hq : eqs t q ≠ []) : pf q.data.toList = 0 := by
  cases e : eqs t q with
  | nil => exact absurd e hq
  | cons x r =>
    have hx := mem_eqs.1 (show x ∈ eqs t q by rw [e]; simp)
    have := (fOne_zero (h x hx.1)).1
    rw [hx.2] at this; exact this

theorem all_path {a b : List Fl} (ha : (tf a).2 = 0) (hb : (tf b).2 = 0) {f : Fl} (hf : f ∈ allM a b) : pf f.1.data.toList = 0 := by
  obtain ⟨_, a2, a3⟩ := tf_zero ha
  obtain ⟨_, _, b3⟩ := tf_zero hb
  have hm : eqs (allM a b) f.1 ≠ [] := fun e => by
    have : f ∈ eqs (allM a b) f.1 := mem_eqs.2 ⟨hf, rfl⟩
    rw [e] at this; cases this
  by_cases e : eqs a f.1 = []
  · refine tree_path b3 (q := f.1) fun e2 => hm ((all_mem a2 b f.1).2 ⟨e, e2⟩)
  · exact tree_path a3 e

theorem dfP_mem {a b : List Fl} {n : Nat} (ha : (tf a).2 = 0) (hb : (tf b).2 = 0) (hn : n ≤ 1000) {c : Ch} (hc : c ∈ dfP a b n) : cOne c = 0 ∧ chg1 c (look a c.2.1) = (0, look b c.2.1) := by
  obtain ⟨_, _, a3⟩ := tf_zero ha
  obtain ⟨_, _, b3⟩ := tf_zero hb
  obtain ⟨f, hf, e⟩ := List.mem_filterMap.1 hc
  obtain ⟨e1, e2, e3⟩ := dfc_some (tree_okL a3 f.1) (tree_okL b3 f.1) hn (all_path ha hb hf) e
  rw [e1]
  exact ⟨e2, e3⟩

theorem dfP_ris {a b : List Fl} {n : Nat} (ha : (tf a).2 = 0) (hb : (tf b).2 = 0) (hn : n ≤ 1000) : RisC (dfP a b n) := by
  obtain ⟨_, a2, a3⟩ := tf_zero ha
  obtain ⟨_, _, b3⟩ := tf_zero hb
  unfold dfP RisC
  rw [List.pairwise_filterMap]
  refine (all_ris a2 b).imp_of_mem ?_
  intro x y hx hy hxy c hc d hd
  rw [(dfc_some (tree_okL a3 x.1) (tree_okL b3 x.1) hn (all_path ha hb hx) hc).1, (dfc_some (tree_okL a3 y.1) (tree_okL b3 y.1) hn (all_path ha hb hy) hd).1]
  exact hxy

theorem kf_dfP {a b : List Fl} {n : Nat} (ha : (tf a).2 = 0) (hb : (tf b).2 = 0) (hn : n ≤ 1000) : kf (dfP a b n) = (0, 0) := by
  refine kf_of ?_ (dfP_ris ha hb hn) fun c hc => (dfP_mem ha hb hn hc).1
  obtain ⟨a1, a2, _⟩ := tf_zero ha
  obtain ⟨b1, _, _⟩ := tf_zero hb
  have h1 : (dfP a b n).length ≤ (allM a b).length := List.length_filterMap_le _ _
  have h2 := all_length a2 b
  omega

end Go.Proofs.YtnkdmgekpajfhadGreatDoor

namespace Go.Proofs.YtnkdmgekpajfhadGreatDoor
open Go Dist

/-- The file that a change leaves, or none. -/
def opt (p : ByteArray) : Option (List ByteArray) → List Fl
  | some l => [(p, l)]
  | none => []

/-- A patch done: what lies behind, what is still to come. -/
def apG : List Fl → List Fl → List Ch → Nat → List Fl × Nat × Int
  | out, t, [], _ => (out ++ t, 0, 0)
  | out, t, c :: r, k => if (chg1 c (look t c.2.1)).1 = 0 then apG (out ++ (lo t c.2.1 ++ opt c.2.1 (chg1 c (look t c.2.1)).2)) (hi t c.2.1) r (k + 1) else ([], k, (chg1 c (look t c.2.1)).1)

theorem look_behind {out t : List Fl} {q : ByteArray} (h : ∀ x ∈ out, bl x.1 q = true) : look (out ++ t) q = look t q := by
  unfold look
  rw [eqs_append, (lo_all h).2.1, List.nil_append]

theorem set_behind {out t : List Fl} {q : ByteArray} (h : ∀ x ∈ out, bl x.1 q = true) (o : Option (List ByteArray)) : setM (out ++ t) q o = out ++ (lo t q ++ opt q o) ++ hi t q := by
  obtain ⟨h1, _, h3⟩ := lo_all h
  cases o with
  | none =>
    show lo (out ++ t) q ++ hi (out ++ t) q = _
    rw [lo_append, hi_append, h1, h3]
    simp [opt]
  | some l =>
    show lo (out ++ t) q ++ (q, l) :: hi (out ++ t) q = _
    rw [lo_append, hi_append, h1, h3]
    simp [opt]

theorem apG_apR {p : List Ch} : ∀ {out t : List Fl} {k : Nat}, RisC p → (∀ x ∈ out, ∀ c ∈ p, bl x.1 c.2.1 = true) → apG out t p k = apR (out ++ t) p k := by
  induction p with
  | nil => intro out t k _ _; rfl
  | cons c r ih =>
    intro out t k hp h
    obtain ⟨p1, p2⟩ := List.pairwise_cons.1 hp
    have h0 : ∀ x ∈ out, bl x.1 c.2.1 = true := fun x hx => h x hx c (by simp)
    rw [apG, apR, look_behind h0]
    by_cases e : (chg1 c (look t c.2.1)).1 = 0
    · rw [if_pos e, if_pos e, set_behind h0, ih p2]
      intro x hx d hd
      rcases List.mem_append.1 hx with hx | hx
      · exact h x hx d (List.mem_cons_of_mem _ hd)
      · rcases List.mem_append.1 hx with hx | hx
        · exact bl_trans (mem_lo.1 hx).2 (p1 d hd)
        · cases ho : (chg1 c (look t c.2.1)).2 with
          | none => rw [ho] at hx; cases hx
          | some l =>
            rw [ho] at hx
            rw [List.mem_singleton.1 hx]
            exact p1 d hd
    · rw [if_neg e, if_neg e]

/-- What is between two trees, found by going through both at once. -/
def dfG (n : Nat) : Nat → List Fl → List Fl → List Ch
  | 0, _, _ => []
  | _ + 1, [], [] => []
  | f + 1, x :: a, [] => (3, x.1, whl x.2 45) :: dfG n f a []
  | f + 1, [], y :: b => (2, y.1, whl y.2 43) :: dfG n f [] b
  | f + 1, x :: a, y :: b => if bl x.1 y.1 = true then (3, x.1, whl x.2 45) :: dfG n f a (y :: b) else if bl y.1 x.1 = true then (2, y.1, whl y.2 43) :: dfG n f (x :: a) b
      else if x.2 = y.2 then dfG n f a b else (1, x.1, cut (scr x.2 y.2) n) :: dfG n f a b

theorem look_cons (x : Fl) (a : List Fl) (q : ByteArray) : look (x :: a) q = if x.1 = q then some x.2 else look a q := by
  unfold look eqs
  by_cases e : x.1 = q
  · rw [if_pos e, List.filter_cons_of_pos (by simpa using e)]; rfl
  · rw [if_neg e, List.filter_cons_of_neg (by simpa using e)]
theorem look_nil (q : ByteArray) : look [] q = none := rfl
theorem look_ahead {t : List Fl} {q : ByteArray} (h : ∀ x ∈ t, bl q x.1 = true) : look t q = none := look_none.2 (hi_all h).2.1

theorem cut_same {xs ys : List ByteArray} (hx : lsf (bts xs) = 0) (hy : lsf (bts ys) = 0) {n : Nat} (hn : n ≤ 1000) : cut (scr xs ys) n = [] ↔ xs = ys := by
  constructor
  · intro e
    have : dfc (some xs) (some ys) ByteArray.empty n = none := by unfold dfc; simp only; rw [if_pos e]
    exact Option.some.inj (dfc_none (fun l h => by rw [← Option.some.inj h]; exact hx) (fun l h => by rw [← Option.some.inj h]; exact hy) hn this)
  · intro e
    subst e
    have : chg (scr xs xs) = 0 := by rw [(scr_ok xs xs).2.2.1]; exact (dist_zero xs xs).2 rfl
    exact cut_none this n

/-- What is found is what each path asks for; it rises. -/
theorem dfG_mem {n : Nat} (hn : n ≤ 1000) : ∀ {f : Nat} {a b : List Fl}, a.length + b.length ≤ f → Ris a → Ris b → (∀ x ∈ a, lsf (bts x.2) = 0) → (∀ x ∈ b, lsf (bts x.2) = 0) →
    (∀ c, c ∈ dfG n f a b ↔ ∃ q, dfc (look a q) (look b q) q n = some c) := by
  intro f
  induction f with
  | zero =>
    intro a b hl _ _ _ _ c
    have ha : a = [] := List.length_eq_zero_iff.1 (by omega)
    have hb : b = [] := List.length_eq_zero_iff.1 (by omega)
    subst ha hb
    exact ⟨fun h => (by cases h), fun ⟨q, h⟩ => (by cases h)⟩
  | succ f ih =>
    intro a b hl ha hb la lb c
    have wipe : ∀ (x : Fl) (a' b : List Fl), Ris (x :: a') → (∀ y ∈ b, bl x.1 y.1 = true) → ((∃ q, dfc (look (x :: a') q) (look b q) q n = some c) ↔ c = (3, x.1, whl x.2 45) ∨ ∃ q, dfc (look a' q) (look b q) q n = some c) := by
      intro x a' b hr hlt
      have h1 := look_ahead hlt
      have h2 := look_ahead (List.pairwise_cons.1 hr).1
      constructor
      · rintro ⟨q, h⟩
        rw [look_cons] at h
        by_cases e : x.1 = q
        · rw [if_pos e, ← e, h1] at h
          exact .inl (Option.some.inj h).symm
        · rw [if_neg e] at h; exact .inr ⟨q, h⟩
      · rintro (rfl | ⟨q, h⟩)
        · exact ⟨x.1, by rw [look_cons, if_pos rfl, h1]; rfl⟩
        · by_cases e : x.1 = q
          · rw [← e, h1, h2] at h; cases h
          · exact ⟨q, by rw [look_cons, if_neg e]; exact h⟩
    have make : ∀ (y : Fl) (a b' : List Fl), Ris (y :: b') → (∀ x ∈ a, bl y.1 x.1 = true) → ((∃ q, dfc (look a q) (look (y :: b') q) q n = some c) ↔ c = (2, y.1, whl y.2 43) ∨ ∃ q, dfc (look a q) (look b' q) q n = some c) := by
      intro y a b' hr hlt
      have h1 := look_ahead hlt
      have h2 := look_ahead (List.pairwise_cons.1 hr).1
      constructor
      · rintro ⟨q, h⟩
        rw [look_cons] at h
        by_cases e : y.1 = q
        · rw [if_pos e, ← e, h1] at h
          exact .inl (Option.some.inj h).symm
        · rw [if_neg e] at h; exact .inr ⟨q, h⟩
      · rintro (rfl | ⟨q, h⟩)
        · exact ⟨y.1, by rw [look_cons, if_pos rfl, h1]; rfl⟩
        · by_cases e : y.1 = q
          · rw [← e, h1, h2] at h; cases h
          · exact ⟨q, by rw [look_cons, if_neg e]; exact h⟩
    cases a with
    | nil =>
      cases b with
      | nil => exact ⟨fun h => (by cases h), fun ⟨q, h⟩ => (by cases h)⟩
      | cons y b =>
        rw [make y [] b hb (fun x hx => by cases hx), dfG, List.mem_cons, ih (by simp at hl ⊢; omega) ha (List.pairwise_cons.1 hb).2 la (fun z hz => lb z (List.mem_cons_of_mem _ hz))]
    | cons x a =>
      obtain ⟨a1, a2⟩ := List.pairwise_cons.1 ha
      have la' : ∀ z ∈ a, lsf (bts z.2) = 0 := fun z hz => la z (List.mem_cons_of_mem _ hz)
      cases b with
      | nil =>
        rw [wipe x a [] ha (fun y hy => by cases hy), dfG, List.mem_cons, ih (by simp at hl ⊢; omega) a2 hb la' lb]
      | cons y b =>
        obtain ⟨b1, b2⟩ := List.pairwise_cons.1 hb
        have lb' : ∀ z ∈ b, lsf (bts z.2) = 0 := fun z hz => lb z (List.mem_cons_of_mem _ hz)
        rw [dfG]
        by_cases e1 : bl x.1 y.1 = true
        · have hlt : ∀ z ∈ y :: b, bl x.1 z.1 = true := fun z hz => by
            rcases List.mem_cons.1 hz with rfl | hz
            · exact e1
            · exact bl_trans e1 (b1 z hz)
          rw [if_pos e1, wipe x a (y :: b) ha hlt, List.mem_cons, ih (by simp at hl ⊢; omega) a2 hb la' lb]
        · rw [if_neg e1]
          by_cases e2 : bl y.1 x.1 = true
          · have hlt : ∀ z ∈ x :: a, bl y.1 z.1 = true := fun z hz => by
              rcases List.mem_cons.1 hz with rfl | hz
              · exact e2
              · exact bl_trans e2 (a1 z hz)
            rw [if_pos e2, make y (x :: a) b hb hlt, List.mem_cons, ih (by simp at hl ⊢; omega) ha b2 la lb']
          · rw [if_neg e2]
            have exy : x.1 = y.1 := bl_tri (by simpa using e1) (by simpa using e2)
            have h1 := look_ahead a1
            have h2 : look b x.1 = none := by rw [exy]; exact look_ahead b1
            have hih := ih (a := a) (b := b) (by simp at hl ⊢; omega) a2 b2 la' lb' c
            have key : (∃ q, dfc (look (x :: a) q) (look (y :: b) q) q n = some c) ↔ dfc (some x.2) (some y.2) x.1 n = some c ∨ ∃ q, dfc (look a q) (look b q) q n = some c := by
              constructor
              · rintro ⟨q, h⟩
                rw [look_cons, look_cons] at h
                by_cases e : x.1 = q
                · rw [if_pos e, if_pos (exy ▸ e), ← e] at h; exact .inl h
                · rw [if_neg e, if_neg (exy ▸ e)] at h; exact .inr ⟨q, h⟩
              · rintro (h | ⟨q, h⟩)
                · exact ⟨x.1, by rw [look_cons, look_cons, if_pos rfl, if_pos exy.symm]; exact h⟩
                · by_cases e : x.1 = q
                  · rw [← e, h1, h2] at h; cases h
                  · exact ⟨q, by rw [look_cons, look_cons, if_neg e, if_neg (exy ▸ e)]; exact h⟩
            rw [key]
            have hcs := cut_same (la x (by simp)) (lb y (by simp)) hn
            by_cases e3 : x.2 = y.2
            · rw [if_pos e3, hih]
              constructor
              · exact .inr
              · rintro (h | h)
                · unfold dfc at h
                  simp only at h
                  rw [if_pos (hcs.2 e3)] at h; cases h
                · exact h
            · rw [if_neg e3, List.mem_cons, hih]
              have : dfc (some x.2) (some y.2) x.1 n = some (1, x.1, cut (scr x.2 y.2) n) := by
                unfold dfc
                simp only
                rw [if_neg (fun e => e3 (hcs.1 e))]
              rw [this]
              constructor
              · rintro (rfl | h)
                · exact .inl rfl
                · exact .inr h
              · rintro (h | h)
                · exact .inl (Option.some.inj h).symm
                · exact .inr h

theorem dfG_path {n : Nat} : ∀ {f : Nat} {a b : List Fl} {c : Ch}, c ∈ dfG n f a b → (∃ x ∈ a, x.1 = c.2.1) ∨ (∃ x ∈ b, x.1 = c.2.1) := by
  intro f
  induction f with
  | zero => intro a b c h; cases h
  | succ f ih =>
    intro a b c h
    cases a with
    | nil =>
      cases b with
      | nil => cases h
      | cons y b =>
        rw [dfG] at h
        rcases List.mem_cons.1 h with rfl | h
        · exact .inr ⟨y, by simp, rfl⟩
        · rcases ih h with ⟨x, hx, _⟩ | ⟨x, hx, e⟩
          · cases hx
          · exact .inr ⟨x, List.mem_cons_of_mem _ hx, e⟩
    | cons x a =>
      have goa : ∀ {b' : List Fl}, (∀ z ∈ b', z ∈ b) → c ∈ dfG n f a b' → (∃ z ∈ x :: a, z.1 = c.2.1) ∨ (∃ z ∈ b, z.1 = c.2.1) := fun hs h => by
        rcases ih h with ⟨z, hz, e⟩ | ⟨z, hz, e⟩
        · exact .inl ⟨z, List.mem_cons_of_mem _ hz, e⟩
        · exact .inr ⟨z, hs z hz, e⟩
      cases b with
      | nil =>
        rw [dfG] at h
        rcases List.mem_cons.1 h with rfl | h
        · exact .inl ⟨x, by simp, rfl⟩
        · exact goa (fun z hz => hz) h
      | cons y b =>
        rw [dfG] at h
        by_cases e1 : bl x.1 y.1 = true
        · rw [if_pos e1] at h
          rcases List.mem_cons.1 h with rfl | h
          · exact .inl ⟨x, by simp, rfl⟩
          · exact goa (fun z hz => hz) h
        · rw [if_neg e1] at h
          by_cases e2 : bl y.1 x.1 = true
          · rw [if_pos e2] at h
            rcases List.mem_cons.1 h with rfl | h
            · exact .inr ⟨y, by simp, rfl⟩
            · rcases ih h with ⟨z, hz, e⟩ | ⟨z, hz, e⟩
              · exact .inl ⟨z, hz, e⟩
              · exact .inr ⟨z, List.mem_cons_of_mem _ hz, e⟩
          · rw [if_neg e2] at h
            by_cases e3 : x.2 = y.2
            · rw [if_pos e3] at h
              exact goa (fun z hz => List.mem_cons_of_mem _ hz) h
            · rw [if_neg e3] at h
              rcases List.mem_cons.1 h with rfl | h
              · exact .inl ⟨x, by simp, rfl⟩
              · exact goa (fun z hz => List.mem_cons_of_mem _ hz) h

theorem dfG_ris {n : Nat} : ∀ {f : Nat} {a b : List Fl}, Ris a → Ris b → RisC (dfG n f a b) := by
  intro f
  induction f with
  | zero => intro a b _ _; exact List.Pairwise.nil
  | succ f ih =>
    intro a b ha hb
    have put : ∀ (c : Ch) (a' b' : List Fl), RisC (dfG n f a' b') → (∀ x ∈ a', bl c.2.1 x.1 = true) → (∀ x ∈ b', bl c.2.1 x.1 = true) → RisC (c :: dfG n f a' b') := by
      intro c a' b' h h1 h2
      refine List.pairwise_cons.2 ⟨fun d hd => ?_, h⟩
      rcases dfG_path hd with ⟨z, hz, e⟩ | ⟨z, hz, e⟩
      · rw [← e]; exact h1 z hz
      · rw [← e]; exact h2 z hz
    cases a with
    | nil =>
      cases b with
      | nil => exact List.Pairwise.nil
      | cons y b =>
        obtain ⟨b1, b2⟩ := List.pairwise_cons.1 hb
        rw [dfG]
        exact put _ _ _ (ih ha b2) (fun x hx => by cases hx) b1
    | cons x a =>
      obtain ⟨a1, a2⟩ := List.pairwise_cons.1 ha
      cases b with
      | nil =>
        rw [dfG]
        exact put _ _ _ (ih a2 hb) a1 (fun x hx => by cases hx)
      | cons y b =>
        obtain ⟨b1, b2⟩ := List.pairwise_cons.1 hb
        rw [dfG]
        by_cases e1 : bl x.1 y.1 = true
        · rw [if_pos e1]
          refine put _ _ _ (ih a2 hb) a1 fun z hz => ?_
          rcases List.mem_cons.1 hz with rfl | hz
          · exact e1
          · exact bl_trans e1 (b1 z hz)
        · rw [if_neg e1]
          by_cases e2 : bl y.1 x.1 = true
          · rw [if_pos e2]
            refine put _ _ _ (ih ha b2) (fun z hz => ?_) b1
            rcases List.mem_cons.1 hz with rfl | hz
            · exact e2
            · exact bl_trans e2 (a1 z hz)
          · rw [if_neg e2]
            have exy : x.1 = y.1 := bl_tri (by simpa using e1) (by simpa using e2)
            by_cases e3 : x.2 = y.2
            · rw [if_pos e3]; exact ih a2 b2
            · rw [if_neg e3]
              refine put _ _ _ (ih a2 b2) a1 fun z hz => ?_
              show bl x.1 z.1 = true
              rw [exy]; exact b1 z hz

/-- Changes that rise are told by what is among them. -/
theorem memC_ext {a b : List Ch} (ha : RisC a) (hb : RisC b) (h : ∀ x, x ∈ a ↔ x ∈ b) : a = b := by
  induction a generalizing b with
  | nil =>
    cases b with
    | nil => rfl
    | cons y t => exact absurd ((h y).2 (by simp)) (by simp)
  | cons x s ih =>
    cases b with
    | nil => exact absurd ((h x).1 (by simp)) (by simp)
    | cons y t =>
      obtain ⟨a1, a2⟩ := List.pairwise_cons.1 ha
      obtain ⟨b1, b2⟩ := List.pairwise_cons.1 hb
      have exy : x = y := by
        rcases List.mem_cons.1 ((h x).1 (by simp)) with e | hx
        · exact e
        · rcases List.mem_cons.1 ((h y).2 (by simp)) with e | hy
          · exact e.symm
          · have := bl_asymm (a1 y hy)
            rw [b1 x hx] at this; cases this
      subst exy
      rw [ih a2 b2 fun z => ⟨fun hz => ?_, fun hz => ?_⟩]
      · rcases List.mem_cons.1 ((h z).1 (List.mem_cons_of_mem _ hz)) with e | h'
        · exact absurd e.symm (fun e => bl_ne (a1 z hz) (by rw [e]))
        · exact h'
      · rcases List.mem_cons.1 ((h z).2 (List.mem_cons_of_mem _ hz)) with e | h'
        · exact absurd e.symm (fun e => bl_ne (b1 z hz) (by rw [e]))
        · exact h'

theorem dfP_all {a b : List Fl} {n : Nat} (ha : Ris a) {c : Ch} : c ∈ dfP a b n ↔ ∃ q, dfc (look a q) (look b q) q n = some c := by
  unfold dfP
  rw [List.mem_filterMap]
  constructor
  · rintro ⟨f, _, h⟩; exact ⟨f.1, h⟩
  · rintro ⟨q, h⟩
    rcases (all_ris ha b).one q with e | ⟨f, e, hq⟩
    · obtain ⟨h1, h2⟩ := (all_mem ha b q).1 e
      rw [look_none.2 h1, look_none.2 h2] at h; cases h
    · refine ⟨f, (mem_eqs.1 (show f ∈ eqs (allM a b) q by rw [e]; simp)).1, ?_⟩
      rw [hq]; exact h

/-- The program's way and the document's come to the same. -/
theorem dfG_dfP {a b : List Fl} {n : Nat} (ha : (tf a).2 = 0) (hb : (tf b).2 = 0) (hn : n ≤ 1000) : dfG n (a.length + b.length) a b = dfP a b n := by
  obtain ⟨_, a2, a3⟩ := tf_zero ha
  obtain ⟨_, b2, b3⟩ := tf_zero hb
  refine memC_ext (dfG_ris a2 b2) (dfP_ris ha hb hn) fun c => ?_
  rw [dfG_mem hn (Nat.le_refl _) a2 b2 (fun x hx => (fOne_zero (a3 x hx)).2) (fun x hx => (fOne_zero (b3 x hx)).2), dfP_all a2]

/-- A script that only puts, or only takes, is one piece. -/
theorem near_all {ms : List (Int × ByteArray)} {n k : Nat} (hk : k < ms.length) (h : ∀ m ∈ ms, m.1 ≠ 32) : near ms n k = true :=
  (near_iff ms n k).2 ⟨hk, k, hk, by
    have e2 : ms.getD k (0, ByteArray.empty) = ms[k] := by simp [hk]
    rw [e2]; exact h _ (List.getElem_mem _), by omega, by omega⟩

theorem cut_all (ls : List ByteArray) {sg : Int} (hs : sg ≠ 32) (n : Nat) : cut (ls.map fun s => (sg, s)) n = whl ls sg := by
  unfold whl
  by_cases e : ls = []
  · subst e; rw [if_pos rfl]
    exact cut_none (by rfl) n
  · rw [if_neg e]
    have hl : 0 < (ls.map fun s => (sg, s)).length := by rw [List.length_map]; exact List.length_pos_iff.2 e
    have h : ∀ m ∈ ls.map (fun s => (sg, s)), m.1 ≠ 32 := fun m hm => by
      obtain ⟨s, _, rfl⟩ := List.mem_map.1 hm
      exact hs
    obtain ⟨_, r2⟩ := run_ends (ms := ls.map fun s => (sg, s)) (n := n) (a := 0) (b := (ls.map fun s => (sg, s)).length) rfl hl (fun j _ hj => near_all hj h) (near_end _ n)
    unfold cut
    rw [r2]
    show [] ++ [pc _ 0 _] = _
    rw [List.nil_append]
    unfold pc
    simp [ob, Dist.nb]
    exact List.take_of_length_le (by simp)

theorem cut_make (ls : List ByteArray) (n : Nat) : cut (scr [] ls) n = whl ls 43 := by rw [scr_nil]; exact cut_all ls (by decide) n
theorem cut_wipe (ls : List ByteArray) (n : Nat) : cut (scr ls []) n = whl ls 45 := by rw [scr_nil']; exact cut_all ls (by decide) n

end Go.Proofs.YtnkdmgekpajfhadGreatDoor
