/-
  The faults of a file and of a tree, as functions of lists; what Get, Put and Drop give.
-/
import Derived.Test.YtfmhapajdnmhoafDoorXj
import Derived.Test.YtfmhapajdnmhoafDoorXl
namespace Go.Proofs.YtfmhapajdnmhoafDoor
open Go.RowKit

/-- The fault of a file by itself. -/
def fOne (x : Fl) : Int := if pf x.1.data.toList ≠ 0 then pf x.1.data.toList else lsf (bts x.2)
/-- The fault of a file where it stands. -/
def fAt (l : List Fl) (j : Nat) : Int := if fOne (l.getD j fz) ≠ 0 then fOne (l.getD j fz) else if 0 < j ∧ bl (l.getD (j - 1) fz).1 (l.getD j fz).1 = false then 2 else 0
/-- The first fault: where, and which. -/
def tfr (l : List Fl) : Nat → Nat → Nat × Int
  | 0, _ => (0, 0)
  | f + 1, k => if fAt l k = 0 then tfr l f (k + 1) else (k, fAt l k)
def tf (l : List Fl) : Nat × Int := if 8 < l.length then (0, 3) else tfr l l.length 0

theorem tfr_skip (l : List Fl) (m k : Nat) (h : ∀ j, j < k → fAt l j = 0) (hk : k ≤ m) : tfr l m 0 = tfr l (m - k) k := by
  induction k with
  | zero => rfl
  | succ k ih =>
    rw [ih (fun j hj => h j (by omega)) (by omega), show m - k = (m - (k + 1)) + 1 by omega, tfr, if_pos (h k (by omega))]

theorem tf_big {l : List Fl} (h : 8 < l.length) : tf l = (0, 3) := by unfold tf; rw [if_pos h]

theorem tf_at {l : List Fl} (hl : l.length ≤ 8) (k : Nat) (h : ∀ j, j < k → fAt l j = 0) (hk : k < l.length) (hb : fAt l k ≠ 0) : tf l = (k, fAt l k) := by
  unfold tf
  rw [if_neg (by omega), tfr_skip l l.length k h (by omega), show l.length - k = (l.length - (k + 1)) + 1 by omega, tfr, if_neg hb]

theorem tf_ok {l : List Fl} (hl : l.length ≤ 8) (h : ∀ j, j < l.length → fAt l j = 0) : tf l = (0, 0) := by
  unfold tf
  rw [if_neg (by omega), tfr_skip l l.length l.length h (Nat.le_refl _), Nat.sub_self, tfr]

theorem tf_none {l : List Fl} (h : (tf l).2 = 0) : l.length ≤ 8 ∧ ∀ j, j < l.length → fAt l j = 0 := by
  by_cases hl : 8 < l.length
  · rw [tf_big hl] at h; simp at h
  · refine ⟨by omega, ?_⟩
    intro j
    induction j using Nat.strongRecOn with
    | _ j ih =>
      intro hj
      by_cases e : fAt l j = 0
      · exact e
      · rw [tf_at (by omega) j (fun i hi => ih i hi (by omega)) hj e] at h
        exact absurd h e

theorem fAt_zero {l : List Fl} {j : Nat} (h : fAt l j = 0) : fOne (l.getD j fz) = 0 ∧ (0 < j → bl (l.getD (j - 1) fz).1 (l.getD j fz).1 = true) := by
  unfold fAt at h
  by_cases e : fOne (l.getD j fz) = 0
  · rw [if_neg (fun h => h e)] at h
    refine ⟨e, fun hj => ?_⟩
    cases e2 : bl (l.getD (j - 1) fz).1 (l.getD j fz).1 with
    | true => rfl
    | false => rw [if_pos ⟨hj, e2⟩] at h; omega
  · rw [if_pos e] at h; exact absurd h e

theorem fAt_one {l : List Fl} {j : Nat} (h : fOne (l.getD j fz) ≠ 0) : fAt l j = fOne (l.getD j fz) := by unfold fAt; rw [if_pos h]
theorem fAt_falls {l : List Fl} {j : Nat} (h : fOne (l.getD j fz) = 0) (hj : 0 < j) (hb : bl (l.getD (j - 1) fz).1 (l.getD j fz).1 = false) : fAt l j = 2 := by unfold fAt; rw [if_neg (fun x => x h), if_pos ⟨hj, hb⟩]
theorem fAt_ok {l : List Fl} {j : Nat} (h : fOne (l.getD j fz) = 0) (hb : 0 < j → bl (l.getD (j - 1) fz).1 (l.getD j fz).1 = true) : fAt l j = 0 := by
  unfold fAt
  rw [if_neg (fun x => x h), if_neg]
  rintro ⟨h1, h2⟩
  rw [hb h1] at h2; cases h2

theorem mem_getDf {l : List Fl} {k : Nat} (hk : k < l.length) : l.getD k fz ∈ l := by
  have e : l.getD k fz = l[k] := by simp [hk]
  rw [e]; exact List.getElem_mem _

/-- A tree: few files that rise, none with a fault. -/
theorem tf_zero {l : List Fl} (h : (tf l).2 = 0) : l.length ≤ 8 ∧ Ris l ∧ ∀ x ∈ l, fOne x = 0 := by
  obtain ⟨h1, h2⟩ := tf_none h
  refine ⟨h1, ris_of fun i hi => ?_, fun x hx => ?_⟩
  · have := (fAt_zero (h2 (i + 1) hi)).2 (by omega)
    simpa using this
  · obtain ⟨j, hj, rfl⟩ := List.getElem_of_mem hx
    have := (fAt_zero (h2 j hj)).1
    have e : l.getD j fz = l[j] := by simp [hj]
    rw [e] at this; exact this

theorem tf_of {l : List Fl} (h1 : l.length ≤ 8) (h2 : Ris l) (h3 : ∀ x ∈ l, fOne x = 0) : tf l = (0, 0) := by
  refine tf_ok h1 fun j hj => fAt_ok (h3 _ (mem_getDf hj)) fun hp => ?_
  have := h2.next (i := j - 1) (by omega)
  rw [Nat.sub_add_cancel hp] at this
  exact this

theorem fOne_path {x : Fl} (h : pf x.1.data.toList ≠ 0) : fOne x = pf x.1.data.toList := by unfold fOne; rw [if_pos h]
theorem fOne_lines {x : Fl} (h : pf x.1.data.toList = 0) : fOne x = lsf (bts x.2) := by unfold fOne; rw [if_neg (fun e => e h)]

theorem fOne_zero {x : Fl} (h : fOne x = 0) : pf x.1.data.toList = 0 ∧ lsf (bts x.2) = 0 := by
  by_cases e : pf x.1.data.toList = 0
  · rw [fOne_lines e] at h; exact ⟨e, h⟩
  · rw [fOne_path e] at h; exact absurd h e

theorem pf_zero {p : List UInt8} (h : pf p = 0) : p.length ≤ 20 := by
  unfold pf at h
  split at h
  · omega
  · omega

theorem fOne_small {x : Fl} (h : fOne x = 0) : x.1.size ≤ 20 ∧ x.2.length ≤ 60 ∧ ∀ s ∈ x.2, s.size ≤ 80 := by
  obtain ⟨h1, h2⟩ := fOne_zero h
  obtain ⟨h3, h4⟩ := lsf_zero h2
  rw [bts_length] at h3
  refine ⟨by rw [Lib.size_eq]; exact pf_zero h1, h3, fun s hs => ?_⟩
  have := (lf_zero (h4 s.data.toList (List.mem_map.2 ⟨s, hs, rfl⟩))).2
  rw [Lib.size_eq]; exact this

/-- What Get and Drop say; what Put says. -/
def gf (l : List Fl) (p : ByteArray) : Int := if (tf l).2 ≠ 0 then (tf l).2 else if pf p.data.toList ≠ 0 then pf p.data.toList else if eqs l p = [] then 4 else 0
def uf (l : List Fl) (f : Fl) : Int := if (tf l).2 ≠ 0 then (tf l).2 else if fOne f ≠ 0 then fOne f else if eqs l f.1 = [] ∧ 8 ≤ l.length then 3 else 0
/-- What they give. -/
def gl (l : List Fl) (p : ByteArray) : List ByteArray := if gf l p = 0 then (l.getD (pl l p) fz).2 else []
def dl (l : List Fl) (p : ByteArray) : List Fl := if gf l p = 0 then dropM l p else []
def ul (l : List Fl) (f : Fl) : List Fl := if uf l f = 0 then putM l f else []

theorem gf_zero {l : List Fl} {p : ByteArray} (h : gf l p = 0) : (tf l).2 = 0 ∧ pf p.data.toList = 0 ∧ eqs l p ≠ [] := by
  unfold gf at h
  by_cases h1 : (tf l).2 = 0
  · rw [if_neg (fun e => e h1)] at h
    by_cases h2 : pf p.data.toList = 0
    · rw [if_neg (fun e => e h2)] at h
      by_cases h3 : eqs l p = []
      · rw [if_pos h3] at h; omega
      · exact ⟨h1, h2, h3⟩
    · rw [if_pos h2] at h; exact absurd h h2
  · rw [if_pos h1] at h; exact absurd h h1
theorem gf_of {l : List Fl} {p : ByteArray} (h1 : (tf l).2 = 0) (h2 : pf p.data.toList = 0) (h3 : eqs l p ≠ []) : gf l p = 0 := by
  unfold gf; rw [if_neg (fun e => e h1), if_neg (fun e => e h2), if_neg h3]
theorem gf_tree {l : List Fl} {p : ByteArray} (h1 : (tf l).2 ≠ 0) : gf l p = (tf l).2 := by unfold gf; rw [if_pos h1]
theorem gf_path {l : List Fl} {p : ByteArray} (h1 : (tf l).2 = 0) (h2 : pf p.data.toList ≠ 0) : gf l p = pf p.data.toList := by
  unfold gf; rw [if_neg (fun e => e h1), if_pos h2]
theorem gf_none {l : List Fl} {p : ByteArray} (h1 : (tf l).2 = 0) (h2 : pf p.data.toList = 0) (h3 : eqs l p = []) : gf l p = 4 := by
  unfold gf; rw [if_neg (fun e => e h1), if_neg (fun e => e h2), if_pos h3]

theorem uf_zero {l : List Fl} {f : Fl} (h : uf l f = 0) : (tf l).2 = 0 ∧ fOne f = 0 ∧ ¬ (eqs l f.1 = [] ∧ 8 ≤ l.length) := by
  unfold uf at h
  by_cases h1 : (tf l).2 = 0
  · rw [if_neg (fun e => e h1)] at h
    by_cases h2 : fOne f = 0
    · rw [if_neg (fun e => e h2)] at h
      by_cases h3 : eqs l f.1 = [] ∧ 8 ≤ l.length
      · rw [if_pos h3] at h; omega
      · exact ⟨h1, h2, h3⟩
    · rw [if_pos h2] at h; exact absurd h h2
  · rw [if_pos h1] at h; exact absurd h h1
theorem uf_tree {l : List Fl} {f : Fl} (h1 : (tf l).2 ≠ 0) : uf l f = (tf l).2 := by unfold uf; rw [if_pos h1]
theorem uf_file {l : List Fl} {f : Fl} (h1 : (tf l).2 = 0) (h2 : fOne f ≠ 0) : uf l f = fOne f := by
  unfold uf; rw [if_neg (fun e => e h1), if_pos h2]
theorem uf_full {l : List Fl} {f : Fl} (h1 : (tf l).2 = 0) (h2 : fOne f = 0) (h3 : eqs l f.1 = [] ∧ 8 ≤ l.length) : uf l f = 3 := by
  unfold uf; rw [if_neg (fun e => e h1), if_neg (fun e => e h2), if_pos h3]
theorem uf_of {l : List Fl} {f : Fl} (h1 : (tf l).2 = 0) (h2 : fOne f = 0) (h3 : ¬ (eqs l f.1 = [] ∧ 8 ≤ l.length)) : uf l f = 0 := by
  unfold uf; rw [if_neg (fun e => e h1), if_neg (fun e => e h2), if_neg h3]

theorem gl_of {l : List Fl} {p : ByteArray} (h : gf l p = 0) : gl l p = (l.getD (pl l p) fz).2 := by unfold gl; rw [if_pos h]
theorem gl_not {l : List Fl} {p : ByteArray} (h : gf l p ≠ 0) : gl l p = [] := by unfold gl; rw [if_neg h]
theorem dl_of {l : List Fl} {p : ByteArray} (h : gf l p = 0) : dl l p = dropM l p := by unfold dl; rw [if_pos h]
theorem dl_not {l : List Fl} {p : ByteArray} (h : gf l p ≠ 0) : dl l p = [] := by unfold dl; rw [if_neg h]
theorem ul_of {l : List Fl} {f : Fl} (h : uf l f = 0) : ul l f = putM l f := by unfold ul; rw [if_pos h]
theorem ul_not {l : List Fl} {f : Fl} (h : uf l f ≠ 0) : ul l f = [] := by unfold ul; rw [if_neg h]

/-- What is put is a tree; what is dropped leaves one. -/
theorem tf_put {l : List Fl} {f : Fl} (h : uf l f = 0) : tf (putM l f) = (0, 0) := by
  obtain ⟨h1, h2, h3⟩ := uf_zero h
  obtain ⟨t1, t2, t3⟩ := tf_zero h1
  refine tf_of ?_ (t2.put f) fun x hx => ?_
  · obtain ⟨a, b⟩ := t2.put_length f
    by_cases e : eqs l f.1 = []
    · have : ¬ 8 ≤ l.length := fun h => h3 ⟨e, h⟩
      rw [b e]; omega
    · rw [a e]; exact t1
  · rcases mem_putM hx with rfl | hx
    · exact h2
    · exact t3 x hx
theorem tf_drop {l : List Fl} {p : ByteArray} (h : (tf l).2 = 0) : tf (dropM l p) = (0, 0) := by
  obtain ⟨t1, t2, t3⟩ := tf_zero h
  exact tf_of (Nat.le_trans (t2.drop_length p) t1) (t2.dropd p) fun x hx => t3 x (mem_dropM hx)

theorem gl_small {l : List Fl} {p : ByteArray} : (gl l p).length ≤ 60 ∧ ∀ s ∈ gl l p, s.size ≤ 80 := by
  by_cases h : gf l p = 0
  · rw [gl_of h]
    obtain ⟨h1, h2, h3⟩ := gf_zero h
    obtain ⟨_, t2, t3⟩ := tf_zero h1
    exact (fOne_small (t3 _ (mem_getDf (t2.drop_more h3).2.1))).2
  · rw [gl_not h]; exact ⟨Nat.zero_le _, fun s hs => by cases hs⟩
theorem dl_small {l : List Fl} {p : ByteArray} : (dl l p).length ≤ 8 ∧ ∀ x ∈ dl l p, fOne x = 0 := by
  by_cases h : gf l p = 0
  · rw [dl_of h]
    obtain ⟨t1, _, t3⟩ := tf_zero (l := dropM l p) (by rw [tf_drop (gf_zero h).1])
    exact ⟨t1, t3⟩
  · rw [dl_not h]; exact ⟨Nat.zero_le _, fun s hs => by cases hs⟩
theorem ul_small {l : List Fl} {f : Fl} : (ul l f).length ≤ 8 ∧ ∀ x ∈ ul l f, fOne x = 0 := by
  by_cases h : uf l f = 0
  · rw [ul_of h]
    obtain ⟨t1, _, t3⟩ := tf_zero (l := putM l f) (by rw [tf_put h])
    exact ⟨t1, t3⟩
  · rw [ul_not h]; exact ⟨Nat.zero_le _, fun s hs => by cases hs⟩

/-- What is put is there, and all else as it was; dropped it is not there. -/
theorem gl_put {l : List Fl} {f : Fl} (h : uf l f = 0) : gf (putM l f) f.1 = 0 ∧ gl (putM l f) f.1 = f.2 := by
  have ht := tf_put h
  obtain ⟨h1, h2, h3⟩ := uf_zero h
  obtain ⟨t1, t2, t3⟩ := tf_zero h1
  obtain ⟨_, e2, _⟩ := lo_put l f
  have hg : gf (putM l f) f.1 = 0 := gf_of (by rw [ht]) (fOne_zero h2).1 (by rw [e2]; simp)
  refine ⟨hg, ?_⟩
  have := ((t2.put f).drop_more (p := f.1) (by rw [e2]; simp)).2.2.2
  rw [e2] at this
  rw [gl_of hg, ← (List.cons.inj this).1]
theorem gl_other {l : List Fl} {f : Fl} {p : ByteArray} (h : uf l f = 0) (hne : p ≠ f.1) : gf (putM l f) p = gf l p ∧ gl (putM l f) p = gl l p := by
  have ht := tf_put h
  obtain ⟨h1, h2, h3⟩ := uf_zero h
  obtain ⟨t1, t2, t3⟩ := tf_zero h1
  have he := eqs_put (l := l) (f := f) hne t2
  have hg : gf (putM l f) p = gf l p := by unfold gf; rw [ht, h1, he]
  refine ⟨hg, ?_⟩
  by_cases e : gf l p = 0
  · rw [gl_of e, gl_of (hg.trans e)]
    obtain ⟨_, _, g3⟩ := gf_zero e
    have a := (t2.drop_more g3).2.2.2
    have b := ((t2.put f).drop_more (p := p) (by rw [he]; exact g3)).2.2.2
    rw [he, a] at b
    rw [(List.cons.inj b).1]
  · rw [gl_not e, gl_not (by rw [hg]; exact e)]
theorem gf_dropped {l : List Fl} {p : ByteArray} (h1 : (tf l).2 = 0) (h2 : pf p.data.toList = 0) : gf (dropM l p) p = 4 :=
  gf_none (by rw [tf_drop h1]) h2 (eqs_dropM l p)

end Go.Proofs.YtfmhapajdnmhoafDoor
