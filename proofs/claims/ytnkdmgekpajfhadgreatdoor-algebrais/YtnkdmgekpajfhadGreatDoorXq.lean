/-
  Plain mathematics: a patch in pieces, one behind the other. Plain mathematics: the pieces of a patch, counted and told. Pieces in memory: a row of patches of one change each; a change that a call has made stands.
-/
import Derived.Test.YtnkdmgekpajfhadGreatDoorXd
import Derived.Test.YtnkdmgekpajfhadGreatDoorXp

namespace Go.Proofs.YtnkdmgekpajfhadGreatDoor.Dist

/-- A hunk by itself: its Old is its New. -/
def hk1 (h : Hk) : Hk := (h.2.1, h.2.1, h.2.2)
/-- The pieces of a change, of a patch. -/
def pcC (c : Ch) : List Ch := if c.2.2 = [] then [c] else c.2.2.map fun h => (c.1, c.2.1, [hk1 h])
def spA (p : List Ch) : List Ch := p.flatMap pcC
/-- The first fault of pieces. -/
def spF : List Ch → Int
  | [] => 0
  | d :: r => if (kf [d]).2 ≠ 0 then (kf [d]).2 else spF r
/-- Pieces one behind the other. -/
def rnP : List Fl → List Ch → List Fl × Int
  | x, [] => (x, 0)
  | x, d :: r => if (apF x [d]).2.2 ≠ 0 then ([], (apF x [d]).2.2) else rnP (apF x [d]).1 r

theorem spF_zero {l : List Ch} (h : spF l = 0) : ∀ d ∈ l, (kf [d]).2 = 0 := by
  induction l with
  | nil => intro d hd; cases hd
  | cons x r ih =>
    rw [spF] at h
    by_cases e : (kf [x]).2 = 0
    · rw [if_neg (fun k => k e)] at h
      intro d hd
      rcases List.mem_cons.1 hd with rfl | hd
      · exact e
      · exact ih h d hd
    · rw [if_pos e] at h; exact absurd h e

/-- A piece is the whole: of a change that is no Edit, of one without hunks. -/
theorem pcC_self {c : Ch} (h : cOne c = 0) (h1 : c.1 ≠ 1 ∨ c.2.2 = []) : pcC c = [c] := by
  obtain ⟨_, _, h4, h5⟩ := cOne_zero h
  unfold pcC
  by_cases e : c.2.2 = []
  · rw [if_pos e]
  · rw [if_neg e]
    rcases h1 with h1 | h1
    · obtain ⟨wh, q, hs⟩ := c
      unfold shp at h5
      simp only at h1 e h4 h5 ⊢
      rw [if_neg h1] at h5
      cases hs with
      | nil => exact absurd rfl e
      | cons a r =>
        simp only [Bool.and_eq_true, decide_eq_true_eq] at h5
        obtain ⟨⟨rfl, h0⟩, _⟩ := h5
        obtain ⟨h6, _⟩ := hf_first h4
        obtain ⟨o, n, ms⟩ := a
        simp only at h6 h0
        subst h6
        rfl
    · exact absurd h1 e

end Go.Proofs.YtnkdmgekpajfhadGreatDoor.Dist

namespace Go.Proofs.YtnkdmgekpajfhadGreatDoor.Dist

/-- Patches of one change each; the fault of the pieces; what is answered. -/
def ones (l : List Ch) : List (List Ch) := l.map fun c => [c]
def spE (p : List Ch) : Int := if (kf p).2 ≠ 0 then (kf p).2 else spF (spA p)
def spO (p : List Ch) : List (List Ch) := if spE p = 0 then ones (spA p) else []
def pc1 (c : Ch) (h : Hk) : Ch := (c.1, c.2.1, [hk1 h])

theorem spE_bad {p : List Ch} (h : (kf p).2 ≠ 0) : spE p = (kf p).2 := by unfold spE; rw [if_pos h]
theorem spE_ok {p : List Ch} (h : (kf p).2 = 0) : spE p = spF (spA p) := by unfold spE; rw [if_neg (fun e => e h)]
theorem spO_bad {p : List Ch} (h : spE p ≠ 0) : spO p = [] := by unfold spO; rw [if_neg h]
theorem spO_ok {p : List Ch} (h : spE p = 0) : spO p = ones (spA p) := by unfold spO; rw [if_pos h]

theorem spF_app {a : List Ch} (h : spF a = 0) (r : List Ch) : spF (a ++ r) = spF r := by
  induction a with
  | nil => rfl
  | cons x t ih =>
    rw [spF] at h
    by_cases e : (kf [x]).2 = 0
    · rw [if_neg (fun k => k e)] at h
      rw [List.cons_append, spF, if_neg (fun k => k e), ih h]
    · rw [if_pos e] at h; exact absurd h e

theorem spF_cons {x : Ch} (h : (kf [x]).2 ≠ 0) (r : List Ch) : spF (x :: r) = (kf [x]).2 := by rw [spF, if_pos h]
theorem spF_snoc {a : List Ch} (h : spF a = 0) {x : Ch} (hx : (kf [x]).2 = 0) : spF (a ++ [x]) = 0 := by
  rw [spF_app h, spF, if_neg (fun k => k hx), spF]

theorem pcC_hunks {c : Ch} (h : c.2.2 ≠ []) : pcC c = c.2.2.map (pc1 c) := by unfold pcC; rw [if_neg h]; rfl
theorem pcC_none {c : Ch} (h : c.2.2 = []) : pcC c = [c] := by unfold pcC; rw [if_pos h]

theorem spA_split {l : List Ch} {k : Nat} (hk : k < l.length) : spA l = spA (l.take k) ++ (pcC (l.getD k cz) ++ spA (l.drop (k + 1))) := by
  have e : l.drop k = l.getD k cz :: l.drop (k + 1) := by rw [List.drop_eq_getElem_cons hk]; simp [hk]
  conv => lhs; rw [← List.take_append_drop k l, e]
  unfold spA
  rw [List.flatMap_append, List.flatMap_cons]

theorem spA_next {l : List Ch} {k : Nat} (hk : k < l.length) : spA (l.take (k + 1)) = spA (l.take k) ++ pcC (l.getD k cz) := by
  have e : l.take (k + 1) = l.take k ++ [l.getD k cz] := by rw [List.take_succ_eq_append_getElem hk]; simp [hk]
  rw [e]
  unfold spA
  rw [List.flatMap_append]
  simp

theorem kf_single {c : Ch} (h : cOne c = 0) : kf [c] = (0, 0) :=
  kf_of (by simp) (List.pairwise_singleton _ _) (fun d hd => by rw [List.mem_singleton] at hd; rw [hd]; exact h)

theorem hks_at {l : List Hk} {j : Nat} (hj : j < l.length) : l = l.take j ++ l.getD j (0, 0, []) :: l.drop (j + 1) := by
  have e : l.getD j (0, 0, []) = l[j] := by simp [hj]
  rw [e, ← List.drop_eq_getElem_cons hj, List.take_append_drop]

/-- A piece that is wrong is told. -/
theorem spE_at {l : List Ch} {k j : Nat} (h0 : (kf l).2 = 0) (hk : k < l.length) (hj : j < (l.getD k cz).2.2.length) (h : spF (spA (l.take k) ++ ((l.getD k cz).2.2.take j).map (pc1 (l.getD k cz))) = 0) (hb : (kf [pc1 (l.getD k cz) ((l.getD k cz).2.2.getD j (0, 0, []))]).2 ≠ 0) :
    spE l = (kf [pc1 (l.getD k cz) ((l.getD k cz).2.2.getD j (0, 0, []))]).2 := by
  have hne : (l.getD k cz).2.2 ≠ [] := fun e => by rw [e] at hj; simp at hj
  have e := hks_at hj
  rw [spE_ok h0, spA_split hk, pcC_hunks hne]
  conv => lhs; rw [e]
  rw [List.map_append, List.map_cons, List.append_assoc, ← List.append_assoc, spF_app h, List.cons_append, spF_cons hb]

theorem spA_len {l : List Ch} (h : ∀ c ∈ l, c.2.2.length ≤ 60) : (spA l).length ≤ 60 * l.length := by
  induction l with
  | nil => simp [spA]
  | cons c r ih =>
    have h1 := ih (fun d hd => h d (List.mem_cons_of_mem _ hd))
    have h2 := h c (by simp)
    have e : spA (c :: r) = pcC c ++ spA r := by unfold spA; rw [List.flatMap_cons]
    rw [e, List.length_append, List.length_cons]
    have : (pcC c).length ≤ 60 := by
      unfold pcC
      split
      · simp
      · rw [List.length_map]; exact h2
    omega

/-- The pieces are small. -/
theorem spO_small (p : List Ch) : (spO p).length ≤ 960 ∧ ∀ q ∈ spO p, q.length ≤ 16 ∧ ∀ c ∈ q, c.2.2.length ≤ 60 ∧ ∀ h ∈ c.2.2, h.2.2.length ≤ 120 := by
  by_cases h : spE p = 0
  · have h0 : (kf p).2 = 0 := by
      by_cases e : (kf p).2 = 0
      · exact e
      · rw [spE_bad e] at h; exact absurd h e
    rw [spE_ok h0] at h
    obtain ⟨k1, _, k3⟩ := kf_zero h0
    rw [spO_ok (by rw [spE_ok h0]; exact h)]
    refine ⟨?_, fun q hq => ?_⟩
    · unfold ones
      rw [List.length_map]
      have := spA_len (l := p) (fun c hc => (hf_zero (cOne_zero (k3 c hc)).2.2.1).1)
      omega
    · unfold ones at hq
      obtain ⟨c, hc, rfl⟩ := List.mem_map.1 hq
      have hk := spF_zero h c hc
      have h1 := (kf_zero hk).2.2 c (by simp)
      obtain ⟨_, _, h2, _⟩ := cOne_zero h1
      refine ⟨by simp, fun d hd => ?_⟩
      rw [List.mem_singleton] at hd
      subst hd
      exact ⟨(hf_zero h2).1, fun x hx => (sf_zero ((hf_good h2).2.2 x hx).1).1⟩
  · rw [spO_bad h]
    exact ⟨Nat.zero_le _, fun q hq => by cases hq⟩

end Go.Proofs.YtnkdmgekpajfhadGreatDoor.Dist

namespace Go.Proofs.YtnkdmgekpajfhadGreatDoor
open Go.RowKit Dist

theorem ones_snoc (l : List Ch) (c : Ch) : ones (l ++ [c]) = ones l ++ [[c]] := by unfold ones; rw [List.map_append]; rfl
theorem ones_len (l : List Ch) : (ones l).length = l.length := by unfold ones; rw [List.length_map]

theorem cell_one_new (w : World) (x : Value) (t : TypeId) : ∀ j u, [x][j]? = some u → (w.alloc (.cells #[x] t)).cell? ((⟨w.heap.size, 0, none⟩ : Addr).add j) = some u := by
  intro j u hj
  cases j with
  | zero =>
    simp at hj
    subst hj
    simp [Addr.add]
  | succ j => simp at hj

/-- A change that a call has made stands, whatever becomes of a row that lay there before. -/
theorem piece_stays {w1 W w2 : World} {R D : Nat} {r : Option Nat} {wh : Int} {p : ByteArray} {ah : Option Addr} {ch : Nat} {hs : List Hk} {t : TypeId} (hR : w1.heap.size = R) (hb : Below R w1 W) (hr : ∀ x, r = some x → R ≤ x ∧ x < D) (hD : W.heap[D]? = some (.cells #[.int .i64 wh, .string p, .slice ah hs.length ch] t (0, 0))) (hk : Hks w1 ah hs) (hc : hs.length ≤ ch) (hg : Gr W w2 r) : Chs w2 (some ⟨D, 0, none⟩) [(wh, p, hs)] := by
  subst hR
  exact chs_block (hg.block hD (fun e => by have := (hr D e).2; omega)) (hk.ag ((Ag.of_below hb).gr hb.size hg (fun x e => (hr x e).1))) hc

theorem piece_stays2 {w1 W w2 : World} {R D H : Nat} {r : Option Nat} {wh : Int} {p : ByteArray} {o n : Int} {am : Option Addr} {cm : Nat} {ms : List (Int × ByteArray)} {t t' : TypeId} (hR : w1.heap.size = R) (hb : Below R w1 W) (hr : ∀ x, r = some x → R ≤ x ∧ x < D ∧ x < H) (hD : W.heap[D]? = some (.cells #[.int .i64 wh, .string p, .slice (some ⟨H, 0, none⟩) 1 1] t (0, 0))) (hH : W.heap[H]? = some (.cells #[.int .i64 o, .int .i64 n, .slice am ms.length cm] t' (0, 0))) (hm : Mks w1 am ms) (hc : ms.length ≤ cm) (hg : Gr W w2 r) : Chs w2 (some ⟨D, 0, none⟩) [(wh, p, [(o, n, ms)])] := by
  subst hR
  refine chs_block (hg.block hD (fun e => by have := (hr D e).2.1; omega)) ?_ (by simp)
  exact hks_block (hg.block hH (fun e => by have := (hr H e).2.2; omega)) (hm.ag ((Ag.of_below hb).gr hb.size hg (fun x e => (hr x e).1))) hc

end Go.Proofs.YtnkdmgekpajfhadGreatDoor
