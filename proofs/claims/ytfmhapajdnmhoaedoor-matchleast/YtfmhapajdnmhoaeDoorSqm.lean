/-
  Plain mathematics: the fault of a square of costs.
-/
import Derived.Test.YtfmhapajdnmhoaeDoorMdp

namespace Go.Proofs.YtfmhapajdnmhoaeDoor.Dist

/-- The fault of a row's costs; of a row; of rows; of a square. -/
def rng : List Int → Int
  | [] => 0
  | c :: r => if c < 0 ∨ 100000 < c then 1 else rng r
def rwf (n : Nat) (row : List Int) : Int := if row.length ≠ n then 2 else rng row
def rws (n : Nat) : List (List Int) → Int
  | [] => 0
  | r :: t => if rwf n r ≠ 0 then rwf n r else rws n t
def sqf (cs : List (List Int)) : Int := if 8 < cs.length then 3 else rws cs.length cs

theorem rng_all : ∀ {l : List Int}, (∀ j, j < l.length → ¬(l.getD j 0 < 0 ∨ 100000 < l.getD j 0)) → rng l = 0
  | [], _ => rfl
  | c :: r, h => by
    rw [rng, if_neg (by simpa using h 0 (by simp))]
    exact rng_all fun j hj => by simpa using h (j + 1) (by simpa using hj)
theorem rng_at : ∀ {l : List Int} {j : Nat}, j < l.length → (l.getD j 0 < 0 ∨ 100000 < l.getD j 0) → rng l = 1
  | [], _, h, _ => absurd h (by simp)
  | c :: r, 0, _, h => by rw [rng, if_pos (by simpa using h)]
  | c :: r, j + 1, hj, h => by
    rw [rng]
    split
    · rfl
    · exact rng_at (l := r) (j := j) (by simpa using hj) (by simpa using h)
theorem rng_or (l : List Int) : rng l = 0 ∨ rng l = 1 := by
  induction l with
  | nil => exact .inl rfl
  | cons c r ih =>
    rw [rng]
    split
    · exact .inr rfl
    · exact ih
theorem rng_zero : ∀ {l : List Int}, rng l = 0 → ∀ c ∈ l, 0 ≤ c ∧ c ≤ 100000
  | [], _, c, h => by cases h
  | x :: r, h0, c, h => by
    rw [rng] at h0
    split at h0
    · cases h0
    · rcases List.mem_cons.1 h with rfl | h
      · omega
      · exact rng_zero h0 c h
theorem rws_all {n : Nat} : ∀ {l : List (List Int)}, (∀ j, j < l.length → rwf n (l.getD j []) = 0) → rws n l = 0
  | [], _ => rfl
  | r :: t, h => by
    have h0 : rwf n r = 0 := by simpa using h 0 (by simp)
    rw [rws, if_neg (by simp [h0])]
    exact rws_all fun j hj => by simpa using h (j + 1) (by simpa using hj)
theorem rws_at {n : Nat} : ∀ {l : List (List Int)} {k : Nat}, k < l.length → (∀ j, j < k → rwf n (l.getD j []) = 0) → rwf n (l.getD k []) ≠ 0 → rws n l = rwf n (l.getD k [])
  | [], _, h, _, _ => absurd h (by simp)
  | r :: t, 0, _, _, h => by
    have h : rwf n r ≠ 0 := by simpa using h
    rw [rws, if_pos h]; rfl
  | r :: t, k + 1, hk, h, hb => by
    have h0 : rwf n r = 0 := by simpa using h 0 (by simp)
    rw [rws, if_neg (by simp [h0])]
    have := rws_at (l := t) (k := k) (by simpa using hk) (fun j hj => by simpa using h (j + 1) (by omega)) (by simpa using hb)
    simpa using this
theorem rws_zero {n : Nat} : ∀ {l : List (List Int)}, rws n l = 0 → ∀ r ∈ l, rwf n r = 0
  | [], _, r, h => by cases h
  | x :: t, h0, r, h => by
    rw [rws] at h0
    split at h0
    · rename_i hne; exact absurd h0 hne
    · rename_i hz
      rcases List.mem_cons.1 h with rfl | h
      · exact Decidable.not_not.1 hz
      · exact rws_zero h0 r h
theorem rwf_len {n : Nat} {r : List Int} (h : rwf n r = 0) : r.length = n ∧ rng r = 0 := by
  unfold rwf at h
  split at h
  · cases h
  · rename_i hl; exact ⟨Decidable.not_not.1 hl, h⟩

/-- A square of costs. -/
theorem sqf_zero {cs : List (List Int)} (h : sqf cs = 0) : cs.length ≤ 8 ∧ ∀ r ∈ cs, r.length = cs.length ∧ ∀ c ∈ r, 0 ≤ c ∧ c ≤ 100000 := by
  unfold sqf at h
  split at h
  · cases h
  · refine ⟨by omega, fun r hr => ?_⟩
    obtain ⟨h1, h2⟩ := rwf_len (rws_zero h r hr)
    exact ⟨h1, rng_zero h2⟩
theorem sqf_len {cs : List (List Int)} (h : sqf cs = 0) {i : Nat} (hi : i < cs.length) : (cs.getD i []).length = cs.length := by
  have := (sqf_zero h).2 cs[i] (List.getElem_mem hi)
  simpa [hi] using this.1
theorem sqf_cost {cs : List (List Int)} (h : sqf cs = 0) (i k : Nat) : 0 ≤ cAtM cs i k ∧ cAtM cs i k ≤ 100000 := by
  unfold cAtM
  by_cases hi : i < cs.length
  · have h2 := ((sqf_zero h).2 cs[i] (List.getElem_mem hi)).2
    have e : cs.getD i [] = cs[i] := by simp [hi]
    rw [e]
    by_cases hk : k < cs[i].length
    · have := h2 (cs[i])[k] (List.getElem_mem hk)
      simpa [hk] using this
    · simp [hk]
  · simp [hi]
theorem sqf_nonneg {cs : List (List Int)} (h : sqf cs = 0) (i k : Nat) : 0 ≤ cAtM cs i k := (sqf_cost h i k).1

theorem cst_le {c : List (List Int)} (h : ∀ i k, cAtM c i k ≤ 100000) : ∀ (m : List Nat) (r : Nat), cst c r m ≤ 100000 * m.length
  | [], _ => by rw [cst]; simp
  | k :: m, r => by
    have := cst_le h m (r + 1)
    have := h r k
    rw [cst, List.length_cons]; omega
theorem bsS_le {c : List (List Int)} (h0 : sqf c = 0) (n s : Nat) (hn : n ≤ 8) : (bsS c n s).1 ≤ 800000 := by
  obtain ⟨h1, h2⟩ := bsS_best (sqf_nonneg h0) n s
  have := cst_le (fun i k => (sqf_cost h0 i k).2) (bsS c n s).2 (n - szS n s)
  have h3 := h1.1.1
  have := szS_le n s
  rw [h2]; omega

end Go.Proofs.YtfmhapajdnmhoaeDoor.Dist
