/-
  Plain mathematics for the law MatchLeast: what a choice costs, that none costs less; a row that costs more for all columns.
-/
import Derived.Test.YtfmhapajdnmhoaeDoorCos
import Derived.Test.YtfmhapajdnmhoaeDoorMpr

namespace Go.Proofs.YtfmhapajdnmhoaeDoor
open Go.RowKit Dist

theorem sumC_take {cs : List (List Int)} {m : List Int} : ∀ {k : Nat}, k ≤ m.length → sumC cs m k = cst cs 0 ((m.take k).map Int.toNat)
  | 0, _ => rfl
  | k + 1, h => by
    have hk : k < m.length := by omega
    rw [sumC, sumC_take (k := k) (by omega), List.take_succ_eq_append_getElem hk, List.map_append, cst_app, List.map_cons, List.map_nil, cst, cst, Nat.zero_add, List.length_map, List.length_take, Nat.min_eq_left (by omega)]
    have : m.getD k 0 = m[k] := by simp [hk]
    rw [this]; omega
theorem sumC_all (cs : List (List Int)) (m : List Int) : sumC cs m m.length = cst cs 0 (m.map Int.toNat) := by
  rw [sumC_take (Nat.le_refl _), List.take_length]

theorem nodup_toNat : ∀ {m : List Int}, (∀ x ∈ m, 0 ≤ x) → m.Nodup → (m.map Int.toNat).Nodup
  | [], _, _ => List.nodup_nil
  | a :: m, h, hn => by
    obtain ⟨h1, h2⟩ := List.nodup_cons.1 hn
    rw [List.map_cons, List.nodup_cons]
    refine ⟨fun hm => ?_, nodup_toNat (fun x hx => h x (by simp [hx])) h2⟩
    obtain ⟨b, hb, e⟩ := List.mem_map.1 hm
    have := h a (by simp)
    have := h b (by simp [hb])
    exact h1 (by rw [show a = b by omega]; exact hb)
theorem rep_getD (n k : Nat) : (List.replicate n false).getD k false = false := by
  by_cases h : k < n
  · simp [h]
  · simp [h]
theorem okC_chz {n : Nat} {m : List Int} (h : okC n m) : chz n n (List.replicate n false) (m.map Int.toNat) := by
  obtain ⟨h1, h2, h3⟩ := h
  refine ⟨by rw [List.length_map, h1], nodup_toNat (fun x hx => (h2 x hx).1) h3, fun k hk => ?_⟩
  obtain ⟨x, hx, rfl⟩ := List.mem_map.1 hk
  have := h2 x hx
  exact ⟨by omega, rep_getD n _⟩
theorem mcO_ok2 {cs : List (List Int)} (h0 : sqf cs = 0) : okC cs.length (mcO cs) := by
  obtain ⟨h1, h2, h3⟩ := (mcM_best h0).1
  rw [mcO_ok h0]
  refine ⟨by rw [List.length_map, h1], fun x hx => ?_, ?_⟩
  · obtain ⟨k, hk, rfl⟩ := List.mem_map.1 hx
    have := (h3 k hk).1
    exact ⟨Int.natCast_nonneg k, by show (k : Int) < _; omega⟩
  · unfold List.Nodup at h2 ⊢
    rw [List.pairwise_map]
    exact h2.imp fun h e => h (Int.ofNat_inj.1 e)
theorem mcO_nat {cs : List (List Int)} (h0 : sqf cs = 0) : (mcO cs).map Int.toNat = mcM cs := by
  rw [mcO_ok h0, List.map_map]
  exact (List.map_congr_left fun k _ => rfl).trans (List.map_id _)

/-- What the best choice costs. -/
def lcO (cs : List (List Int)) : Int := cst cs 0 (mcM cs)
theorem co_best {cs : List (List Int)} (h0 : sqf cs = 0) : coF cs (mcO cs) = 0 ∧ coO cs (mcO cs) = lcO cs := by
  have hok := mcO_ok2 h0
  have e : coF cs (mcO cs) = 0 := by unfold coF; rw [if_neg (by simp [h0]), if_pos (isC_all.2 hok)]
  refine ⟨e, ?_⟩
  unfold coO lcO
  rw [if_pos e, sumC_all, mcO_nat h0]
theorem co_least {cs : List (List Int)} (h0 : sqf cs = 0) {m : List Int} (h : coF cs m = 0) : lcO cs ≤ coO cs m := by
  have hok : okC cs.length m := by
    unfold coF at h
    rw [if_neg (by simp [h0])] at h
    split at h
    · rename_i h2; exact isC_all.1 h2
    · cases h
  unfold coO lcO
  rw [if_pos h, sumC_all]
  exact ((mcM_best h0).2 _ (okC_chz hok)).1
theorem lcO_bound {cs : List (List Int)} (h0 : sqf cs = 0) : 0 ≤ lcO cs ∧ lcO cs ≤ 800000 := by
  have h1 := cst_nonneg (sqf_nonneg h0) (mcM cs) 0
  have h2 := cst_le (fun i k => (sqf_cost h0 i k).2) (mcM cs) 0
  have := mcM_len h0
  have := (sqf_zero h0).1
  unfold lcO
  omega

/-- A row that costs more. -/
def dR (cs : List (List Int)) (row : Nat) (y : Int) (i : Nat) : List Int := (cs.getD i []).map fun c => if i = row then c + y else c
def dS (cs : List (List Int)) (row : Nat) (y : Int) (k : Nat) : List (List Int) := (List.range k).map (dR cs row y)
theorem dS_len (cs : List (List Int)) (row : Nat) (y : Int) (k : Nat) : (dS cs row y k).length = k := by simp [dS]
theorem dS_at {cs : List (List Int)} {row : Nat} {y : Int} {k i : Nat} (h : i < k) : (dS cs row y k).getD i [] = dR cs row y i := by simp [dS, h]
theorem dR_len (cs : List (List Int)) (row : Nat) (y : Int) (i : Nat) : (dR cs row y i).length = (cs.getD i []).length := by simp [dR]
theorem dR_at {cs : List (List Int)} {row : Nat} {y : Int} {i k : Nat} (h : k < (cs.getD i []).length) : (dR cs row y i).getD k 0 = if i = row then cAtM cs i k + y else cAtM cs i k := by
  unfold dR cAtM
  rw [List.getD_eq_getElem?_getD, List.getElem?_map, List.getElem?_eq_getElem h]
  simp only [Option.map_some, Option.getD_some]
  have e : (cs.getD i []).getD k 0 = (cs.getD i [])[k] := by rw [List.getD_eq_getElem?_getD, List.getElem?_eq_getElem h]; rfl
  rw [e]
theorem dS_cost {cs : List (List Int)} (h0 : sqf cs = 0) {row : Nat} {y : Int} {i k : Nat} (hi : i < cs.length) (hk : k < cs.length) : cAtM (dS cs row y cs.length) i k = cAtM cs i k + if i = row then y else 0 := by
  unfold cAtM
  rw [dS_at hi, dR_at (by rw [sqf_len h0 hi]; exact hk)]
  split
  · rfl
  · rw [Int.add_zero]; rfl

theorem cst_shift2 {c d : List (List Int)} {row n : Nat} {y : Int} (h : ∀ r k, r < n → k < n → cAtM d r k = cAtM c r k + if r = row then y else 0) : ∀ (m : List Nat) (r : Nat), r + m.length ≤ n → (∀ k ∈ m, k < n) → cst d r m = cst c r m + if r ≤ row ∧ row < r + m.length then y else 0
  | [], r, _, _ => by rw [cst, cst, if_neg (by simp only [List.length_nil]; omega)]; rfl
  | k :: m, r, hr, hm => by
    rw [List.length_cons] at hr
    rw [cst, cst, cst_shift2 h m (r + 1) (by omega) (fun j hj => hm j (by simp [hj])), h r k (by omega) (hm k (by simp))]
    by_cases e : r = row
    · rw [if_pos e, if_neg (by omega), if_pos (by simp; omega)]; omega
    · rw [if_neg e]
      by_cases e2 : r + 1 ≤ row ∧ row < r + 1 + m.length
      · rw [if_pos e2, if_pos (by simp; omega)]; omega
      · rw [if_neg e2, if_neg (by simp only [List.length_cons]; omega)]; omega
theorem isB_shift2 {c d : List (List Int)} {row n : Nat} {us : List Bool} {y : Int} (h : ∀ r k, r < n → k < n → cAtM d r k = cAtM c r k + if r = row then y else 0) {m : List Nat} (hm : isB c n n 0 us m) : isB d n n 0 us m := by
  refine ⟨hm.1, fun l hl => ?_⟩
  obtain ⟨q1, q2⟩ := hm.2 l hl
  rw [cst_shift2 h m 0 (by rw [hm.1.1]; omega) (fun k hk => (hm.1.2.2 k hk).1), cst_shift2 h l 0 (by rw [hl.1]; omega) (fun k hk => (hl.2.2 k hk).1), hm.1.1, hl.1]
  exact ⟨by omega, fun e => q2 (by omega)⟩

/-- The fault of the square with a row that costs more. -/
theorem rng_one {n : Nat} : ∀ {l : List (List Int)}, (∀ r ∈ l, r.length = n) → rws n l = 0 ∨ rws n l = 1
  | [], _ => .inl rfl
  | r :: t, h => by
    rw [rws]
    have e : rwf n r = rng r := by unfold rwf; rw [if_neg (by rw [h r (by simp)]; simp)]
    rw [e]
    split
    · exact rng_or r
    · exact rng_one fun x hx => h x (by simp [hx])
theorem dS_fault {cs : List (List Int)} (h0 : sqf cs = 0) (row : Nat) (y : Int) (h : sqf (dS cs row y cs.length) ≠ 0) : sqf (dS cs row y cs.length) = 1 := by
  have h8 := (sqf_zero h0).1
  unfold sqf at h ⊢
  rw [dS_len, if_neg (by omega)] at h ⊢
  refine (rng_one fun r hr => ?_).resolve_left h
  unfold dS at hr
  obtain ⟨i, hi, rfl⟩ := List.mem_map.1 hr
  rw [dR_len, sqf_len h0 (List.mem_range.1 hi)]
theorem dS_best {cs : List (List Int)} (h0 : sqf cs = 0) {row : Nat} {y : Int} (hr : row < cs.length) (hd : sqf (dS cs row y cs.length) = 0) : mcO (dS cs row y cs.length) = mcO cs ∧ lcO (dS cs row y cs.length) = lcO cs + y := by
  have hl := dS_len cs row y cs.length
  have hb := mcM_best hd
  rw [hl] at hb
  have hs : ∀ r k, r < cs.length → k < cs.length → cAtM (dS cs row y cs.length) r k = cAtM cs r k + if r = row then y else 0 := fun r k hr hk => dS_cost h0 hr hk
  have hm := mcM_best h0
  have e := isB_one hb (isB_shift2 hs hm)
  refine ⟨by rw [mcO_ok hd, mcO_ok h0, e], ?_⟩
  unfold lcO
  rw [e, cst_shift2 hs (mcM cs) 0 (by rw [hm.1.1]; omega) (fun k hk => (hm.1.2.2 k hk).1), if_pos (by rw [hm.1.1]; omega)]

/-- The square of the law's first words. -/
theorem first_ok : sqf [[5, 1], [1, 9]] = 0 := by decide
theorem first_is : mcO [[5, 1], [1, 9]] = [1, 0] := by decide

end Go.Proofs.YtfmhapajdnmhoaeDoor
