/-
  Plain mathematics: mails in a box as a text, a text as mails.
-/
import Derived.Test.YtppmpofdhkgjmafDoorMlt
import Derived.Lib.IndexLaws

namespace Go.Proofs.YtppmpofdhkgjmafDoor.Dist

/-- What each mail in a box has ahead. -/
def kB : List UInt8 := [70, 114, 111, 109, 32, 45, 32, 10]
def btx (l : List Ml) : List UInt8 := l.flatMap fun m => kB ++ (mtx m ++ [10])
theorem btx_cons (m : Ml) (l : List Ml) : btx (m :: l) = kB ++ (mtx m ++ 10 :: btx l) := by
  unfold btx
  rw [List.flatMap_cons]; simp
theorem btx_app (a b : List Ml) : btx (a ++ b) = btx a ++ btx b := by unfold btx; rw [List.flatMap_append]

theorem ltr_ne32 : ∀ n, n < 64 → ltr n ≠ 32 := by decide
theorem lnz_mem {c : UInt8} (s : List UInt8) (h : c ∈ lnz s) : c = 10 ∨ c ∈ s := by
  have all : ∀ (n : Nat) (s : List UInt8), s.length ≤ n → c ∈ lnz s → c = 10 ∨ c ∈ s := by
    intro n
    induction n with
    | zero =>
      intro s hn h
      have : s = [] := List.length_eq_zero_iff.1 (by omega)
      rw [this] at h
      exact absurd h List.not_mem_nil
    | succ n ih =>
      intro s hn h
      rw [lnz_eq] at h
      split at h
      · rcases List.mem_append.1 h with h | h
        · exact Or.inr (List.mem_of_mem_take h)
        · rcases List.mem_cons.1 h with h | h
          · exact Or.inl h
          · rcases ih (s.drop 76) (by rw [List.length_drop]; omega) h with h | h
            · exact Or.inl h
            · exact Or.inr (List.mem_of_mem_drop h)
      · split at h
        · rcases List.mem_append.1 h with h | h
          · exact Or.inr h
          · exact Or.inl (List.mem_singleton.1 h)
        · exact absurd h List.not_mem_nil
  exact all s.length s (Nat.le_refl _) h
theorem ltrs_32 (b : List UInt8) : 32 ∉ ltrs b := by
  intro h
  rcases lnz_mem _ h with h | h
  · exact absurd h (by decide)
  · unfold pd4 at h
    rcases List.mem_append.1 h with h | h
    · obtain ⟨v, hv, e⟩ := List.mem_map.1 h
      exact ltr_ne32 v (sxs_lt hv) e
    · exact absurd (List.mem_replicate.1 h).2 (by decide)

/-- Behind a line's end is what the next line opens with. -/
theorem joinC_next : ∀ (ls : List (List UInt8)), (∀ x ∈ ls, (10 : UInt8) ∉ x) → (∀ x ∈ ls.tail, x.head? ≠ some 70) → ∀ i : Nat, (joinC 10 ls)[i]? = some (10 : UInt8) → (joinC 10 ls)[i + 1]? ≠ some (70 : UInt8)
  | [], _, _, i => by intro h; simp [joinC] at h
  | x :: t, h1, h2, i => by
    intro h
    rw [joinC] at h ⊢
    by_cases a : i < x.length
    · rw [List.getElem?_append_left a] at h
      exact absurd (List.mem_of_getElem? h) (h1 x (by simp))
    · by_cases b : i = x.length
      · subst b
        rw [List.getElem?_append_right (by omega), show x.length + 1 - x.length = 0 + 1 by omega, List.getElem?_cons_succ]
        cases t with
        | nil => simp [joinC]
        | cons y r =>
          have hy := h2 y (by simp)
          cases y with
          | nil => simp [joinC]
          | cons c y => simpa [joinC] using hy
      · rw [List.getElem?_append_right (by omega), show i - x.length = (i - x.length - 1) + 1 by omega, List.getElem?_cons_succ] at h
        rw [List.getElem?_append_right (by omega), show i + 1 - x.length = (i - x.length - 1 + 1) + 1 by omega, List.getElem?_cons_succ]
        refine joinC_next t (fun y hy => h1 y (by simp [hy])) (fun y hy => h2 y ?_) _ h
        exact List.mem_of_mem_tail hy

theorem mtx_lines {m : Ml} (h : mlOk m) : ∀ x ∈ [kF ++ m.1, kS ++ m.2.1, kI ++ m.2.2.1 ++ [62], kC, []], (10 : UInt8) ∉ x := by
  have e1 : (10 : UInt8) ∉ kF := by decide
  have e2 : (10 : UInt8) ∉ kS := by decide
  have e3 : (10 : UInt8) ∉ kI := by decide
  have e4 : (10 : UInt8) ∉ kC := by decide
  have f1 := wrd_10 h.1.1
  have f2 := wrd_10 h.1.2.1
  have f3 := wrd_10 h.1.2.2.1
  intro x hx
  simp only [List.mem_cons, List.not_mem_nil, or_false] at hx
  rcases hx with rfl | rfl | rfl | rfl | rfl
  · simp only [List.mem_append]; exact fun x => x.elim e1 f1
  · simp only [List.mem_append]; exact fun x => x.elim e2 f2
  · simp only [List.mem_append, List.mem_singleton]
    exact fun x => x.elim (fun y => y.elim e3 f3) (by decide)
  · exact e4
  · exact List.not_mem_nil

theorem at_pre {s t : List UInt8} {i : Nat} (h : t.isPrefixOf (s.drop i) = true) {j : Nat} (hj : j < t.length) : s[i + j]? = t[j]? := by
  obtain ⟨r, e⟩ := List.isPrefixOf_iff_prefix.1 h
  rw [← List.getElem?_drop, ← e, List.getElem?_append_left hj]

/-- Within a mail no other one begins. -/
theorem mtx_no {m : Ml} (h : mlOk m) (y : List UInt8) {i : Nat} (hi : i < (mtx m).length) : (10 :: kB).isPrefixOf ((mtx m ++ 10 :: y).drop i) = false := by
  rw [Bool.eq_false_iff]
  intro o
  have p : ∀ j, j < 9 → (mtx m ++ 10 :: y)[i + j]? = (10 :: kB)[j]? := fun j hj => at_pre o hj
  by_cases a : (mtx m).length ≤ i + 5
  · have := p ((mtx m).length - i) (by omega)
    rw [show i + ((mtx m).length - i) = (mtx m).length by omega, List.getElem?_append_right (Nat.le_refl _), Nat.sub_self, List.getElem?_cons_zero] at this
    have h1 : 1 ≤ (mtx m).length - i := by omega
    have h2 : (mtx m).length - i ≤ 5 := by omega
    generalize (mtx m).length - i = j at this h1 h2
    have hj : j = 1 ∨ j = 2 ∨ j = 3 ∨ j = 4 ∨ j = 5 := by omega
    rcases hj with rfl | rfl | rfl | rfl | rfl <;> exact absurd this (by decide)
  · have p2 : ∀ j, j ≤ 5 → (mtx m)[i + j]? = (10 :: kB)[j]? := fun j hj => by
      rw [← p j (by omega), List.getElem?_append_left (by omega)]
    unfold mtx at p2
    by_cases b : (joinC 10 [kF ++ m.1, kS ++ m.2.1, kI ++ m.2.2.1 ++ [62], kC, []]).length ≤ i + 5
    · have := p2 5 (by omega)
      rw [List.getElem?_append_right b] at this
      exact ltrs_32 _ (List.mem_of_getElem? this)
    · have q0 := p2 0 (by omega)
      have q1 := p2 1 (by omega)
      rw [List.getElem?_append_left (by omega)] at q0 q1
      refine joinC_next _ (mtx_lines h) ?_ i q0 q1
      intro x hx
      simp only [List.tail_cons, List.mem_cons, List.not_mem_nil, or_false] at hx
      rcases hx with rfl | rfl | rfl | rfl
      · simp [kS]
      · simp [kI]
      · simp [kC]
      · simp

/-- A text as mails: so many may come yet. -/
def bat (r : List UInt8) : Int := if Lib.index r (10 :: kB) < 0 then (r.length : Int) - 1 else Lib.index r (10 :: kB)
def bof : Nat → List UInt8 → Option (List Ml)
  | _, [] => some []
  | 0, _ :: _ => none
  | n + 1, b :: s =>
    if (b :: s).take 8 = kB then
      if bat ((b :: s).drop 8) < 0 ∨ ((b :: s).drop 8).getD (bat ((b :: s).drop 8)).toNat 0 ≠ 10 then none
      else match mof (((b :: s).drop 8).take (bat ((b :: s).drop 8)).toNat) with
        | none => none
        | some m => (bof n (((b :: s).drop 8).drop ((bat ((b :: s).drop 8)).toNat + 1))).map (m :: ·)
    else none

theorem bat_of {m : Ml} (h : mlOk m) (l : List Ml) : bat (mtx m ++ 10 :: btx l) = (mtx m).length := by
  have hno : Lib.NoOcc (mtx m ++ 10 :: btx l) (10 :: kB) (mtx m).length := fun j hj => mtx_no h _ hj
  unfold bat
  cases l with
  | nil =>
    rw [Lib.index_past (by simp) hno (by simp [btx, kB])]
    simp [btx]
  | cons m2 l =>
    have ho : Lib.occAt (mtx m ++ 10 :: btx (m2 :: l)) (10 :: kB) (mtx m).length = true := by
      rw [btx_cons]
      unfold Lib.occAt
      rw [List.drop_left' rfl]
      exact List.isPrefixOf_iff_prefix.2 ⟨_, rfl⟩
    rw [Lib.index_hit hno (by simp) ho, if_neg (by omega)]

/-- What was put in comes out. -/
theorem bof_btx : ∀ (n : Nat) (l : List Ml), l.length ≤ n → (∀ m ∈ l, mlOk m) → bof n (btx l) = some l
  | n, [], _, _ => by cases n <;> rfl
  | 0, m :: l, hl, _ => absurd hl (by simp)
  | n + 1, m :: l, hl, h => by
    have hm := h m (by simp)
    have ih := bof_btx n l (by simpa using hl) (fun x hx => h x (by simp [hx]))
    have e : btx (m :: l) = 70 :: ([114, 111, 109, 32, 45, 32, 10] ++ (mtx m ++ 10 :: btx l)) := by rw [btx_cons]; rfl
    have d : (70 :: ([114, 111, 109, 32, 45, 32, 10] ++ (mtx m ++ 10 :: btx l))).drop 8 = mtx m ++ 10 :: btx l := rfl
    rw [e, bof, if_pos (show (70 :: ([114, 111, 109, 32, 45, 32, 10] ++ (mtx m ++ 10 :: btx l))).take 8 = kB from rfl), d, bat_of hm l]
    rw [if_neg (by
      rintro (x | x)
      · omega
      · exact x (by simp))]
    rw [Int.toNat_natCast, List.take_left' rfl, mof_mtx hm]
    have d2 : (mtx m ++ 10 :: btx l).drop ((mtx m).length + 1) = btx l := by
      rw [← List.drop_drop, List.drop_left' rfl]; rfl
    show Option.map _ (bof n _) = _
    rw [d2, ih]; rfl

/-- What comes out was put in so. -/
theorem btx_bof : ∀ (n : Nat) (s : List UInt8) (l : List Ml), bof n s = some l → btx l = s ∧ l.length ≤ n ∧ ∀ m ∈ l, mlOk m
  | n, [], l, h => by
    have : l = [] := by cases n <;> (cases h; rfl)
    subst this
    exact ⟨rfl, Nat.zero_le _, fun _ x => absurd x List.not_mem_nil⟩
  | 0, b :: s, l, h => by cases h
  | n + 1, b :: s, l, h => by
    rw [bof] at h
    split at h
    · rename_i hk
      split at h
      · cases h
      · rename_i hb
        split at h
        · cases h
        · rename_i m hm
          cases hr : bof n (((b :: s).drop 8).drop ((bat ((b :: s).drop 8)).toNat + 1)) with
          | none => rw [hr] at h; cases h
          | some l' =>
            rw [hr] at h
            have h : m :: l' = l := Option.some.inj h
            subst h
            obtain ⟨i1, i2, i3⟩ := btx_bof n _ l' hr
            obtain ⟨m1, m2⟩ := mtx_mof hm
            have hs := take_pre hk
            generalize bat ((b :: s).drop 8) = k at *
            generalize (b :: s).drop 8 = r at *
            have h10 : r.getD k.toNat 0 = 10 := Classical.byContradiction fun x => hb (Or.inr x)
            have hlt : k.toNat < r.length := by
              by_cases c : k.toNat < r.length
              · exact c
              · rw [List.getD_eq_getElem?_getD, List.getElem?_eq_none (by omega)] at h10
                exact absurd h10 (by decide)
            refine ⟨?_, by simpa using i2, fun x hx => ?_⟩
            · rw [btx_cons, m1, i1, hs]
              have h11 : r[k.toNat] = 10 := by
                rw [List.getD_eq_getElem?_getD, List.getElem?_eq_getElem hlt] at h10; exact h10
              rw [← h11, ← List.drop_eq_getElem_cons hlt, List.take_append_drop]
            · rcases List.mem_cons.1 hx with rfl | hx
              · exact m2
              · exact i3 x hx
    · cases h

theorem bof_iff {n : Nat} {s : List UInt8} {l : List Ml} : bof n s = some l ↔ btx l = s ∧ l.length ≤ n ∧ ∀ m ∈ l, mlOk m :=
  ⟨btx_bof n s l, fun h => h.1 ▸ bof_btx n l h.2.1 h.2.2⟩

end Go.Proofs.YtppmpofdhkgjmafDoor.Dist
