/-
  Plain mathematics: a mail as a text, a text as a mail.
-/
import Derived.Test.YtppmpofdhkgjmafDoorBls

namespace Go.Proofs.YtppmpofdhkgjmafDoor.Dist

/-- What a mail's lines open with. -/
def kF : List UInt8 := [70, 114, 111, 109, 58, 32]
def kS : List UInt8 := [83, 117, 98, 106, 101, 99, 116, 58, 32]
def kI : List UInt8 := [77, 101, 115, 115, 97, 103, 101, 45, 73, 68, 58, 32, 60]
def kC : List UInt8 := [67, 111, 110, 116, 101, 110, 116, 45, 84, 114, 97, 110, 115, 102, 101, 114, 45, 69, 110, 99, 111, 100, 105, 110, 103, 58, 32, 98, 97, 115, 101, 54, 52]

/-- A mail: from whom, of what, its name, what is in it. -/
abbrev Ml := List UInt8 × List UInt8 × List UInt8 × List UInt8
abbrev wrd (s : List UInt8) (n : Nat) : Prop := 1 ≤ s.length ∧ s.length ≤ n ∧ ∀ c ∈ s, 32 ≤ c ∧ c ≤ 126
abbrev mlOk (m : Ml) : Prop := (wrd m.1 40 ∧ wrd m.2.1 40 ∧ wrd m.2.2.1 40 ∧ 60 ∉ m.2.2.1 ∧ 62 ∉ m.2.2.1) ∧ m.2.2.2.length ≤ 40000

theorem wrd_10 {s : List UInt8} {n : Nat} (h : wrd s n) : 10 ∉ s := fun x => absurd (h.2.2 10 x).1 (by decide)

def mtx (m : Ml) : List UInt8 := joinC 10 [kF ++ m.1, kS ++ m.2.1, kI ++ m.2.2.1 ++ [62], kC, []] ++ ltrs m.2.2.2

abbrev mhd (l0 l1 l2 l3 l4 : List UInt8) : Prop := l0.take 6 = kF ∧ l1.take 9 = kS ∧ l2.take 13 = kI ∧ l2.getLast? = some 62 ∧ 14 ≤ l2.length ∧ l3 = kC ∧ l4 = []

/-- A text as a mail. -/
def mof (s : List UInt8) : Option Ml := match (parts 10 s).1 with
  | l0 :: l1 :: l2 :: l3 :: l4 :: _ =>
    if mhd l0 l1 l2 l3 l4 then match byo (s.drop (l0.length + l1.length + l2.length + l3.length + 5)) with
      | none => none
      | some b => if mlOk (l0.drop 6, l1.drop 9, (l2.drop 13).dropLast, b) then some (l0.drop 6, l1.drop 9, (l2.drop 13).dropLast, b) else none
    else none
  | _ => none

theorem take_pre {s p : List UInt8} {n : Nat} (h : s.take n = p) : s = p ++ s.drop n := by
  rw [← h, List.take_append_drop]

/-- What was written is read. -/
theorem mof_mtx {m : Ml} (h : mlOk m) : mof (mtx m) = some m := by
  obtain ⟨a, b, c, d⟩ := m
  obtain ⟨⟨h1, h2, h3, h4, h5⟩, h6⟩ := h
  have hp : ∀ x ∈ [kF ++ a, kS ++ b, kI ++ c ++ [62], kC, []], (10 : UInt8) ∉ x := by
    have e1 : (10 : UInt8) ∉ kF := by decide
    have e2 : (10 : UInt8) ∉ kS := by decide
    have e3 : (10 : UInt8) ∉ kI := by decide
    have e4 : (10 : UInt8) ∉ kC := by decide
    have f1 := wrd_10 h1
    have f2 := wrd_10 h2
    have f3 := wrd_10 h3
    intro x hx
    simp only [List.mem_cons, List.not_mem_nil, or_false] at hx
    rcases hx with rfl | rfl | rfl | rfl | rfl
    · simp only [List.mem_append]; exact fun x => x.elim e1 f1
    · simp only [List.mem_append]; exact fun x => x.elim e2 f2
    · simp only [List.mem_append, List.mem_singleton]
      exact fun x => x.elim (fun y => y.elim e3 f3) (by decide)
    · exact e4
    · exact List.not_mem_nil
  have hs := parts_spec 10 (ltrs d).length (ltrs d) (Nat.le_refl _)
  have e : (parts 10 (mtx (a, b, c, d))).1 = [kF ++ a, kS ++ b, kI ++ c ++ [62], kC, []] ++ (parts 10 (ltrs d)).1 := by
    unfold mtx
    rw [show ltrs d = joinC 10 (parts 10 (ltrs d)).1 ++ (parts 10 (ltrs d)).2 from hs.2.2.symm, ← List.append_assoc, ← joinC_append]
    rw [parts_of 10 _ _ (fun x hx => by
      rcases List.mem_append.1 hx with hx | hx
      · exact hp x hx
      · exact hs.1 x hx) hs.2.1]
    rw [hs.2.2]
  unfold mof
  rw [e]
  show (if mhd (kF ++ a) (kS ++ b) (kI ++ c ++ [62]) kC [] then _ else _) = _
  have hm : mhd (kF ++ a) (kS ++ b) (kI ++ c ++ [62]) kC [] := ⟨List.take_left' rfl, List.take_left' rfl, by rw [List.append_assoc]; exact List.take_left' rfl, by simp, by simp [kI], rfl, rfl⟩
  rw [if_pos hm]
  have hd : (mtx (a, b, c, d)).drop ((kF ++ a).length + (kS ++ b).length + (kI ++ c ++ [62]).length + kC.length + 5) = ltrs d := by
    unfold mtx
    exact List.drop_left' (by simp only [joinC, List.length_append, List.length_cons, List.length_nil]; omega)
  rw [hd, byo_ltrs h6]
  have x1 : (kF ++ a).drop 6 = a := List.drop_left' rfl
  have x2 : (kS ++ b).drop 9 = b := List.drop_left' rfl
  have x3 : ((kI ++ c ++ [62]).drop 13).dropLast = c := by
    rw [List.append_assoc, List.drop_left' (show kI.length = 13 from rfl)]; simp
  simp only [x1, x2, x3]
  rw [if_pos ⟨⟨h1, h2, h3, h4, h5⟩, h6⟩]

/-- What is read is written so. -/
theorem mtx_mof {s : List UInt8} {m : Ml} (h : mof s = some m) : mtx m = s ∧ mlOk m := by
  unfold mof at h
  split at h
  · rename_i l0 l1 l2 l3 l4 r e
    split at h
    · rename_i hm
      split at h
      · exact absurd h (by simp)
      · rename_i b hb
        split at h
        · rename_i hok
          cases h
          refine ⟨?_, hok⟩
          obtain ⟨m1, m2, m3, m4, m5, m6, m7⟩ := hm
          have hj := parts_join 10 s
          rw [e] at hj
          subst m6; subst m7
          have q1 := take_pre (s := l0) (p := kF) (n := 6) m1
          have q2 := take_pre (s := l1) (p := kS) (n := 9) m2
          have q3 := take_pre (s := l2) (p := kI) (n := 13) m3
          have q4 : l2 = kI ++ (l2.drop 13).dropLast ++ [62] := by
            have hne : l2.drop 13 ≠ [] := fun x => by
              have := congrArg List.length x
              rw [List.length_drop, List.length_nil] at this
              omega
            have h1 : (l2.drop 13).getLast hne = 62 := by
              have : (l2.drop 13).getLast? = some 62 := by
                rw [List.getLast?_drop, if_neg (by omega)]; exact m4
              rw [List.getLast?_eq_some_getLast hne] at this
              exact Option.some.inj this
            rw [List.append_assoc, ← h1, List.dropLast_concat_getLast]
            exact q3
          have hs : s = joinC 10 [l0, l1, l2, kC, []] ++ s.drop (l0.length + l1.length + l2.length + kC.length + 5) := by
            have : s = joinC 10 [l0, l1, l2, kC, []] ++ (joinC 10 r ++ (parts 10 s).2) := by
              rw [← List.append_assoc, ← joinC_append]; exact hj.symm
            have h2 : s.drop (l0.length + l1.length + l2.length + kC.length + 5) = joinC 10 r ++ (parts 10 s).2 := by
              refine (congrArg (List.drop (l0.length + l1.length + l2.length + kC.length + 5)) this).trans ?_
              exact List.drop_left' (by simp only [joinC, List.length_append, List.length_cons, List.length_nil]; omega)
            rw [h2]; exact this
          unfold mtx
          simp only
          rw [← q1, ← q2, ← q4, (byo_some hb).1]
          exact hs.symm
        · exact absurd h (by simp)
    · exact absurd h (by simp)
  · exact absurd h (by simp)

theorem mof_iff {s : List UInt8} {m : Ml} : mof s = some m ↔ mtx m = s ∧ mlOk m :=
  ⟨mtx_mof, fun h => h.1 ▸ mof_mtx h.2⟩

end Go.Proofs.YtppmpofdhkgjmafDoor.Dist
