/-
  Walks of the document's own answers for two files: how far it is, and the script.
-/
import Derived.Test.YthcgbbfejdkgaabRefC
import Derived.Test.YthcgbbfejdkgaabScr

namespace Go.Proofs.Ythcgbbfejdkgaab
open Go.RowKit Dist

/-- What the document's script does next. -/
theorem ref_cases {xs ys : List ByteArray} {i j : Nat} (hi : i ≤ xs.length) (hj : j ≤ ys.length) (h : i < xs.length ∨ j < ys.length) :
    (i < xs.length ∧ j < ys.length ∧ xs.getD i ByteArray.empty = ys.getD j ByteArray.empty ∧ com (xs.drop (i + 1)) (ys.drop (j + 1)) + 1 = com (xs.drop i) (ys.drop j) ∧ scr (xs.drop i) (ys.drop j) = (32, xs.getD i ByteArray.empty) :: scr (xs.drop (i + 1)) (ys.drop (j + 1))) ∨
    (i < xs.length ∧ j = ys.length ∧ com (xs.drop (i + 1)) (ys.drop j) = com (xs.drop i) (ys.drop j) ∧ scr (xs.drop i) (ys.drop j) = (45, xs.getD i ByteArray.empty) :: scr (xs.drop (i + 1)) (ys.drop j)) ∨
    (i < xs.length ∧ j < ys.length ∧ xs.getD i ByteArray.empty ≠ ys.getD j ByteArray.empty ∧ com (xs.drop (i + 1)) (ys.drop j) = com (xs.drop i) (ys.drop j) ∧ scr (xs.drop i) (ys.drop j) = (45, xs.getD i ByteArray.empty) :: scr (xs.drop (i + 1)) (ys.drop j)) ∨
    (i = xs.length ∧ j < ys.length ∧ scr (xs.drop i) (ys.drop j) = (43, ys.getD j ByteArray.empty) :: scr (xs.drop i) (ys.drop (j + 1))) ∨
    (i < xs.length ∧ j < ys.length ∧ xs.getD i ByteArray.empty ≠ ys.getD j ByteArray.empty ∧ com (xs.drop (i + 1)) (ys.drop j) ≠ com (xs.drop i) (ys.drop j) ∧ scr (xs.drop i) (ys.drop j) = (43, ys.getD j ByteArray.empty) :: scr (xs.drop i) (ys.drop (j + 1))) := by
  by_cases e1 : i = xs.length
  · refine .inr (.inr (.inr (.inl ⟨e1, by omega, ?_⟩)))
    rw [e1, List.drop_of_length_le (Nat.le_refl _), drop_at (xs := ys) (i := j) (by omega), scr_put]
  by_cases e2 : j = ys.length
  · refine .inr (.inl ⟨by omega, e2, ?_, ?_⟩)
    · rw [com_end (.inr e2), com_end (.inr e2)]
    · rw [e2, List.drop_of_length_le (Nat.le_refl ys.length), drop_at (xs := xs) (i := i) (by omega), scr_take]
  have h1 : i < xs.length := by omega
  have h2 : j < ys.length := by omega
  have hs : scr (xs.drop i) (ys.drop j) = if xs.getD i ByteArray.empty = ys.getD j ByteArray.empty then (32, xs.getD i ByteArray.empty) :: scr (xs.drop (i + 1)) (ys.drop (j + 1)) else if dist (xs.drop (i + 1)) (ys.drop j) ≤ dist (xs.drop i) (ys.drop (j + 1)) then (45, xs.getD i ByteArray.empty) :: scr (xs.drop (i + 1)) (ys.drop j) else (43, ys.getD j ByteArray.empty) :: scr (xs.drop i) (ys.drop (j + 1)) := by
    conv => lhs; rw [drop_at h1, drop_at h2, scr_cons]
    rw [← drop_at h1, ← drop_at h2]
  by_cases e3 : xs.getD i ByteArray.empty = ys.getD j ByteArray.empty
  · refine .inl ⟨h1, h2, e3, ?_, by rw [hs, if_pos e3]⟩
    conv => rhs; rw [drop_at h1, drop_at h2, ← e3]
    exact com_keep _ _ _
  have hct := com_take (xs.getD i ByteArray.empty) (ys.getD j ByteArray.empty) (xs.drop (i + 1)) (ys.drop (j + 1)) e3
  rw [← drop_at h1, ← drop_at h2] at hct
  by_cases e4 : dist (xs.drop (i + 1)) (ys.drop j) ≤ dist (xs.drop i) (ys.drop (j + 1))
  · exact .inr (.inr (.inl ⟨h1, h2, e3, hct.2 e4, by rw [hs, if_neg e3, if_pos e4]⟩))
  · exact .inr (.inr (.inr (.inr ⟨h1, h2, e3, fun e => e4 (hct.1 e), by rw [hs, if_neg e3, if_neg e4]⟩)))

end Go.Proofs.Ythcgbbfejdkgaab
