/-
  Plain mathematics: a text as a mail, a text as mails, in the program's ways.
-/
import Derived.Test.YtppmpofdhkgjmafDoorMbx
import Derived.Test.YtppmpofdhkgjmafDoorBpr
import Derived.Lib.SplitLaws
import Derived.Lib.Strings

namespace Go.Proofs.YtppmpofdhkgjmafDoor.Dist

theorem tp_app (p s : List UInt8) : Lib.trimPrefix (p ++ s) p = s := by
  unfold Lib.trimPrefix Lib.hasPrefix
  rw [if_pos (List.isPrefixOf_iff_prefix.2 ⟨s, rfl⟩)]
  exact List.drop_left' rfl
theorem ts_app (s p : List UInt8) : Lib.trimSuffix (s ++ p) p = s := by
  unfold Lib.trimSuffix Lib.hasSuffix
  rw [if_pos (List.isSuffixOf_iff_suffix.2 ⟨s, rfl⟩)]
  exact List.take_left' (by rw [List.length_append]; omega)

/-- A text's pieces, n at most. -/
def spl (t : List UInt8) (n : Nat) (s : List UInt8) : List (List UInt8) := Lib.splitK t 0 (min n (s.length + 1) - 1) s
/-- What of six pieces is a mail. -/
def rdp (p : List (List UInt8)) : Ml := (Lib.trimPrefix (p.getD 0 []) kF, Lib.trimPrefix (p.getD 1 []) kS, Lib.trimSuffix (Lib.trimPrefix (p.getD 2 []) kI) [62], (dcd (p.getD 5 [])).getD [])
/-- A text read as a mail. -/
def rd (s : List UInt8) : Ml := rdp (spl [10] 6 s)

theorem spl_hit {t a b : List UInt8} {k : Nat} (hn : Lib.NoOcc (a ++ (t ++ b)) t a.length) : Lib.splitK t 0 (k + 1) (a ++ (t ++ b)) = a :: Lib.splitK t 0 k b := by
  have ho : Lib.occAt (a ++ (t ++ b)) t a.length = true := by
    unfold Lib.occAt
    rw [List.drop_left' rfl]
    exact List.isPrefixOf_iff_prefix.2 ⟨b, rfl⟩
  have hi := Lib.index_hit hn (by simp) ho
  rw [Lib.splitK, hi, if_neg (by simp), Int.toNat_natCast, Nat.add_zero, List.take_left' rfl]
  congr 2
  rw [← List.append_assoc]
  exact List.drop_left' (by simp)
theorem spl_line {a b : List UInt8} {k : Nat} (h : (10 : UInt8) ∉ a) : Lib.splitK [10] 0 (k + 1) (a ++ 10 :: b) = a :: Lib.splitK [10] 0 k b := by
  refine spl_hit (t := [10]) fun j hj => ?_
  unfold Lib.occAt
  rw [Bool.eq_false_iff]
  intro e
  have := at_pre e (j := 0) (by simp)
  rw [Nat.add_zero, List.getElem?_append_left hj] at this
  exact h (List.mem_of_getElem? this)

theorem spl_mtx {m : Ml} (h : mlOk m) : spl [10] 6 (mtx m) = [kF ++ m.1, kS ++ m.2.1, kI ++ m.2.2.1 ++ [62], kC, [], ltrs m.2.2.2] := by
  have hp := mtx_lines h
  unfold spl
  rw [show min 6 ((mtx m).length + 1) - 1 = 5 by unfold mtx; simp only [joinC, List.length_append, List.length_cons]; omega]
  have e : mtx m = (kF ++ m.1) ++ 10 :: ((kS ++ m.2.1) ++ 10 :: ((kI ++ m.2.2.1 ++ [62]) ++ 10 :: (kC ++ 10 :: ([] ++ 10 :: ltrs m.2.2.2)))) := by
    unfold mtx; simp [joinC]
  rw [e, spl_line (hp _ (by simp)), spl_line (hp _ (by simp)), spl_line (hp _ (by simp)), spl_line (hp _ (by simp)), spl_line (by simp)]
  rfl

theorem dcd_ltrs {b : List UInt8} (h : b.length ≤ 40000) : dcd (ltrs b) = some b := by rw [dcd_byo, byo_ltrs h]

/-- What was written is read. -/
theorem rd_mtx {m : Ml} (h : mlOk m) : rd (mtx m) = m := by
  unfold rd
  rw [spl_mtx h]
  show (Lib.trimPrefix (kF ++ m.1) kF, Lib.trimPrefix (kS ++ m.2.1) kS, Lib.trimSuffix (Lib.trimPrefix (kI ++ m.2.2.1 ++ [62]) kI) [62], (dcd (ltrs m.2.2.2)).getD []) = m
  rw [tp_app, tp_app, List.append_assoc, tp_app, ts_app, dcd_ltrs h.2]
  rfl

/-- A text is a mail's if what is read of it is written so. -/
theorem mof_rd (s : List UInt8) : mof s = if mlOk (rd s) ∧ mtx (rd s) = s then some (rd s) else none := by
  split
  · rename_i h; exact mof_iff.2 ⟨h.2, h.1⟩
  · rename_i h
    cases e : mof s with
    | none => rfl
    | some m =>
      obtain ⟨h1, h2⟩ := mof_iff.1 e
      have h3 : rd s = m := by rw [← h1, rd_mtx h2]
      exact absurd ⟨h3 ▸ h2, h3 ▸ h1⟩ h

/-- A text with a line's end ahead of all, its last one dropped. -/
def rdq (s : List UInt8) : List UInt8 := 10 :: Lib.trimSuffix s [10]
/-- A text read as mails. -/
def rdB (s : List UInt8) : List Ml := ((spl (10 :: kB) 18 (rdq s)).drop 1).map rd

def btq (l : List Ml) : List UInt8 := l.flatMap fun m => (10 :: kB) ++ mtx m
theorem btq_btx : ∀ l : List Ml, 10 :: btx l = btq l ++ [10]
  | [] => rfl
  | m :: l => by
    rw [btx_cons, btq_btx l]
    unfold btq
    rw [List.flatMap_cons]
    simp
theorem btq_cons (m : Ml) (l : List Ml) : btq (m :: l) = (10 :: kB) ++ (mtx m ++ btq l) := by
  unfold btq; rw [List.flatMap_cons, List.append_assoc]
theorem btq_len : ∀ l : List Ml, l.length ≤ (btq l).length
  | [] => Nat.le_refl _
  | m :: l => by
    have := btq_len l
    rw [btq_cons]
    simp only [List.length_append, List.length_cons]
    omega

theorem btq_pieces : ∀ (l : List Ml) (m : Ml) (k : Nat), l.length ≤ k → (∀ x ∈ m :: l, mlOk x) → Lib.splitK (10 :: kB) 0 k (mtx m ++ btq l) = (m :: l).map mtx
  | [], m, k, _, h => by
    have hno : Lib.NoOcc (mtx m) (10 :: kB) (mtx m).length := fun j hj => by
      have := mtx_no (h m (by simp)) [] hj
      rw [Bool.eq_false_iff] at this ⊢
      intro e
      obtain ⟨r, hr⟩ := List.isPrefixOf_iff_prefix.1 e
      refine this (List.isPrefixOf_iff_prefix.2 ⟨r ++ [10], ?_⟩)
      rw [List.drop_append_of_le_length (Nat.le_of_lt hj), ← hr, List.append_assoc]
    have hi : Lib.index (mtx m) (10 :: kB) = -1 := Lib.index_past (by simp) hno (by simp)
    show Lib.splitK _ 0 k (mtx m ++ []) = [mtx m]
    rw [List.append_nil]
    cases k with
    | zero => rfl
    | succ k => rw [Lib.splitK, hi]; rfl
  | m2 :: l, m, 0, hk, _ => absurd hk (by simp)
  | m2 :: l, m, k + 1, hk, h => by
    have ih := btq_pieces l m2 k (by simpa using hk) (fun x hx => h x (by simp at hx ⊢; exact .inr hx))
    rw [btq_cons, spl_hit (fun j hj => mtx_no (h m (by simp)) _ hj), ih]
    rfl

/-- What was put in comes out. -/
theorem rdB_btx {l : List Ml} (hl : l.length ≤ 16) (h : ∀ m ∈ l, mlOk m) : rdB (btx l) = l := by
  cases l with
  | nil => rfl
  | cons m l =>
    have e : rdq (btx (m :: l)) = btq (m :: l) := by
      have h1 := btq_btx (m :: l)
      unfold rdq
      have h2 : btx (m :: l) = (btq (m :: l)).tail ++ [10] := by
        have := congrArg List.tail h1
        rw [List.tail_cons, btq_cons] at this
        rw [this, btq_cons]; rfl
      rw [h2, ts_app, btq_cons]; rfl
    unfold rdB spl
    rw [e]
    have hb := btq_len (m :: l)
    have hk : l.length + 1 ≤ min 18 ((btq (m :: l)).length + 1) - 1 := by
      rw [List.length_cons] at hb hl
      omega
    obtain ⟨k, hk2⟩ : ∃ k, min 18 ((btq (m :: l)).length + 1) - 1 = k + 1 := ⟨min 18 ((btq (m :: l)).length + 1) - 1 - 1, by omega⟩
    rw [hk2] at hk ⊢
    have hs := spl_hit (t := 10 :: kB) (a := []) (b := mtx m ++ btq l) (k := k) (fun j hj => absurd hj (Nat.not_lt_zero _))
    rw [List.nil_append, ← btq_cons] at hs
    rw [hs, btq_pieces l m k (by omega) h]
    rw [List.drop_succ_cons, List.drop_zero, List.map_map]
    exact (List.map_congr_left fun x hx => rd_mtx (h x hx)).trans (List.map_id' _)

/-- A text is a box if what is read of it is written so. -/
theorem bof_rd (s : List UInt8) : bof 16 s = if (rdB s).length ≤ 16 ∧ (∀ m ∈ rdB s, mlOk m) ∧ btx (rdB s) = s then some (rdB s) else none := by
  split
  · rename_i h; exact bof_iff.2 ⟨h.2.2, h.1, h.2.1⟩
  · rename_i h
    cases e : bof 16 s with
    | none => rfl
    | some l =>
      obtain ⟨h1, h2, h3⟩ := bof_iff.1 e
      have h4 : rdB s = l := by rw [← h1, rdB_btx h2 h3]
      exact absurd ⟨h4 ▸ h2, h4 ▸ h3, h4 ▸ h1⟩ h

end Go.Proofs.YtppmpofdhkgjmafDoor.Dist
