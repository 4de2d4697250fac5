/-
  Plain mathematics: bytes piece by piece; bytes as letters, letters as bytes, in the program's ways.
-/
import Derived.Test.YtppmpofdhkgjmafDoorBls

namespace Go.Proofs.YtppmpofdhkgjmafDoor.Dist

/-- A piece of n; how many there are; what each gives, one behind the other. -/
def pce (n : Nat) (l : List UInt8) (k : Nat) : List UInt8 := (l.drop (k * n)).take n
def pcn (n len : Nat) : Nat := (len + (n - 1)) / n
def pca (n : Nat) (f : List UInt8 → List UInt8) (l : List UInt8) : List UInt8 := (List.range (pcn n l.length)).flatMap fun k => f (pce n l k)

theorem pcn_zero {n : Nat} (h : 0 < n) : pcn n 0 = 0 := Nat.div_eq_of_lt (by omega)
theorem pcn_succ {n len : Nat} (h : 0 < n) (hl : 0 < len) : pcn n len = pcn n (len - n) + 1 := by
  unfold pcn
  by_cases c : n ≤ len
  · rw [show len + (n - 1) = len - n + (n - 1) + n by omega, Nat.add_div_right _ h]
  · rw [show len - n = 0 by omega, Nat.div_eq_of_lt (show 0 + (n - 1) < n by omega), show len + (n - 1) = len - 1 + n by omega, Nat.add_div_right _ h, Nat.div_eq_of_lt (show len - 1 < n by omega)]
theorem pcn_lt {n len k : Nat} (h : 0 < n) : k < pcn n len ↔ k * n < len := by
  unfold pcn
  rw [show (k < (len + (n - 1)) / n) ↔ k + 1 ≤ (len + (n - 1)) / n from Iff.rfl, Nat.le_div_iff_mul_le h, Nat.succ_mul]
  omega

theorem pca_nil {n : Nat} (h : 0 < n) (f : List UInt8 → List UInt8) : pca n f [] = [] := by
  unfold pca
  rw [List.length_nil, pcn_zero h]; rfl
theorem pca_cons {n : Nat} (h : 0 < n) (f : List UInt8 → List UInt8) {l : List UInt8} (hl : 0 < l.length) : pca n f l = f (l.take n) ++ pca n f (l.drop n) := by
  unfold pca
  rw [pcn_succ h hl, List.range_succ_eq_map, List.flatMap_cons, List.flatMap_map, List.length_drop]
  have e0 : pce n l 0 = l.take n := by unfold pce; rw [Nat.zero_mul, List.drop_zero]
  rw [e0]
  congr 1
  congr 1
  funext k
  show f (pce n l (k + 1)) = _
  unfold pce
  rw [List.drop_drop, Nat.succ_mul, Nat.add_comm]

/-- Up to three bytes as four letters; a piece as a line. -/
def f4 (t : List UInt8) : List UInt8 := pd4 ((sxs t).map ltr)
def enl (p : List UInt8) : List UInt8 := pca 3 f4 p ++ [10]

theorem pd4_four (a b c d : UInt8) (s : List UInt8) : pd4 (a :: b :: c :: d :: s) = a :: b :: c :: d :: pd4 s := by
  unfold pd4
  rw [show (4 - (a :: b :: c :: d :: s).length % 4) % 4 = (4 - s.length % 4) % 4 by simp only [List.length_cons]; omega]; rfl
theorem pca3 : ∀ p : List UInt8, pca 3 f4 p = pd4 ((sxs p).map ltr)
  | [] => by rw [pca_nil (by omega)]; rfl
  | [x] => by
    rw [pca_cons (by omega) _ (by simp), show ([x] : List UInt8).drop 3 = [] from rfl, pca_nil (by omega), List.append_nil]; rfl
  | [x, y] => by
    rw [pca_cons (by omega) _ (by simp), show ([x, y] : List UInt8).drop 3 = [] from rfl, pca_nil (by omega), List.append_nil]; rfl
  | x :: y :: z :: r => by
    rw [pca_cons (by omega) _ (by simp), show (x :: y :: z :: r).drop 3 = r from rfl, show (x :: y :: z :: r).take 3 = [x, y, z] from rfl, pca3 r]
    unfold f4
    rw [sxs_3 x y z r, sxs_3 x y z []]
    simp only [List.map_cons]
    rw [pd4_four, pd4_four]; rfl

theorem enl_ltrs {p : List UInt8} (h0 : 0 < p.length) (h : p.length ≤ 57) : enl p = ltrs p := by
  unfold enl ltrs
  rw [pca3, lnz_eq, if_neg (by rw [pd4_len, List.length_map, sxs_len]; omega), if_pos (by rw [pd4_len, List.length_map, sxs_len]; omega)]
theorem pca57 (b : List UInt8) : pca 57 enl b = ltrs b := by
  have all : ∀ (n : Nat) (b : List UInt8), b.length ≤ n → pca 57 enl b = ltrs b := by
    intro n
    induction n with
    | zero =>
      intro b hn
      have : b = [] := List.length_eq_zero_iff.1 (by omega)
      rw [this, pca_nil (by omega)]
      unfold ltrs
      rw [sxs_nil, show pd4 (([] : List Nat).map ltr) = [] from rfl, lnz_eq, if_neg (by simp), if_neg (by simp)]
    | succ n ih =>
      intro b hn
      by_cases h0 : 0 < b.length
      · rw [pca_cons (by omega) _ h0]
        by_cases h : b.length ≤ 57
        · rw [List.take_of_length_le h, List.drop_of_length_le h, pca_nil (by omega), List.append_nil, enl_ltrs h0 h]
        · have ih := ih (b.drop 57) (by rw [List.length_drop]; omega)
          have hl : (b.take 57).length = 57 := by rw [List.length_take]; omega
          rw [ih, enl_ltrs (by omega) (by omega), ← ltrs_more hl, List.take_append_drop]
      · exact ih b (by omega)
  exact all b.length b (Nat.le_refl _)

/-- 24 bits of up to three bytes; the letter at a place. -/
def b24 (t : List UInt8) : Nat := (t.getD 0 0).toNat * 65536 + (t.getD 1 0).toNat * 256 + (t.getD 2 0).toNat
def flt (t : List UInt8) (i : Nat) : UInt8 := if i < t.length + 1 then ltr (b24 t / 2 ^ (18 - 6 * i) % 64) else 61
theorem b24_lt (t : List UInt8) : b24 t < 16777216 := by
  have h0 := (t.getD 0 0).toNat_lt
  have h1 := (t.getD 1 0).toNat_lt
  have h2 := (t.getD 2 0).toNat_lt
  unfold b24; omega
theorem flt_f4 : ∀ t : List UInt8, 0 < t.length → t.length ≤ 3 → [flt t 0, flt t 1, flt t 2, flt t 3] = f4 t
  | [], h, _ => absurd h (by simp)
  | [x], _, _ => by
    have := x.toNat_lt
    unfold f4
    rw [sxs_1]
    show [ltr ((x.toNat * 65536 + 0 * 256 + 0) / 262144 % 64), ltr ((x.toNat * 65536 + 0 * 256 + 0) / 4096 % 64), 61, 61] = [ltr (x.toNat / 4), ltr (x.toNat % 4 * 16), 61, 61]
    rw [show (x.toNat * 65536 + 0 * 256 + 0) / 262144 % 64 = x.toNat / 4 by omega, show (x.toNat * 65536 + 0 * 256 + 0) / 4096 % 64 = x.toNat % 4 * 16 by omega]
  | [x, y], _, _ => by
    have := x.toNat_lt
    have := y.toNat_lt
    unfold f4
    rw [sxs_2]
    show [ltr ((x.toNat * 65536 + y.toNat * 256 + 0) / 262144 % 64), ltr ((x.toNat * 65536 + y.toNat * 256 + 0) / 4096 % 64), ltr ((x.toNat * 65536 + y.toNat * 256 + 0) / 64 % 64), 61] = [ltr (x.toNat / 4), ltr (x.toNat % 4 * 16 + y.toNat / 16), ltr (y.toNat % 16 * 4), 61]
    rw [show (x.toNat * 65536 + y.toNat * 256 + 0) / 262144 % 64 = x.toNat / 4 by omega, show (x.toNat * 65536 + y.toNat * 256 + 0) / 4096 % 64 = x.toNat % 4 * 16 + y.toNat / 16 by omega, show (x.toNat * 65536 + y.toNat * 256 + 0) / 64 % 64 = y.toNat % 16 * 4 by omega]
  | [x, y, z], _, _ => by
    have := x.toNat_lt
    have := y.toNat_lt
    have := z.toNat_lt
    have e : f4 [x, y, z] = [ltr (x.toNat / 4), ltr (x.toNat % 4 * 16 + y.toNat / 16), ltr (y.toNat % 16 * 4 + z.toNat / 64), ltr (z.toNat % 64)] := by
      unfold f4
      rw [sxs_3, sxs_nil]
      simp only [List.map_cons, List.map_nil]
      rw [pd4_four]; rfl
    rw [e]
    have g : b24 [x, y, z] = x.toNat * 65536 + y.toNat * 256 + z.toNat := rfl
    unfold flt
    rw [g, if_pos (by simp), if_pos (by simp), if_pos (by simp), if_pos (by simp)]
    simp only [Nat.reduceMul, Nat.reduceSub, Nat.reducePow]
    rw [show (x.toNat * 65536 + y.toNat * 256 + z.toNat) / 262144 % 64 = x.toNat / 4 by omega, show (x.toNat * 65536 + y.toNat * 256 + z.toNat) / 4096 % 64 = x.toNat % 4 * 16 + y.toNat / 16 by omega, show (x.toNat * 65536 + y.toNat * 256 + z.toNat) / 64 % 64 = y.toNat % 16 * 4 + z.toNat / 64 by omega, show (x.toNat * 65536 + y.toNat * 256 + z.toNat) / 1 % 64 = z.toNat % 64 by omega]
  | _ :: _ :: _ :: _ :: _, _, h => absurd h (by simp only [List.length_cons]; omega)

/-- A letter's six bits, or none; four letters' bits; how many are no equals sign; the bytes. -/
def lv (c : UInt8) : Nat := if abc.idxOf c = 64 then 0 else abc.idxOf c
def ubs (q : List UInt8) : Nat := q.foldl (fun a c => a * 64 + lv c) 0
def ucn (q : List UInt8) : Nat := (q.filter fun c => c != 61).length
def unf (q : List UInt8) : List UInt8 := [UInt8.ofNat (ubs q / 65536), UInt8.ofNat (ubs q / 256), UInt8.ofNat (ubs q)].take (ucn q * 6 / 8)
def fil (p : List UInt8) : List UInt8 := p ++ List.replicate (4 - p.length) 0
def no10 (s : List UInt8) : List UInt8 := s.filter fun c => c != 10
def rdb (s : List UInt8) : List UInt8 := pca 4 (fun p => unf (fil p)) (no10 s)
/-- Letters as bytes, the program's way. -/
def dcd (s : List UInt8) : Option (List UInt8) := if 40000 < (rdb s).length ∨ ltrs (rdb s) ≠ s then none else some (rdb s)

theorem lv_lt (c : UInt8) : lv c < 64 := by
  have := idx_le c
  unfold lv; split <;> omega
theorem lv_ltr {n : Nat} (h : n < 64) : lv (ltr n) = n := by unfold lv; rw [ltr_idx n h, if_neg (by omega)]
theorem lv_61 : lv 61 = 0 := by decide
theorem ubs_snoc (q : List UInt8) (c : UInt8) : ubs (q ++ [c]) = ubs q * 64 + lv c := by simp [ubs]
theorem ucn_snoc (q : List UInt8) (c : UInt8) : ucn (q ++ [c]) = ucn q + if c = 61 then 0 else 1 := by
  unfold ucn
  rw [List.filter_append, List.length_append]
  by_cases h : c = 61
  · rw [if_pos h, h]; rfl
  · rw [if_neg h, List.filter_cons_of_pos (by simpa using h)]; rfl
theorem ucn_le (q : List UInt8) : ucn q ≤ q.length := List.length_filter_le _ _

theorem unf_3 {a b c d : Nat} (ha : a < 64) (hb : b < 64) (hc : c < 64) (hd : d < 64) : unf [ltr a, ltr b, ltr c, ltr d] = [UInt8.ofNat ((((a * 64 + b) * 64 + c) * 64 + d) / 65536), UInt8.ofNat ((((a * 64 + b) * 64 + c) * 64 + d) / 256), UInt8.ofNat (((a * 64 + b) * 64 + c) * 64 + d)] := by
  have e : ubs [ltr a, ltr b, ltr c, ltr d] = ((a * 64 + b) * 64 + c) * 64 + d := by
    show (((0 * 64 + lv (ltr a)) * 64 + lv (ltr b)) * 64 + lv (ltr c)) * 64 + lv (ltr d) = _
    rw [lv_ltr ha, lv_ltr hb, lv_ltr hc, lv_ltr hd]; omega
  have n : ucn [ltr a, ltr b, ltr c, ltr d] = 4 := by
    unfold ucn
    simp [ltr_ne61 a ha, ltr_ne61 b hb, ltr_ne61 c hc, ltr_ne61 d hd]
  unfold unf
  rw [e, n]; rfl
theorem unf_2 {a b c : Nat} (ha : a < 64) (hb : b < 64) (hc : c < 64) : unf [ltr a, ltr b, ltr c, 61] = [UInt8.ofNat (((a * 64 + b) * 64 + c) * 64 / 65536), UInt8.ofNat (((a * 64 + b) * 64 + c) * 64 / 256)] := by
  have e : ubs [ltr a, ltr b, ltr c, 61] = ((a * 64 + b) * 64 + c) * 64 := by
    show (((0 * 64 + lv (ltr a)) * 64 + lv (ltr b)) * 64 + lv (ltr c)) * 64 + lv 61 = _
    rw [lv_ltr ha, lv_ltr hb, lv_ltr hc, lv_61]; omega
  have n : ucn [ltr a, ltr b, ltr c, 61] = 3 := by
    unfold ucn
    simp [ltr_ne61 a ha, ltr_ne61 b hb, ltr_ne61 c hc]
  unfold unf
  rw [e, n]; rfl
theorem unf_1 {a b : Nat} (ha : a < 64) (hb : b < 64) : unf [ltr a, ltr b, 61, 61] = [UInt8.ofNat ((a * 64 + b) * 4096 / 65536)] := by
  have e : ubs [ltr a, ltr b, 61, 61] = (a * 64 + b) * 4096 := by
    show (((0 * 64 + lv (ltr a)) * 64 + lv (ltr b)) * 64 + lv 61) * 64 + lv 61 = _
    rw [lv_ltr ha, lv_ltr hb, lv_61]; omega
  have n : ucn [ltr a, ltr b, 61, 61] = 2 := by
    unfold ucn
    simp [ltr_ne61 a ha, ltr_ne61 b hb]
  unfold unf
  rw [e, n]; rfl

theorem rdb_pd4 : ∀ x : List UInt8, pca 4 (fun p => unf (fil p)) (pd4 ((sxs x).map ltr)) = x
  | [] => pca_nil (by omega) _
  | [x] => by
    have := x.toNat_lt
    rw [sxs_1, show pd4 ([x.toNat / 4, x.toNat % 4 * 16].map ltr) = [ltr (x.toNat / 4), ltr (x.toNat % 4 * 16), 61, 61] from rfl, pca_cons (by omega) _ (by simp)]
    show unf [ltr (x.toNat / 4), ltr (x.toNat % 4 * 16), 61, 61] ++ pca 4 _ [] = _
    rw [pca_nil (by omega), unf_1 (by omega) (by omega), byte_of (x := x) (by omega)]; rfl
  | [x, y] => by
    have := x.toNat_lt
    have := y.toNat_lt
    rw [sxs_2, show pd4 ([x.toNat / 4, x.toNat % 4 * 16 + y.toNat / 16, y.toNat % 16 * 4].map ltr) = [ltr (x.toNat / 4), ltr (x.toNat % 4 * 16 + y.toNat / 16), ltr (y.toNat % 16 * 4), 61] from rfl, pca_cons (by omega) _ (by simp)]
    show unf [ltr (x.toNat / 4), ltr (x.toNat % 4 * 16 + y.toNat / 16), ltr (y.toNat % 16 * 4), 61] ++ pca 4 _ [] = _
    rw [pca_nil (by omega), unf_2 (by omega) (by omega) (by omega), byte_of (x := x) (by omega), byte_of (x := y) (by omega)]; rfl
  | x :: y :: z :: r => by
    have := x.toNat_lt
    have := y.toNat_lt
    have := z.toNat_lt
    have ih := rdb_pd4 r
    rw [sxs_3]
    simp only [List.map_cons]
    rw [pd4_four, pca_cons (by omega) _ (by simp)]
    show unf [ltr (x.toNat / 4), ltr (x.toNat % 4 * 16 + y.toNat / 16), ltr (y.toNat % 16 * 4 + z.toNat / 64), ltr (z.toNat % 64)] ++ pca 4 _ (pd4 ((sxs r).map ltr)) = _
    rw [ih, unf_3 (by omega) (by omega) (by omega) (by omega), byte_of (x := x) (by omega), byte_of (x := y) (by omega), byte_of (x := z) (by omega)]; rfl

theorem rdb_ltrs (x : List UInt8) : rdb (ltrs x) = x := by
  unfold rdb no10 ltrs
  rw [lnz_10 _ (pd4_10 x), rdb_pd4]
/-- BOTH WAYS GIVE THE SAME. -/
theorem dcd_byo (s : List UInt8) : dcd s = byo s := by
  cases h : byo s with
  | some x =>
    obtain ⟨h1, h2⟩ := byo_some h
    unfold dcd
    rw [← h1, rdb_ltrs, if_neg (fun a => a.elim (by omega) (fun b => b rfl))]
  | none =>
    unfold dcd
    split
    · rfl
    · rename_i n
      have h3 : ltrs (rdb s) = s := Classical.byContradiction fun x => n (Or.inr x)
      have := byo_iff.2 (⟨h3, by omega⟩ : ltrs (rdb s) = s ∧ (rdb s).length ≤ 40000)
      rw [h] at this; cases this

/-- How many bytes come of a text. -/
theorem unf_le (q : List UInt8) : (unf q).length ≤ 3 := by unfold unf; rw [List.length_take]; exact Nat.min_le_right _ _

end Go.Proofs.YtppmpofdhkgjmafDoor.Dist
