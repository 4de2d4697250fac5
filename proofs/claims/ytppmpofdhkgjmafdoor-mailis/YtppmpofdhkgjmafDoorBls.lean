/-
  Plain mathematics: bytes as letters of six bits, in lines of 76; letters as bytes.
-/
import Derived.Test.YtppmpofdhkgjmafDoorPlain

namespace Go.Proofs.YtppmpofdhkgjmafDoor.Dist

/-- The letters. -/
def abc : List UInt8 := [65, 66, 67, 68, 69, 70, 71, 72, 73, 74, 75, 76, 77, 78, 79, 80, 81, 82, 83, 84, 85, 86, 87, 88, 89, 90, 97, 98, 99, 100, 101, 102, 103, 104, 105, 106, 107, 108, 109, 110, 111, 112, 113, 114, 115, 116, 117, 118, 119, 120, 121, 122, 48, 49, 50, 51, 52, 53, 54, 55, 56, 57, 43, 47]
def ltr (n : Nat) : UInt8 := abc.getD n 0
theorem ltr_idx : ∀ n, n < 64 → abc.idxOf (ltr n) = n := by decide
theorem ltr_ne61 : ∀ n, n < 64 → ltr n ≠ 61 := by decide
theorem ltr_ne10 : ∀ n, n < 64 → ltr n ≠ 10 := by decide
theorem idx_le (c : UInt8) : abc.idxOf c ≤ 64 := List.idxOf_le_length

/-- A bit of bytes, the high ones first; six of them; all of them by sixes. -/
def bt (b : List UInt8) (k : Nat) : Nat := if k < b.length * 8 then (b.getD (k / 8) 0).toNat / 2 ^ (7 - k % 8) % 2 else 0
def six (b : List UInt8) (i : Nat) : Nat := ((((bt b i * 2 + bt b (i + 1)) * 2 + bt b (i + 2)) * 2 + bt b (i + 3)) * 2 + bt b (i + 4)) * 2 + bt b (i + 5)
def sxs (b : List UInt8) : List Nat := (List.range ((b.length * 8 + 5) / 6)).map fun j => six b (6 * j)

theorem bt_le (b : List UInt8) (k : Nat) : bt b k ≤ 1 := by unfold bt; split <;> omega
theorem six_lt (b : List UInt8) (i : Nat) : six b i < 64 := by
  have h0 := bt_le b i
  have h1 := bt_le b (i + 1)
  have h2 := bt_le b (i + 2)
  have h3 := bt_le b (i + 3)
  have h4 := bt_le b (i + 4)
  have h5 := bt_le b (i + 5)
  unfold six; omega

/-- Three bytes ahead are 24 bits ahead. -/
theorem bt_cons3 (x y z : UInt8) (r : List UInt8) (k : Nat) : bt (x :: y :: z :: r) (k + 24) = bt r k := by
  unfold bt
  rw [show (k + 24) / 8 = k / 8 + 1 + 1 + 1 by omega, show (k + 24) % 8 = k % 8 by omega, List.getD_cons_succ, List.getD_cons_succ, List.getD_cons_succ]
  by_cases h : k < r.length * 8
  · rw [if_pos h, if_pos (by simp only [List.length_cons]; omega)]
  · rw [if_neg h, if_neg (by simp only [List.length_cons]; omega)]
theorem six_cons3 (x y z : UInt8) (r : List UInt8) (k : Nat) : six (x :: y :: z :: r) (k + 24) = six r k := by
  unfold six
  rw [show k + 24 + 1 = (k + 1) + 24 by omega, show k + 24 + 2 = (k + 2) + 24 by omega, show k + 24 + 3 = (k + 3) + 24 by omega, show k + 24 + 4 = (k + 4) + 24 by omega, show k + 24 + 5 = (k + 5) + 24 by omega]
  simp only [bt_cons3]

/-- The first byte's bits, the second's, the third's. -/
theorem bt_0 (x : UInt8) (r : List UInt8) {k : Nat} (h : k < 8) : bt (x :: r) k = x.toNat / 2 ^ (7 - k) % 2 := by
  unfold bt
  rw [if_pos (by simp only [List.length_cons]; omega), show k / 8 = 0 by omega, show k % 8 = k by omega]; rfl
theorem bt_1 (x y : UInt8) (r : List UInt8) {k : Nat} (h : k < 8) : bt (x :: y :: r) (8 + k) = y.toNat / 2 ^ (7 - k) % 2 := by
  unfold bt
  rw [if_pos (by simp only [List.length_cons]; omega), show (8 + k) / 8 = 1 by omega, show (8 + k) % 8 = k by omega]; rfl
theorem bt_2 (x y z : UInt8) (r : List UInt8) {k : Nat} (h : k < 8) : bt (x :: y :: z :: r) (16 + k) = z.toNat / 2 ^ (7 - k) % 2 := by
  unfold bt
  rw [if_pos (by simp only [List.length_cons]; omega), show (16 + k) / 8 = 2 by omega, show (16 + k) % 8 = k by omega]; rfl
theorem bt_out {b : List UInt8} {k : Nat} (h : b.length * 8 ≤ k) : bt b k = 0 := by
  unfold bt; rw [if_neg (by omega)]

/-- By sixes: out of one byte, two, three. -/
theorem dbl (x k : Nat) : x / 2 ^ (k + 1) * 2 + x / 2 ^ k % 2 = x / 2 ^ k := by
  rw [Nat.pow_succ, ← Nat.div_div_eq_div_mul]; omega
theorem six_0 (x : UInt8) (r : List UInt8) : six (x :: r) 0 = x.toNat / 4 := by
  have h := x.toNat_lt
  have e0 := bt_0 x r (k := 0) (by omega)
  have e1 := bt_0 x r (k := 1) (by omega)
  have e2 := bt_0 x r (k := 2) (by omega)
  have e3 := bt_0 x r (k := 3) (by omega)
  have e4 := bt_0 x r (k := 4) (by omega)
  have e5 := bt_0 x r (k := 5) (by omega)
  have e : x.toNat / 2 ^ 7 % 2 = x.toNat / 2 ^ 7 := by
    simp only [Nat.reducePow]; omega
  unfold six
  simp only [Nat.zero_add]
  rw [e0, e1, e2, e3, e4, e5]
  simp only [Nat.reduceSub]
  rw [e, dbl _ 6, dbl _ 5, dbl _ 4, dbl _ 3, dbl _ 2]
theorem six_6 (x y : UInt8) (r : List UInt8) : six (x :: y :: r) 6 = x.toNat % 4 * 16 + y.toNat / 16 := by
  have := x.toNat_lt
  have := y.toNat_lt
  have e0 := bt_0 x (y :: r) (k := 6) (by omega)
  have e1 := bt_0 x (y :: r) (k := 7) (by omega)
  have e2 := bt_1 x y r (k := 0) (by omega)
  have e3 := bt_1 x y r (k := 1) (by omega)
  have e4 := bt_1 x y r (k := 2) (by omega)
  have e5 := bt_1 x y r (k := 3) (by omega)
  unfold six
  simp only [Nat.reduceAdd] at *
  rw [e0, e1, e2, e3, e4, e5]
  simp only [Nat.reduceSub, Nat.reducePow]
  omega
theorem six_6' (x : UInt8) : six [x] 6 = x.toNat % 4 * 16 := by
  have := x.toNat_lt
  have e0 := bt_0 x [] (k := 6) (by omega)
  have e1 := bt_0 x [] (k := 7) (by omega)
  have o : ∀ k, 8 ≤ k → bt [x] k = 0 := fun k h => bt_out (by simpa using h)
  unfold six
  simp only [Nat.reduceAdd]
  rw [e0, e1, o 8 (by omega), o 9 (by omega), o 10 (by omega), o 11 (by omega)]
  simp only [Nat.reduceSub, Nat.reducePow]
  omega
theorem six_12 (x y z : UInt8) (r : List UInt8) : six (x :: y :: z :: r) 12 = y.toNat % 16 * 4 + z.toNat / 64 := by
  have := y.toNat_lt
  have := z.toNat_lt
  have e0 := bt_1 x y (z :: r) (k := 4) (by omega)
  have e1 := bt_1 x y (z :: r) (k := 5) (by omega)
  have e2 := bt_1 x y (z :: r) (k := 6) (by omega)
  have e3 := bt_1 x y (z :: r) (k := 7) (by omega)
  have e4 := bt_2 x y z r (k := 0) (by omega)
  have e5 := bt_2 x y z r (k := 1) (by omega)
  unfold six
  simp only [Nat.reduceAdd] at *
  rw [e0, e1, e2, e3, e4, e5]
  simp only [Nat.reduceSub, Nat.reducePow]
  omega
theorem six_12' (x y : UInt8) : six [x, y] 12 = y.toNat % 16 * 4 := by
  have := y.toNat_lt
  have e0 := bt_1 x y [] (k := 4) (by omega)
  have e1 := bt_1 x y [] (k := 5) (by omega)
  have e2 := bt_1 x y [] (k := 6) (by omega)
  have e3 := bt_1 x y [] (k := 7) (by omega)
  have o : ∀ k, 16 ≤ k → bt [x, y] k = 0 := fun k h => bt_out (by simpa using h)
  unfold six
  simp only [Nat.reduceAdd] at *
  rw [e0, e1, e2, e3, o 16 (by omega), o 17 (by omega)]
  simp only [Nat.reduceSub, Nat.reducePow]
  omega
theorem low6 (z : Nat) : ((((z / 32 % 2 * 2 + z / 16 % 2) * 2 + z / 8 % 2) * 2 + z / 4 % 2) * 2 + z / 2 % 2) * 2 + z / 1 % 2 = z % 64 := by
  have h1 : (z / 32 % 2 * 2 + z / 16 % 2) * 2 + z / 8 % 2 = z / 8 % 8 := by omega
  have h2 : (z / 4 % 2 * 2 + z / 2 % 2) * 2 + z / 1 % 2 = z % 8 := by omega
  omega
theorem six_18 (x y z : UInt8) (r : List UInt8) : six (x :: y :: z :: r) 18 = z.toNat % 64 := by
  have e0 := bt_2 x y z r (k := 2) (by omega)
  have e1 := bt_2 x y z r (k := 3) (by omega)
  have e2 := bt_2 x y z r (k := 4) (by omega)
  have e3 := bt_2 x y z r (k := 5) (by omega)
  have e4 := bt_2 x y z r (k := 6) (by omega)
  have e5 := bt_2 x y z r (k := 7) (by omega)
  unfold six
  simp only [Nat.reduceAdd] at *
  rw [e0, e1, e2, e3, e4, e5]
  simp only [Nat.reduceSub, Nat.reducePow]
  exact low6 _

theorem sxs_nil : sxs [] = [] := rfl
theorem sxs_1 (x : UInt8) : sxs [x] = [x.toNat / 4, x.toNat % 4 * 16] := by
  unfold sxs
  rw [show (([x] : List UInt8).length * 8 + 5) / 6 = 2 by simp]
  show [six [x] 0, six [x] 6] = _
  rw [six_0, six_6']
theorem sxs_2 (x y : UInt8) : sxs [x, y] = [x.toNat / 4, x.toNat % 4 * 16 + y.toNat / 16, y.toNat % 16 * 4] := by
  unfold sxs
  rw [show (([x, y] : List UInt8).length * 8 + 5) / 6 = 3 by simp]
  show [six [x, y] 0, six [x, y] 6, six [x, y] 12] = _
  rw [six_0, six_6, six_12']
theorem sxs_3 (x y z : UInt8) (r : List UInt8) : sxs (x :: y :: z :: r) = x.toNat / 4 :: (x.toNat % 4 * 16 + y.toNat / 16) :: (y.toNat % 16 * 4 + z.toNat / 64) :: z.toNat % 64 :: sxs r := by
  unfold sxs
  rw [show ((x :: y :: z :: r).length * 8 + 5) / 6 = 4 + (r.length * 8 + 5) / 6 by simp only [List.length_cons]; omega, List.range_add, List.map_append, List.map_map]
  show six _ 0 :: six _ 6 :: six _ 12 :: six _ 18 :: _ = _
  rw [six_0, six_6, six_12, six_18]
  refine congrArg (fun t => x.toNat / 4 :: (x.toNat % 4 * 16 + y.toNat / 16) :: (y.toNat % 16 * 4 + z.toNat / 64) :: z.toNat % 64 :: t) ?_
  refine List.map_congr_left fun j _ => ?_
  show six _ (6 * (4 + j)) = six r (6 * j)
  rw [show 6 * (4 + j) = 6 * j + 24 by omega, six_cons3]

/-- Up to four; in lines. -/
def pd4 (s : List UInt8) : List UInt8 := s ++ List.replicate ((4 - s.length % 4) % 4) 61
def lnzF : Nat → List UInt8 → List UInt8
  | 0, s => if 0 < s.length then s ++ [10] else []
  | k + 1, s => if 76 < s.length then s.take 76 ++ 10 :: lnzF k (s.drop 76) else if 0 < s.length then s ++ [10] else []
def lnz (s : List UInt8) : List UInt8 := lnzF s.length s
theorem lnzF_more : ∀ (k : Nat) (s : List UInt8) (n : Nat), s.length ≤ k → s.length ≤ n → lnzF k s = lnzF n s
  | 0, s, 0, _, _ => rfl
  | 0, s, n + 1, h, _ => by
    have h0 : s.length = 0 := by omega
    rw [lnzF, lnzF, if_neg (show ¬ 76 < s.length by omega)]
  | k + 1, s, 0, _, h => by
    have h0 : s.length = 0 := by omega
    rw [lnzF, lnzF, if_neg (show ¬ 76 < s.length by omega)]
  | k + 1, s, n + 1, h1, h2 => by
    rw [lnzF, lnzF]
    by_cases h : 76 < s.length
    · rw [if_pos h, if_pos h, lnzF_more k (s.drop 76) n (by rw [List.length_drop]; omega) (by rw [List.length_drop]; omega)]
    · rw [if_neg h, if_neg h]
theorem lnz_eq (s : List UInt8) : lnz s = if 76 < s.length then s.take 76 ++ 10 :: lnz (s.drop 76) else if 0 < s.length then s ++ [10] else [] := by
  unfold lnz
  rw [lnzF_more s.length s (s.length + 1) (Nat.le_refl _) (by omega), lnzF]
  by_cases h : 76 < s.length
  · rw [if_pos h, if_pos h, lnzF_more s.length (s.drop 76) (s.drop 76).length (by rw [List.length_drop]; omega) (Nat.le_refl _)]
  · rw [if_neg h, if_neg h]
/-- The bytes as letters. -/
def ltrs (b : List UInt8) : List UInt8 := lnz (pd4 ((sxs b).map ltr))

/-- Letters as bytes: what is carried, how many bits of it are new. -/
def ltd : List UInt8 → Nat → Nat → List UInt8 → Option (List UInt8)
  | [], _, _, out => some out
  | c :: r, n, m, out =>
    if c = 61 then some out
    else if c = 10 then ltd r n m out
    else if abc.idxOf c = 64 then none
    else if 8 ≤ m + 6 then ltd r ((n * 64 + abc.idxOf c) % 16777216) (m + 6 - 8) (out ++ [UInt8.ofNat ((n * 64 + abc.idxOf c) % 16777216 / 2 ^ (m + 6 - 8))])
    else ltd r ((n * 64 + abc.idxOf c) % 16777216) (m + 6) out

theorem ltd_10 : ∀ (s : List UInt8) (n m : Nat) (out : List UInt8), ltd s n m out = ltd (s.filter fun c => c != 10) n m out
  | [], _, _, _ => rfl
  | c :: r, n, m, out => by
    by_cases h : c = 10
    · rw [List.filter_cons_of_neg (by simp [h]), ltd, if_neg (by rw [h]; decide), if_pos h]
      exact ltd_10 r n m out
    · rw [List.filter_cons_of_pos (by simp [h]), ltd, ltd]
      simp only [ltd_10 r]

theorem lnz_10 (s : List UInt8) (h : 10 ∉ s) : (lnz s).filter (fun c => c != 10) = s := by
  have keep : ∀ t : List UInt8, 10 ∉ t → t.filter (fun c => c != 10) = t := fun t ht => List.filter_eq_self.2 fun c hc => by
    have : c ≠ 10 := fun e => ht (e ▸ hc)
    simp [this]
  have all : ∀ (n : Nat) (s : List UInt8), s.length ≤ n → 10 ∉ s → (lnz s).filter (fun c => c != 10) = s := by
    intro n
    induction n with
    | zero =>
      intro s hn _
      have : s = [] := List.length_eq_zero_iff.1 (by omega)
      rw [this]; rfl
    | succ n ih =>
      intro s hn h
      rw [lnz_eq]
      by_cases a : 76 < s.length
      · rw [if_pos a, List.filter_append, List.filter_cons_of_neg (by simp), ih (s.drop 76) (by rw [List.length_drop]; omega) (fun x => h (List.mem_of_mem_drop x)), keep _ (fun x => h (List.mem_of_mem_take x)), List.take_append_drop]
      · rw [if_neg a]
        by_cases b : 0 < s.length
        · rw [if_pos b, List.filter_append, keep s h]; simp
        · rw [if_neg b]
          have : s = [] := List.length_eq_zero_iff.1 (by omega)
          rw [this]; rfl
  exact all s.length s (Nat.le_refl _) h

/-- A letter is read. -/
theorem ltd_few (r : List UInt8) {k n m : Nat} (hk : k < 64) (hm : m < 2) (out : List UInt8) : ltd (ltr k :: r) n m out = ltd r ((n * 64 + k) % 16777216) (m + 6) out := by
  rw [ltd, if_neg (ltr_ne61 k hk), if_neg (ltr_ne10 k hk), ltr_idx k hk, if_neg (by omega), if_neg (by omega)]
theorem ltd_byte (r : List UInt8) {k n m : Nat} (hk : k < 64) (hm : 2 ≤ m) (out : List UInt8) : ltd (ltr k :: r) n m out = ltd r ((n * 64 + k) % 16777216) (m + 6 - 8) (out ++ [UInt8.ofNat ((n * 64 + k) % 16777216 / 2 ^ (m + 6 - 8))]) := by
  rw [ltd, if_neg (ltr_ne61 k hk), if_neg (ltr_ne10 k hk), ltr_idx k hk, if_neg (by omega), if_pos (by omega)]
theorem ltd_eq (p n m : Nat) (out : List UInt8) : ltd (List.replicate p 61) n m out = some out := by
  cases p with
  | zero => rfl
  | succ p => rw [List.replicate_succ, ltd, if_pos rfl]

theorem byte_of {x : UInt8} {n : Nat} (h : n % 256 = x.toNat) : UInt8.ofNat n = x := by
  apply UInt8.toNat_inj.1
  rw [UInt8.toNat_ofNat']
  exact h

theorem t4 (N a b : Nat) : ((N * 64 + a) % 16777216 * 64 + b) % 16777216 / 16 % 256 = (a * 64 + b) / 16 % 256 := by omega
theorem t2 (N a b : Nat) : ((N * 64 + a) % 16777216 * 64 + b) % 16777216 / 4 % 256 = (a * 64 + b) / 4 % 256 := by omega
theorem t0 (N a b : Nat) : ((N * 64 + a) % 16777216 * 64 + b) % 16777216 / 1 % 256 = (a * 64 + b) % 256 := by omega

/-- What was written is read. -/
theorem ltd_sxs : ∀ (b : List UInt8) (p n : Nat) (out : List UInt8), ltd ((sxs b).map ltr ++ List.replicate p 61) n 0 out = some (out ++ b)
  | [], p, n, out => by
    rw [sxs_nil, List.append_nil]; exact ltd_eq p n 0 out
  | [x], p, n, out => by
    have := x.toNat_lt
    rw [sxs_1]
    show ltd (ltr _ :: ltr _ :: List.replicate p 61) n 0 out = _
    rw [ltd_few _ (by omega) (by omega), ltd_byte _ (by omega) (by omega), ltd_eq]
    rw [byte_of (x := x)]
    show _ / 16 % 256 = x.toNat
    rw [t4]; omega
  | [x, y], p, n, out => by
    have := x.toNat_lt
    have := y.toNat_lt
    rw [sxs_2]
    show ltd (ltr _ :: ltr _ :: ltr _ :: List.replicate p 61) n 0 out = _
    rw [ltd_few _ (by omega) (by omega), ltd_byte _ (by omega) (by omega), ltd_byte _ (by omega) (by omega), ltd_eq]
    rw [byte_of (x := x) (by show _ / 16 % 256 = x.toNat; rw [t4]; omega), byte_of (x := y) (by show _ / 4 % 256 = y.toNat; rw [t2]; omega), List.append_assoc]; rfl
  | x :: y :: z :: r, p, n, out => by
    have := x.toNat_lt
    have := y.toNat_lt
    have := z.toNat_lt
    have hr := ltd_sxs r p
    rw [sxs_3, List.map_cons, List.map_cons, List.map_cons, List.map_cons, List.cons_append, List.cons_append, List.cons_append, List.cons_append]
    rw [ltd_few _ (by omega) (by omega), ltd_byte _ (by omega) (by omega), ltd_byte _ (by omega) (by omega), ltd_byte _ (by omega) (by omega)]
    rw [byte_of (x := x) (by show _ / 16 % 256 = x.toNat; rw [t4]; omega), byte_of (x := y) (by show _ / 4 % 256 = y.toNat; rw [t2]; omega), byte_of (x := z) (by show _ / 1 % 256 = z.toNat; rw [t0]; omega)]
    rw [show 0 + 6 + 6 - 8 + 6 - 8 + 6 - 8 = 0 from rfl, hr]
    simp

theorem sxs_lt {b : List UInt8} {v : Nat} (h : v ∈ sxs b) : v < 64 := by
  obtain ⟨j, _, rfl⟩ := List.mem_map.1 h
  exact six_lt b _
theorem sxs_len (b : List UInt8) : (sxs b).length = (b.length * 8 + 5) / 6 := by simp [sxs]
theorem pd4_10 (b : List UInt8) : 10 ∉ pd4 ((sxs b).map ltr) := by
  intro h
  unfold pd4 at h
  rcases List.mem_append.1 h with h | h
  · obtain ⟨v, hv, e⟩ := List.mem_map.1 h
    exact ltr_ne10 v (sxs_lt hv) e
  · have := (List.mem_replicate.1 h).2
    exact absurd this (by decide)

/-- WHAT IS WRITTEN IS READ. -/
theorem ltd_ltrs (b : List UInt8) : ltd (ltrs b) 0 0 [] = some b := by
  unfold ltrs
  rw [ltd_10, lnz_10 _ (pd4_10 b)]
  unfold pd4
  rw [ltd_sxs, List.nil_append]

/-- How long. -/
theorem pd4_len (s : List UInt8) : (pd4 s).length = (s.length + 3) / 4 * 4 := by
  unfold pd4
  rw [List.length_append, List.length_replicate]; omega
theorem lnz_len (s : List UInt8) : (lnz s).length = s.length + (s.length + 75) / 76 := by
  have all : ∀ (n : Nat) (s : List UInt8), s.length ≤ n → (lnz s).length = s.length + (s.length + 75) / 76 := by
    intro n
    induction n with
    | zero =>
      intro s hn
      have : s = [] := List.length_eq_zero_iff.1 (by omega)
      rw [this]; rfl
    | succ n ih =>
      intro s hn
      rw [lnz_eq]
      by_cases a : 76 < s.length
      · rw [if_pos a, List.length_append, List.length_cons, ih (s.drop 76) (by rw [List.length_drop]; omega), List.length_take, List.length_drop]; omega
      · rw [if_neg a]
        by_cases b : 0 < s.length
        · rw [if_pos b, List.length_append, List.length_singleton]; omega
        · rw [if_neg b, List.length_nil]; omega
  exact all s.length s (Nat.le_refl _)
theorem ltrs_len (b : List UInt8) : (ltrs b).length = (b.length + 2) / 3 * 4 + ((b.length + 2) / 3 * 4 + 75) / 76 := by
  unfold ltrs
  rw [lnz_len, pd4_len, List.length_map, sxs_len, show ((b.length * 8 + 5) / 6 + 3) / 4 * 4 = (b.length + 2) / 3 * 4 by omega]

/-- The document's: letters as bytes, of just such a text. -/
def byo (s : List UInt8) : Option (List UInt8) :=
  if 60000 < s.length then none else match ltd s 0 0 [] with
    | none => none
    | some x => if 40000 < x.length ∨ ltrs x ≠ s then none else some x
theorem byo_ltrs {b : List UInt8} (h : b.length ≤ 40000) : byo (ltrs b) = some b := by
  unfold byo
  rw [if_neg (by rw [ltrs_len]; omega), ltd_ltrs]
  show (if 40000 < b.length ∨ ltrs b ≠ ltrs b then none else some b) = some b
  rw [if_neg (fun x => x.elim (by omega) (fun y => y rfl))]
theorem byo_some {s x : List UInt8} (h : byo s = some x) : ltrs x = s ∧ x.length ≤ 40000 := by
  unfold byo at h
  split at h
  · exact absurd h (by simp)
  · split at h
    · exact absurd h (by simp)
    · split at h
      · exact absurd h (by simp)
      · rename_i n
        cases h
        exact ⟨Classical.byContradiction fun x => n (Or.inr x), by omega⟩
/-- It is one text just where it is read. -/
theorem byo_iff {s x : List UInt8} : byo s = some x ↔ ltrs x = s ∧ x.length ≤ 40000 :=
  ⟨byo_some, fun h => h.1 ▸ byo_ltrs h.2⟩

/-- Whole threes ahead are letters ahead; 57 bytes ahead a line. -/
theorem sxs_app : ∀ (m b : List UInt8), m.length % 3 = 0 → sxs (m ++ b) = sxs m ++ sxs b
  | [], b, _ => by rw [sxs_nil]; rfl
  | [_], _, h => absurd h (by simp)
  | [_, _], _, h => absurd h (by simp)
  | x :: y :: z :: r, b, h => by
    have := sxs_app r b (by simp only [List.length_cons] at h; omega)
    rw [sxs_3, show x :: y :: z :: r ++ b = x :: y :: z :: (r ++ b) from rfl, sxs_3, this]; rfl
theorem lnz_line {l s : List UInt8} (h : l.length = 76) : lnz (l ++ s) = l ++ 10 :: lnz s := by
  cases s with
  | nil =>
    rw [List.append_nil, lnz_eq, if_neg (by omega), if_pos (by omega), lnz_eq, if_neg (by simp), if_neg (by simp)]
  | cons c r =>
    rw [lnz_eq, if_pos (by rw [List.length_append, List.length_cons]; omega), List.take_left' h, List.drop_left' h]
theorem ltrs_more {m b : List UInt8} (h : m.length = 57) : ltrs (m ++ b) = ltrs m ++ ltrs b := by
  have hl : ((sxs m).map ltr).length = 76 := by rw [List.length_map, sxs_len, h]
  have e : pd4 ((sxs m).map ltr) = (sxs m).map ltr := by unfold pd4; rw [hl]; simp
  have e2 : pd4 ((sxs (m ++ b)).map ltr) = (sxs m).map ltr ++ pd4 ((sxs b).map ltr) := by
    unfold pd4
    rw [sxs_app m b (by rw [h]), List.map_append, List.length_append, hl, List.append_assoc, show (76 + ((sxs b).map ltr).length) % 4 = ((sxs b).map ltr).length % 4 by omega]
  have e3 := lnz_line (l := (sxs m).map ltr) (s := []) hl
  unfold ltrs
  rw [e2, e, lnz_line hl]
  rw [List.append_nil] at e3
  have e4 : lnz [] = [] := by rw [lnz_eq]; simp
  rw [e3, e4, List.append_assoc]; rfl

end Go.Proofs.YtppmpofdhkgjmafDoor.Dist
