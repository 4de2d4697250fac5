/-
  Walk of the document's own table: of each two places how many lines, from there on, can be kept at the most. Walks of the document's own answers for two files: how far it is, and the script. Scripts that edit.Script and the document's own answer make, once more: each with room for its marks. Contracts in one form, fault or none: hunk.Turn, hunk.Cut, hunk.Make. Walk of the law ApplyMakes: it returns true and writes nothing that was there.
-/
import Derived.Test.YtmidbhikhbbpbacGreatDoorXh
import Derived.Test.YtmidbhikhbbpbacGreatDoorTurn
import Derived.Test.YtmidbhikhbbpbacGreatDoorHsame
import Derived.Test.YtmidbhikhbbpbacGreatDoorStrict
namespace Go.Proofs.YtmidbhikhbbpbacGreatDoor
open Go.RowKit Dist

/-- A row of numbers in memory. -/
def Row (w : World) (R n : Nat) (f : Nat → Int) : Prop :=
  ∃ rs : Array Value, w.heap[R]? = some (.cells rs 3 (0, 0)) ∧ rs.size = n + 1 ∧ ∀ k, k ≤ n → rs[k]? = some (.int .i64 (f k))

theorem Row.cell {w : World} {R n : Nat} {f : Nat → Int} (h : Row w R n f) {k : Nat} (hk : k ≤ n) : w.cell? ⟨R, k, none⟩ = some (.int .i64 (f k)) := by
  obtain ⟨rs, hb, _, hat⟩ := h
  rw [Lib.cell_of_heap hb]; exact hat k hk

theorem Row.frozen {w : World} {R n : Nat} {f : Nat → Int} (h : Row w R n f) (k : Nat) : w.frozen? ⟨R, k, none⟩ = false := by
  obtain ⟨rs, hb, _, _⟩ := h
  exact Lib.frozen_of_heap hb k

theorem Row.congr {w : World} {R n : Nat} {f g : Nat → Int} (h : Row w R n f) (e : ∀ k, k ≤ n → f k = g k) : Row w R n g := by
  obtain ⟨rs, hb, hs, hat⟩ := h
  exact ⟨rs, hb, hs, fun k hk => by rw [← e k hk]; exact hat k hk⟩

theorem Row.below {w w' : World} {R n : Nat} {f : Nat → Int} (h : Row w R n f) {U : Nat} (hb : Below U w w') (hR : R < U) : Row w' R n f := by
  obtain ⟨rs, hh, hs, hat⟩ := h
  exact ⟨rs, blk_below hb hR hh, hs, hat⟩

theorem Row.drawn {w : World} {R n : Nat} {f : Nat → Int} (h : Row w R n f) (q : Nat) : Row (w.drewN q) R n f := h

theorem Row.set {w : World} {R n : Nat} {f : Nat → Int} (h : Row w R n f) {j : Nat} (hj : j ≤ n) (u : Int) : Row (w.setCell ⟨R, j, none⟩ (.int .i64 u)) R n (fun k => if k = j then u else f k) := by
  obtain ⟨rs, hb, hs, hat⟩ := h
  refine ⟨_, blk_set hb _, by simpa using hs, fun k hk => ?_⟩
  by_cases e : k = j
  · subst e
    rw [Array.getElem?_setIfInBounds_self_of_lt (by omega)]
    simp
  · rw [Array.getElem?_setIfInBounds_ne (Ne.symm e), hat k hk]
    simp [e]

theorem Row.other {w : World} {R n : Nat} {f : Nat → Int} (h : Row w R n f) {B : Nat} (hB : B ≠ R) (i : Nat) (v : Value) : Row (w.setCell ⟨B, i, none⟩ v) R n f := by
  obtain ⟨rs, hb, h2⟩ := h
  have e : (w.setCell ⟨B, i, none⟩ v).heap[R]? = w.heap[R]? := by
    simp only [World.setCell, Array.getElem?_modify]
    rw [if_neg hB]
  exact ⟨rs, by rw [e]; exact hb, h2⟩

theorem com_end {xs ys : List ByteArray} {i j : Nat} (h : i = xs.length ∨ j = ys.length) : com (xs.drop i) (ys.drop j) = 0 := by
  rcases h with h | h
  · rw [h, List.drop_of_length_le (Nat.le_refl _), com_nil]
  · rw [h, List.drop_of_length_le (Nat.le_refl _), com_nil']

theorem com_in {xs ys : List ByteArray} {i j : Nat} (hi : i < xs.length) (hj : j < ys.length) :
    com (xs.drop i) (ys.drop j) = if xs.getD i ByteArray.empty = ys.getD j ByteArray.empty then max (com (xs.drop (i + 1)) (ys.drop (j + 1)) + 1) (max (com (xs.drop (i + 1)) (ys.drop j)) (com (xs.drop i) (ys.drop (j + 1))))
      else max (com (xs.drop (i + 1)) (ys.drop j)) (com (xs.drop i) (ys.drop (j + 1))) := by
  conv => lhs; rw [drop_at hi, drop_at hj, com_cons]
  rw [← drop_at hi, ← drop_at hj]

theorem com_le {a b : List ByteArray} : com a b ≤ a.length := by
  have h1 := com_dist a b
  have h2 := dist_big a b
  omega

theorem made_at (z : Value) (n k : Nat) (hk : k < n) : (madeCells #[z] n)[k]? = some z := by
  have hs : (madeCells #[z] n).size = n := by simp [madeCells]
  rw [Array.getElem?_eq_getElem (by omega)]
  simp [madeCells, Nat.mod_one]

end Go.Proofs.YtmidbhikhbbpbacGreatDoor
namespace Go.Proofs.YtmidbhikhbbpbacGreatDoor
open Go.RowKit Dist

/-- What the document's script does next. -/
theorem ref_cases {xs ys : List ByteArray} {i j : Nat} (hi : i ≤ xs.length) (hj : j ≤ ys.length) (h : i < xs.length ∨ j < ys.length) :
    (i < xs.length ∧ j < ys.length ∧ xs.getD i ByteArray.empty = ys.getD j ByteArray.empty ∧ com (xs.drop (i + 1)) (ys.drop (j + 1)) + 1 = com (xs.drop i) (ys.drop j) ∧ scr (xs.drop i) (ys.drop j) = (32, xs.getD i ByteArray.empty) :: scr (xs.drop (i + 1)) (ys.drop (j + 1))) ∨
    (i < xs.length ∧ j = ys.length ∧ com (xs.drop (i + 1)) (ys.drop j) = com (xs.drop i) (ys.drop j) ∧ scr (xs.drop i) (ys.drop j) = (45, xs.getD i ByteArray.empty) :: scr (xs.drop (i + 1)) (ys.drop j)) ∨
    (i < xs.length ∧ j < ys.length ∧ xs.getD i ByteArray.empty ≠ ys.getD j ByteArray.empty ∧ com (xs.drop (i + 1)) (ys.drop j) = com (xs.drop i) (ys.drop j) ∧ scr (xs.drop i) (ys.drop j) = (45, xs.getD i ByteArray.empty) :: scr (xs.drop (i + 1)) (ys.drop j)) ∨
    (i = xs.length ∧ j < ys.length ∧ scr (xs.drop i) (ys.drop j) = (43, ys.getD j ByteArray.empty) :: scr (xs.drop i) (ys.drop (j + 1))) ∨
    (i < xs.length ∧ j < ys.length ∧ xs.getD i ByteArray.empty ≠ ys.getD j ByteArray.empty ∧ com (xs.drop (i + 1)) (ys.drop j) ≠ com (xs.drop i) (ys.drop j) ∧ scr (xs.drop i) (ys.drop j) = (43, ys.getD j ByteArray.empty) :: scr (xs.drop i) (ys.drop (j + 1))) := by
  by_cases e1 : i = xs.length
  · refine .inr (.inr (.inr (.inl ⟨e1, by omega, ?_⟩)))
    rw [e1, List.drop_of_length_le (Nat.le_refl _), drop_at (xs := ys) (i := j) (by omega), scr_put]
  by_cases e2 : j = ys.length
  · refine .inr (.inl ⟨by omega, e2, ?_, ?_⟩)
    · rw [com_end (.inr e2), com_end (.inr e2)]
    · rw [e2, List.drop_of_length_le (Nat.le_refl ys.length), drop_at (xs := xs) (i := i) (by omega), scr_take]
  have h1 : i < xs.length := by omega
  have h2 : j < ys.length := by omega
  have hs : scr (xs.drop i) (ys.drop j) = if xs.getD i ByteArray.empty = ys.getD j ByteArray.empty then (32, xs.getD i ByteArray.empty) :: scr (xs.drop (i + 1)) (ys.drop (j + 1)) else if dist (xs.drop (i + 1)) (ys.drop j) ≤ dist (xs.drop i) (ys.drop (j + 1)) then (45, xs.getD i ByteArray.empty) :: scr (xs.drop (i + 1)) (ys.drop j) else (43, ys.getD j ByteArray.empty) :: scr (xs.drop i) (ys.drop (j + 1)) := by
    conv => lhs; rw [drop_at h1, drop_at h2, scr_cons]
    rw [← drop_at h1, ← drop_at h2]
  by_cases e3 : xs.getD i ByteArray.empty = ys.getD j ByteArray.empty
  · refine .inl ⟨h1, h2, e3, ?_, by rw [hs, if_pos e3]⟩
    conv => rhs; rw [drop_at h1, drop_at h2, ← e3]
    exact com_keep _ _ _
  have hct := com_take (xs.getD i ByteArray.empty) (ys.getD j ByteArray.empty) (xs.drop (i + 1)) (ys.drop (j + 1)) e3
  rw [← drop_at h1, ← drop_at h2] at hct
  by_cases e4 : dist (xs.drop (i + 1)) (ys.drop j) ≤ dist (xs.drop i) (ys.drop (j + 1))
  · exact .inr (.inr (.inl ⟨h1, h2, e3, hct.2 e4, by rw [hs, if_neg e3, if_pos e4]⟩))
  · exact .inr (.inr (.inr (.inr ⟨h1, h2, e3, fun e => e4 (hct.1 e), by rw [hs, if_neg e3, if_neg e4]⟩)))

end Go.Proofs.YtmidbhikhbbpbacGreatDoor
namespace Go.Proofs.YtmidbhikhbbpbacGreatDoor
open Go.RowKit Dist

theorem mks_cap_own {B : Nat} {v : Value} {ms : List (Int × ByteArray)} {w : World} (h : w.ownsRow B 39 2 v ms.length (mcells ms)) : ∃ a cap, v = .slice a ms.length cap ∧ Mks w a ms ∧ ms.length ≤ cap := by
  obtain ⟨a, cap, rfl, hm⟩ := mks_of_own h
  refine ⟨a, cap, rfl, hm, ?_⟩
  rcases h.2 with ⟨h0, h1⟩ | ⟨g, c, cur, hv, _, _, hc, _⟩
  · rw [h1]; exact Nat.zero_le _
  · simp only [Value.slice.injEq] at hv
    rw [hv.2.2]; exact hc

end Go.Proofs.YtmidbhikhbbpbacGreatDoor
namespace Go.Proofs.YtmidbhikhbbpbacGreatDoor
open Go.RowKit Dist

/-- Hunks turned, or none where there is a fault. -/
def tOfH (l : List (Int × Int × List (Int × ByteArray))) : List (Int × Int × List (Int × ByteArray)) := if (hf l).2 = 0 then trn l else []
/-- Pieces, or none where there is a fault. -/
def cOfH (ms : List (Int × ByteArray)) (n : Int) : List (Int × Int × List (Int × ByteArray)) := if cf ms n = 0 then cut ms n.toNat else []
/-- The fault of Make. -/
def mkf (xs ys : List ByteArray) (n : Int) : Int := if ff xs ys ≠ 0 then ff xs ys else if n < 0 ∨ 1000 < n then 1 else 0

def mOfH (xs ys : List ByteArray) (n : Int) : List (Int × Int × List (Int × ByteArray)) := if mkf xs ys n = 0 then cut (scr xs ys) n.toNat else []

theorem scr_sf {xs ys : List ByteArray} (hf : ff xs ys = 0) : sf (scr xs ys) = 0 := by
  obtain ⟨f1, f2⟩ := ff_zero hf
  have h1 := lsf_len f1
  have h2 := lsf_len f2
  obtain ⟨_, _, _, hl, hm⟩ := scr_ok xs ys
  refine sf_of (by omega) fun m hmem => ⟨(hm m hmem).1, ?_⟩
  rcases (hm m hmem).2 with h | h
  · exact (lsf_zero f1).2 _ (List.mem_map.2 ⟨_, h, rfl⟩)
  · exact (lsf_zero f2).2 _ (List.mem_map.2 ⟨_, h, rfl⟩)

theorem scr_cf {xs ys : List ByteArray} {n : Int} (hf : ff xs ys = 0) : cf (scr xs ys) n = mkf xs ys n := by
  have hs := scr_sf hf
  obtain ⟨f1, f2⟩ := ff_zero hf
  have h1 := lsf_len f1
  have h2 := lsf_len f2
  obtain ⟨o1, o2, _, _, hm⟩ := scr_ok xs ys
  have e1 := ob_less (scr xs ys) fun m h => (hm m h).1
  have e2 := nb_less (scr xs ys) fun m h => (hm m h).1
  rw [o1] at e1
  rw [o2] at e2
  unfold cf mkf
  have n1 : ¬ (sf (scr xs ys) ≠ 0) := fun h => h hs
  have n2 : ¬ (ff xs ys ≠ 0) := fun h => h hf
  have n3 : ¬ (60 < ob (scr xs ys) ∨ 60 < nb (scr xs ys)) := by omega
  rw [if_neg n1, if_neg n2, if_neg n3]

theorem cut_bounds {ms : List (Int × ByteArray)} {n : Int} (h : cf ms n = 0) (k : Nat) : (cut ms k).length ≤ 60 ∧ ∀ x ∈ cut ms k, x.2.2.length ≤ 120 := by
  obtain ⟨h1, _, _, h4, h5⟩ := cf_zero h
  have hg := hf_cut h1 h4 h5 k
  obtain ⟨c1, _, _, _⟩ := cut_holds ms (fun m hm => ((sf_zero h1).2 m hm).1) k
  refine ⟨(hf_zero (by rw [hg])).1, fun x hx => ?_⟩
  obtain ⟨a, b, _, _, e, _⟩ := c1 x hx
  have : x.2.2 = (ms.take b).drop a := by rw [e]; rfl
  rw [this, List.length_drop, List.length_take]
  have := (sf_zero h1).1
  omega

theorem tOfH_small (l : List (Int × Int × List (Int × ByteArray))) : (tOfH l).length ≤ maxLen ∧ ∀ x ∈ tOfH l, x.2.2.length ≤ maxLen := by
  unfold tOfH
  by_cases h : (hf l).2 = 0
  · rw [if_pos h]
    obtain ⟨h1, h2⟩ := hf_zero h
    refine ⟨by unfold maxLen; simp [trn]; omega, fun x hx => ?_⟩
    unfold trn at hx
    obtain ⟨y, hy, rfl⟩ := List.mem_map.1 hx
    obtain ⟨i, hi, rfl⟩ := List.mem_iff_getElem.1 hy
    have h3 := (sf_zero (hOne_zero (hAt_zero (h2 i hi)).1).1).1
    have e : l.getD i (0, 0, []) = l[i] := by simp [hi]
    rw [e] at h3
    show (swm l[i].2.2).length ≤ maxLen
    rw [swm_length]
    unfold maxLen; omega
  · rw [if_neg h]
    exact ⟨Nat.zero_le _, fun x hx => by cases hx⟩

theorem cOfH_small (ms : List (Int × ByteArray)) (n : Int) : (cOfH ms n).length ≤ maxLen ∧ ∀ x ∈ cOfH ms n, x.2.2.length ≤ maxLen := by
  unfold cOfH
  by_cases h : cf ms n = 0
  · rw [if_pos h]
    obtain ⟨h1, h2⟩ := cut_bounds h n.toNat
    exact ⟨by unfold maxLen; omega, fun x hx => by have := h2 x hx; unfold maxLen; omega⟩
  · rw [if_neg h]
    exact ⟨Nat.zero_le _, fun x hx => by cases hx⟩

theorem mOfH_eq {xs ys : List ByteArray} {n : Int} (hf : ff xs ys = 0) : mOfH xs ys n = cOfH (scr xs ys) n := by
  unfold mOfH cOfH
  rw [scr_cf hf]

theorem mOfH_small (xs ys : List ByteArray) (n : Int) : (mOfH xs ys n).length ≤ maxLen ∧ ∀ x ∈ mOfH xs ys n, x.2.2.length ≤ maxLen := by
  by_cases hf : ff xs ys = 0
  · rw [mOfH_eq hf]; exact cOfH_small _ _
  · unfold mOfH mkf
    rw [if_pos hf, if_neg hf]
    exact ⟨Nat.zero_le _, fun x hx => by cases hx⟩

theorem turnAny (a : Option Addr) (l : List (Int × Int × List (Int × ByteArray))) (ca : Nat) (w : World) (ha : Hks w a l) (hm : l.length ≤ maxLen) (hms : ∀ h ∈ l, h.2.2.length ≤ maxLen) :
    Calls Tryz.prog 39 #[.slice a l.length ca] w fun e w' => ∃ a' c', e = .returned (.tuple #[.slice a' (tOfH l).length c', errV (hf l).2]) ∧ Below w.heap.size w w' ∧ Hks w' a' (tOfH l) := by
  unfold tOfH
  by_cases h : (hf l).2 = 0
  · rw [if_pos h, h, errV_zero]
    exact (turn_ok a l ca w ha h).mono fun e w' ⟨B, he, hb, hk⟩ => ⟨_, l.length, by rw [he]; simp [trn], hb, hk⟩
  · rw [if_neg h, errV_not h]
    exact (turn_bad a l ca w ha hm hms h).mono fun e w' ⟨he, hb⟩ => ⟨none, 0, he, hb, Hks.nil _ _⟩

end Go.Proofs.YtmidbhikhbbpbacGreatDoor
namespace Go.Proofs.YtmidbhikhbbpbacGreatDoor
open Go.RowKit Dist

theorem lsf_of {xs : List ByteArray} (hl : xs.length ≤ 60) (h : ∀ x ∈ xs, lf x.data.toList = 0) : lsf (bts xs) = 0 := by
  unfold lsf
  rw [bts_length, if_neg (by omega)]
  clear hl
  induction xs with
  | nil => rfl
  | cons x r ih =>
    unfold bts at ih ⊢
    rw [List.map_cons, lsg, if_pos (h x (by simp))]
    exact ih fun y hy => h y (List.mem_cons_of_mem _ hy)

/-- What is done is undone. -/
theorem stF_undo {xs : List ByteArray} {l : List Hk} (h : (stF xs l).2 = 0) : stF (sR xs l) (trn l) = (0, 0) ∧ stO (sR xs l) (trn l) = xs := by
  obtain ⟨h1, h2, h3, h4⟩ := stF_zero h
  obtain ⟨g, _, _⟩ := hf_good h2
  obtain ⟨u1, u2⟩ := undo g (clash_stand h3)
  have e : stF (sR xs l) (trn l) = (0, 0) := stF_ok (lsf_of h4 (sR_lines h1 h2)) (by rw [hf_trn h2]) (clash_none u1) (by rw [u2]; have := lsf_len h1; omega)
  refine ⟨e, ?_⟩
  rw [stO_ok (by rw [e]), u2]

/-- What was found is done. -/
theorem stF_make {xs ys : List ByteArray} {n : Int} (h : mkf xs ys n = 0) : stF xs (mOfH xs ys n) = (0, 0) ∧ sR xs (mOfH xs ys n) = ys := by
  have hff : ff xs ys = 0 := by
    by_cases e : ff xs ys = 0
    · exact e
    · unfold mkf at h; rw [if_pos e] at h; exact absurd h e
  obtain ⟨f1, f2⟩ := ff_zero hff
  obtain ⟨o1, o2, _, _, hm⟩ := scr_ok xs ys
  have hs : ∀ m ∈ scr xs ys, sgn m.1 := fun m hmem => (hm m hmem).1
  obtain ⟨c1, c2⟩ := cut_stand hs n.toNat
  have c3 := cut_makes hs n.toNat
  rw [o1] at c2 c3
  rw [o2] at c3
  have e : mOfH xs ys n = cut (scr xs ys) n.toNat := by unfold mOfH; rw [if_pos h]
  have hcf := scr_cf (n := n) hff
  rw [h] at hcf
  obtain ⟨k1, _, _, k4, k5⟩ := cf_zero hcf
  have hhf := hf_cut k1 k4 k5 n.toNat
  rw [e]
  refine ⟨stF_ok f1 (by rw [hhf]) (clash_none c2) (by rw [c3]; have := lsf_len f2; omega), c3⟩

theorem fact_x : stF [] [((0 : Int), (0 : Int), [((43 : Int), (⟨#[120]⟩ : ByteArray))])] = (0, 0) ∧ stO [] [((0 : Int), (0 : Int), [((43 : Int), (⟨#[120]⟩ : ByteArray))])] = [⟨#[120]⟩] := by decide

/-- One hunk of one mark, new. -/
theorem hks_one (w : World) (o p c : Int) (s : ByteArray) : Hks ((w.alloc (.cells #[.int .u8 c, .string s] 39)).alloc (.cells #[.int .i64 o, .int .i64 p, .slice (some ⟨w.heap.size, 0, none⟩) 1 1] 42)) (some ⟨w.heap.size + 1, 0, none⟩) [(o, p, [(c, s)])] := by
  intro i hi
  obtain rfl : i = 0 := by simpa using hi
  have k1 := heap_alloc_new w (.cells #[.int .u8 c, .string s] 39)
  have k2 := heap_alloc_new (w.alloc (.cells #[.int .u8 c, .string s] 39)) (.cells #[.int .i64 o, .int .i64 p, .slice (some ⟨w.heap.size, 0, none⟩) 1 1] 42)
  have hb := below_alloc (w.alloc (.cells #[.int .u8 c, .string s] 39)) (.cells #[.int .i64 o, .int .i64 p, .slice (some ⟨w.heap.size, 0, none⟩) 1 1] 42)
  rw [show (w.alloc (.cells #[.int .u8 c, .string s] 39)).heap.size = w.heap.size + 1 by simp] at k2
  have k3 := blk_below hb (by simp) k1
  refine ⟨w.heap.size + 1, 0, some ⟨w.heap.size, 0, none⟩, 1, rfl, ?_, ?_, ?_, ?_, Nat.le_refl _⟩
  · rw [Lib.cell_of_heap k2]; rfl
  · rw [Lib.cell_of_heap k2]; rfl
  · rw [Lib.cell_of_heap k2]; rfl
  · intro j hj
    obtain rfl : j = 0 := by simpa using hj
    exact ⟨w.heap.size, 0, rfl, by rw [Lib.cell_of_heap k3]; rfl, by rw [Lib.cell_of_heap k3]; rfl⟩

theorem texts_eq (a b : Option Addr) (xs : List ByteArray) (ca cb : Nat) (w : World) (ha : Strs w a xs) (hb : Strs w b xs) (hm : xs.length ≤ maxLen) : Calls Tryz.prog 52 #[.slice a xs.length ca, .slice b xs.length cb] w fun e w' => e = .returned (.bool true) ∧ Below w.heap.size w w' :=
  (texts_same a b xs xs ca cb w ha hb rfl hm).mono fun e w' ⟨he, n, hw⟩ => ⟨by rw [he]; exact ret_b (decide_eq_true rfl), by rw [hw]; exact below_drawn (Below.refl _ _)⟩

theorem strs_nil (w : World) (a : Option Addr) : Strs w a [] := fun _ hi => absurd hi (Nat.not_lt_zero _)

/-- One line, new. -/
theorem strs_one (w : World) (s : ByteArray) (t : TypeId) : Strs (w.alloc (.cells #[.string s] t)) (some ⟨w.heap.size, 0, none⟩) [s] := by
  intro i hi
  obtain rfl : i = 0 := by simpa using hi
  exact ⟨w.heap.size, 0, rfl, by rw [Lib.cell_of_heap (heap_alloc_new w _)]; rfl⟩

end Go.Proofs.YtmidbhikhbbpbacGreatDoor
