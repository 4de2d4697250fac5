/-
  Walk of the document's own table: of each two places how many lines, from there on, can be kept at the most.
-/
import Derived.Test.YtkelcjfblekhpabDoorFar

namespace Go.Proofs.YtkelcjfblekhpabDoor
open Go.RowKit Dist

/-- A row of numbers in memory. -/
def Row (w : World) (R n : Nat) (f : Nat → Int) : Prop :=
  ∃ rs : Array Value, w.heap[R]? = some (.cells rs 3 (0, 0)) ∧ rs.size = n + 1 ∧ ∀ k, k ≤ n → rs[k]? = some (.int .i64 (f k))

theorem Row.cell {w : World} {R n : Nat} {f : Nat → Int} (h : Row w R n f) {k : Nat} (hk : k ≤ n) : w.cell? ⟨R, k, none⟩ = some (.int .i64 (f k)) := by
  obtain ⟨rs, hb, _, hat⟩ := h
  rw [Lib.cell_of_heap hb]; exact hat k hk

theorem Row.frozen {w : World} {R n : Nat} {f : Nat → Int} (h : Row w R n f) (k : Nat) : w.frozen? ⟨R, k, none⟩ = false := by
  obtain ⟨rs, hb, _, _⟩ := h
  exact Lib.frozen_of_heap hb k

theorem Row.congr {w : World} {R n : Nat} {f g : Nat → Int} (h : Row w R n f) (e : ∀ k, k ≤ n → f k = g k) : Row w R n g := by
  obtain ⟨rs, hb, hs, hat⟩ := h
  exact ⟨rs, hb, hs, fun k hk => by rw [← e k hk]; exact hat k hk⟩

theorem Row.below {w w' : World} {R n : Nat} {f : Nat → Int} (h : Row w R n f) {U : Nat} (hb : Below U w w') (hR : R < U) : Row w' R n f := by
  obtain ⟨rs, hh, hs, hat⟩ := h
  exact ⟨rs, blk_below hb hR hh, hs, hat⟩

theorem Row.drawn {w : World} {R n : Nat} {f : Nat → Int} (h : Row w R n f) (q : Nat) : Row (w.drewN q) R n f := h

theorem Row.set {w : World} {R n : Nat} {f : Nat → Int} (h : Row w R n f) {j : Nat} (hj : j ≤ n) (u : Int) : Row (w.setCell ⟨R, j, none⟩ (.int .i64 u)) R n (fun k => if k = j then u else f k) := by
  obtain ⟨rs, hb, hs, hat⟩ := h
  refine ⟨_, blk_set hb _, by simpa using hs, fun k hk => ?_⟩
  by_cases e : k = j
  · subst e
    rw [Array.getElem?_setIfInBounds_self_of_lt (by omega)]
    simp
  · rw [Array.getElem?_setIfInBounds_ne (Ne.symm e), hat k hk]
    simp [e]

theorem Row.other {w : World} {R n : Nat} {f : Nat → Int} (h : Row w R n f) {B : Nat} (hB : B ≠ R) (i : Nat) (v : Value) : Row (w.setCell ⟨B, i, none⟩ v) R n f := by
  obtain ⟨rs, hb, h2⟩ := h
  have e : (w.setCell ⟨B, i, none⟩ v).heap[R]? = w.heap[R]? := by
    simp only [World.setCell, Array.getElem?_modify]
    rw [if_neg hB]
  exact ⟨rs, by rw [e]; exact hb, h2⟩

/-- The table in memory: of the places that P names the row is there, below the block U. -/
def Com (w : World) (B U m n : Nat) (xs ys : List ByteArray) (P : Nat → Prop) : Prop :=
  ∃ cs : Array Value, w.heap[B]? = some (.cells cs 37 (0, 0)) ∧ cs.size = m + 1 ∧
    ∀ i, P i → i ≤ m → ∃ R, cs[i]? = some (.slice (some ⟨R, 0, none⟩) (n + 1) (n + 1)) ∧ B < R ∧ R < U ∧ Row w R n (fun k => com (xs.drop i) (ys.drop k))

theorem Com.below {w w' : World} {B U m n : Nat} {xs ys : List ByteArray} {P : Nat → Prop} (h : Com w B U m n xs ys P) (hb : Below U w w') (hB : B < U) : Com w' B U m n xs ys P := by
  obtain ⟨cs, hc, hs, hat⟩ := h
  refine ⟨cs, blk_below hb hB hc, hs, fun i hp hi => ?_⟩
  obtain ⟨R, h1, h2, h3, h4⟩ := hat i hp hi
  exact ⟨R, h1, h2, h3, h4.below hb h3⟩

theorem Com.at {w : World} {B U m n : Nat} {xs ys : List ByteArray} {P : Nat → Prop} (h : Com w B U m n xs ys P) {i : Nat} (hp : P i) (hi : i ≤ m) :
    ∃ R, w.cell? ⟨B, i, none⟩ = some (.slice (some ⟨R, 0, none⟩) (n + 1) (n + 1)) ∧ B < R ∧ R < U ∧ Row w R n (fun k => com (xs.drop i) (ys.drop k)) := by
  obtain ⟨cs, hc, hs, hat⟩ := h
  obtain ⟨R, h1, h2⟩ := hat i hp hi
  exact ⟨R, by rw [Lib.cell_of_heap hc]; exact h1, h2⟩

theorem Com.frozen {w : World} {B U m n : Nat} {xs ys : List ByteArray} {P : Nat → Prop} (h : Com w B U m n xs ys P) (i : Nat) : w.frozen? ⟨B, i, none⟩ = false := by
  obtain ⟨cs, hc, _⟩ := h
  exact Lib.frozen_of_heap hc i

theorem Com.any {w : World} {B U m n : Nat} {xs ys : List ByteArray} {P : Nat → Prop} (h : Com w B U m n xs ys P) {i : Nat} (hi : i ≤ m) : ∃ v, w.cell? ⟨B, i, none⟩ = some v := by
  obtain ⟨cs, hc, hs, _⟩ := h
  rw [Lib.cell_of_heap hc]
  exact ⟨_, Array.getElem?_eq_getElem (by omega)⟩

theorem Com.mono {w : World} {B U V m n : Nat} {xs ys : List ByteArray} {P Q : Nat → Prop} (h : Com w B U m n xs ys P) (hU : U ≤ V) (hq : ∀ i, Q i → P i) : Com w B V m n xs ys Q := by
  obtain ⟨cs, hc, hs, hat⟩ := h
  refine ⟨cs, hc, hs, fun i hp hi => ?_⟩
  obtain ⟨R, h1, h2, h3, h4⟩ := hat i (hq i hp) hi
  exact ⟨R, h1, h2, by omega, h4⟩

/-- A row is hung in. -/
theorem Com.hang {w : World} {B U m n : Nat} {xs ys : List ByteArray} {P : Nat → Prop} (h : Com w B U m n xs ys P) {i : Nat} (hP : ¬ P i) (v : Value) : Com (w.setCell ⟨B, i, none⟩ v) B U m n xs ys P := by
  obtain ⟨cs, hc, hs, hat⟩ := h
  refine ⟨_, blk_set hc _, by simpa using hs, fun i' hp hi' => ?_⟩
  obtain ⟨R, h1, h2, h3, rs, hb, h4⟩ := hat i' hp hi'
  have hne : i ≠ i' := fun e => hP (e ▸ hp)
  have hB : (w.setCell ⟨B, i, none⟩ v).heap[R]? = w.heap[R]? := by
    simp only [World.setCell, Array.getElem?_modify]
    rw [if_neg (by omega)]
  exact ⟨R, by rw [Array.getElem?_setIfInBounds_ne hne]; exact h1, h2, h3, rs, by rw [hB]; exact hb, h4⟩

/-- What holds while a row is filled. -/
def CS (w W : World) (B R m n i : Nat) (xs ys : List ByteArray) (f : Nat → Int) : Prop :=
  Below B w W ∧ B < R ∧ R < W.heap.size ∧ Com W B R m n xs ys (fun i' => i < i') ∧ W.cell? ⟨B, i, none⟩ = some (.slice (some ⟨R, 0, none⟩) (n + 1) (n + 1)) ∧ Row W R n f

theorem CS.store {w W : World} {B R m n i : Nat} {xs ys : List ByteArray} {f : Nat → Int} (h : CS w W B R m n i xs ys f) (q : Nat) {j : Nat} (hj : j ≤ n) (u : Int) :
    CS w ((W.drewN q).setCell ⟨R, j, none⟩ (.int .i64 u)) B R m n i xs ys (fun k => if k = j then u else f k) := by
  obtain ⟨h1, h2, h3, h4, h5, h6⟩ := h
  have hb : Below R W ((W.drewN q).setCell ⟨R, j, none⟩ (.int .i64 u)) := Below.setCell (below_drawn (Below.refl R W)) (show R ≤ (⟨R, j, none⟩ : Addr).block from Nat.le_refl R) _
  refine ⟨h1.trans (hb.mono (by omega)), h2, by simpa using h3, h4.below hb h2, ?_, (h6.drawn q).set hj u⟩
  have e : ((W.drewN q).setCell ⟨R, j, none⟩ (.int .i64 u)).cell? ⟨B, i, none⟩ = (W.drewN q).cell? ⟨B, i, none⟩ := by
    apply World.cell?_setCell_other
    intro e
    have := congrArg Addr.block e
    simp only at this
    omega
  rw [e]; exact h5

theorem CS.drawn {w W : World} {B R m n i : Nat} {xs ys : List ByteArray} {f : Nat → Int} (h : CS w W B R m n i xs ys f) (q : Nat) : CS w (W.drewN q) B R m n i xs ys f := by
  obtain ⟨h1, h2, h3, h4, h5, h6⟩ := h
  exact ⟨below_drawn h1, h2, h3, h4, h5, h6⟩

theorem CS.store' {w W : World} {B R m n i : Nat} {xs ys : List ByteArray} {f : Nat → Int} (h : CS w W B R m n i xs ys f) {j : Nat} (hj : j ≤ n) (u : Int) :
    CS w ((W.setCell ⟨R, j, none⟩ (.int .i64 u)).drew) B R m n i xs ys (fun k => if k = j then u else f k) := by
  obtain ⟨h1, h2, h3, h4, h5, h6⟩ := h.store 0 hj u
  exact ⟨h1.trans ⟨rfl, rfl, rfl, Nat.le_refl _, fun _ _ => rfl⟩, h2, h3, h4, h5, h6⟩

theorem CS.congr {w W : World} {B R m n i : Nat} {xs ys : List ByteArray} {f g : Nat → Int} (h : CS w W B R m n i xs ys f) (e : ∀ k, k ≤ n → f k = g k) : CS w W B R m n i xs ys g := by
  obtain ⟨h1, h2, h3, h4, h5, h6⟩ := h
  exact ⟨h1, h2, h3, h4, h5, h6.congr e⟩

/-- A row is full: the table has it. -/
theorem CS.full {w W : World} {B R m n i : Nat} {xs ys : List ByteArray} {f : Nat → Int} (h : CS w W B R m n i xs ys f) (e : ∀ k, k ≤ n → f k = com (xs.drop i) (ys.drop k)) : Com W B W.heap.size m n xs ys (fun i' => i ≤ i') := by
  obtain ⟨h1, h2, h3, ⟨cs, hc, hs, hat⟩, h5, h6⟩ := h
  refine ⟨cs, hc, hs, fun i' hp hi => ?_⟩
  by_cases hei : i' = i
  · subst hei
    rw [Lib.cell_of_heap hc] at h5
    exact ⟨R, h5, h2, h3, h6.congr e⟩
  · obtain ⟨R', g1, g2, g3, g4⟩ := hat i' (show i < i' by omega) hi
    exact ⟨R', g1, g2, by omega, g4⟩

theorem CS.facts {w W : World} {B R m n i j : Nat} {xs ys : List ByteArray} {f : Nat → Int} (h : CS w W B R m n i xs ys f) (hi : i < m) (hj : j < n) :
    ∃ R', W.cell? ⟨B, i + 1, none⟩ = some (.slice (some ⟨R', 0, none⟩) (n + 1) (n + 1)) ∧ W.cell? ⟨R', j, none⟩ = some (.int .i64 (com (xs.drop (i + 1)) (ys.drop j))) ∧ W.cell? ⟨R', j + 1, none⟩ = some (.int .i64 (com (xs.drop (i + 1)) (ys.drop (j + 1)))) ∧
      W.cell? ⟨B, i, none⟩ = some (.slice (some ⟨R, 0, none⟩) (n + 1) (n + 1)) ∧ W.cell? ⟨R, j, none⟩ = some (.int .i64 (f j)) ∧ W.cell? ⟨R, j + 1, none⟩ = some (.int .i64 (f (j + 1))) ∧ W.frozen? ⟨R, j, none⟩ = false := by
  obtain ⟨h1, h2, h3, h4, h5, h6⟩ := h
  obtain ⟨R', g1, g2, g3, g4⟩ := h4.at (i := i + 1) (show i < i + 1 by omega) (by omega)
  exact ⟨R', g1, g4.cell (by omega), g4.cell (by omega), h5, h6.cell (by omega), h6.cell (by omega), h6.frozen j⟩

theorem com_end {xs ys : List ByteArray} {i j : Nat} (h : i = xs.length ∨ j = ys.length) : com (xs.drop i) (ys.drop j) = 0 := by
  rcases h with h | h
  · rw [h, List.drop_of_length_le (Nat.le_refl _), com_nil]
  · rw [h, List.drop_of_length_le (Nat.le_refl _), com_nil']

theorem com_in {xs ys : List ByteArray} {i j : Nat} (hi : i < xs.length) (hj : j < ys.length) :
    com (xs.drop i) (ys.drop j) = if xs.getD i ByteArray.empty = ys.getD j ByteArray.empty then max (com (xs.drop (i + 1)) (ys.drop (j + 1)) + 1) (max (com (xs.drop (i + 1)) (ys.drop j)) (com (xs.drop i) (ys.drop (j + 1))))
      else max (com (xs.drop (i + 1)) (ys.drop j)) (com (xs.drop i) (ys.drop (j + 1))) := by
  conv => lhs; rw [drop_at hi, drop_at hj, com_cons]
  rw [← drop_at hi, ← drop_at hj]

theorem com_le {a b : List ByteArray} : com a b ≤ a.length := by
  have h1 := com_dist a b
  have h2 := dist_big a b
  omega

theorem Tryd.infoInts : (Tryd.prog.info? 37).map (fun i => (i.zero, i.size, i.bytes)) = some (some (.slice none 0 0), 1, 24) := by kernel_rfl
theorem Tryd.infoInt : (Tryd.prog.info? 3).map (fun i => (i.zero, i.size, i.bytes)) = some (some (.int .i64 0), 1, 8) := by kernel_rfl

theorem made_at (z : Value) (n k : Nat) (hk : k < n) : (madeCells #[z] n)[k]? = some z := by
  have hs : (madeCells #[z] n).size = n := by simp [madeCells]
  rw [Array.getElem?_eq_getElem (by omega)]
  simp [madeCells, Nat.mod_one]

end Go.Proofs.YtkelcjfblekhpabDoor
