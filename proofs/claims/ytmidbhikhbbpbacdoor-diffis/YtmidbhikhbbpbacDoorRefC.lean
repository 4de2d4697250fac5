/-
  Walk of the document's own table: of each two places how many lines, from there on, can be kept at the most.
-/
import Derived.Test.YtmidbhikhbbpbacDoorFar

namespace Go.Proofs.YtmidbhikhbbpbacDoor
open Go.RowKit Dist

/-- A row of numbers in memory. -/
def Row (w : World) (R n : Nat) (f : Nat → Int) : Prop :=
  ∃ rs : Array Value, w.heap[R]? = some (.cells rs 3 (0, 0)) ∧ rs.size = n + 1 ∧ ∀ k, k ≤ n → rs[k]? = some (.int .i64 (f k))

theorem Row.cell {w : World} {R n : Nat} {f : Nat → Int} (h : Row w R n f) {k : Nat} (hk : k ≤ n) : w.cell? ⟨R, k, none⟩ = some (.int .i64 (f k)) := by
  obtain ⟨rs, hb, _, hat⟩ := h
  rw [Lib.cell_of_heap hb]; exact hat k hk

theorem Row.frozen {w : World} {R n : Nat} {f : Nat → Int} (h : Row w R n f) (k : Nat) : w.frozen? ⟨R, k, none⟩ = false := by
  obtain ⟨rs, hb, _, _⟩ := h
  exact Lib.frozen_of_heap hb k

theorem Row.congr {w : World} {R n : Nat} {f g : Nat → Int} (h : Row w R n f) (e : ∀ k, k ≤ n → f k = g k) : Row w R n g := by
  obtain ⟨rs, hb, hs, hat⟩ := h
  exact ⟨rs, hb, hs, fun k hk => by rw [← e k hk]; exact hat k hk⟩

theorem Row.below {w w' : World} {R n : Nat} {f : Nat → Int} (h : Row w R n f) {U : Nat} (hb : Below U w w') (hR : R < U) : Row w' R n f := by
  obtain ⟨rs, hh, hs, hat⟩ := h
  exact ⟨rs, blk_below hb hR hh, hs, hat⟩

theorem Row.drawn {w : World} {R n : Nat} {f : Nat → Int} (h : Row w R n f) (q : Nat) : Row (w.drewN q) R n f := h

theorem Row.set {w : World} {R n : Nat} {f : Nat → Int} (h : Row w R n f) {j : Nat} (hj : j ≤ n) (u : Int) : Row (w.setCell ⟨R, j, none⟩ (.int .i64 u)) R n (fun k => if k = j then u else f k) := by
  obtain ⟨rs, hb, hs, hat⟩ := h
  refine ⟨_, blk_set hb _, by simpa using hs, fun k hk => ?_⟩
  by_cases e : k = j
  · subst e
    rw [Array.getElem?_setIfInBounds_self_of_lt (by omega)]
    simp
  · rw [Array.getElem?_setIfInBounds_ne (Ne.symm e), hat k hk]
    simp [e]

theorem Row.other {w : World} {R n : Nat} {f : Nat → Int} (h : Row w R n f) {B : Nat} (hB : B ≠ R) (i : Nat) (v : Value) : Row (w.setCell ⟨B, i, none⟩ v) R n f := by
  obtain ⟨rs, hb, h2⟩ := h
  have e : (w.setCell ⟨B, i, none⟩ v).heap[R]? = w.heap[R]? := by
    simp only [World.setCell, Array.getElem?_modify]
    rw [if_neg hB]
  exact ⟨rs, by rw [e]; exact hb, h2⟩

/-- The table in memory: of the places that P names the row is there, below the block U. -/
def Com (w : World) (B U m n : Nat) (xs ys : List ByteArray) (P : Nat → Prop) : Prop :=
  ∃ cs : Array Value, w.heap[B]? = some (.cells cs 86 (0, 0)) ∧ cs.size = m + 1 ∧
    ∀ i, P i → i ≤ m → ∃ R, cs[i]? = some (.slice (some ⟨R, 0, none⟩) (n + 1) (n + 1)) ∧ B < R ∧ R < U ∧ Row w R n (fun k => com (xs.drop i) (ys.drop k))

theorem Com.below {w w' : World} {B U m n : Nat} {xs ys : List ByteArray} {P : Nat → Prop} (h : Com w B U m n xs ys P) (hb : Below U w w') (hB : B < U) : Com w' B U m n xs ys P := by
  obtain ⟨cs, hc, hs, hat⟩ := h
  refine ⟨cs, blk_below hb hB hc, hs, fun i hp hi => ?_⟩
  obtain ⟨R, h1, h2, h3, h4⟩ := hat i hp hi
  exact ⟨R, h1, h2, h3, h4.below hb h3⟩

theorem Com.at {w : World} {B U m n : Nat} {xs ys : List ByteArray} {P : Nat → Prop} (h : Com w B U m n xs ys P) {i : Nat} (hp : P i) (hi : i ≤ m) :
    ∃ R, w.cell? ⟨B, i, none⟩ = some (.slice (some ⟨R, 0, none⟩) (n + 1) (n + 1)) ∧ B < R ∧ R < U ∧ Row w R n (fun k => com (xs.drop i) (ys.drop k)) := by
  obtain ⟨cs, hc, hs, hat⟩ := h
  obtain ⟨R, h1, h2⟩ := hat i hp hi
  exact ⟨R, by rw [Lib.cell_of_heap hc]; exact h1, h2⟩

theorem Com.frozen {w : World} {B U m n : Nat} {xs ys : List ByteArray} {P : Nat → Prop} (h : Com w B U m n xs ys P) (i : Nat) : w.frozen? ⟨B, i, none⟩ = false := by
  obtain ⟨cs, hc, _⟩ := h
  exact Lib.frozen_of_heap hc i

theorem Com.any {w : World} {B U m n : Nat} {xs ys : List ByteArray} {P : Nat → Prop} (h : Com w B U m n xs ys P) {i : Nat} (hi : i ≤ m) : ∃ v, w.cell? ⟨B, i, none⟩ = some v := by
  obtain ⟨cs, hc, hs, _⟩ := h
  rw [Lib.cell_of_heap hc]
  exact ⟨_, Array.getElem?_eq_getElem (by omega)⟩

theorem Com.mono {w : World} {B U V m n : Nat} {xs ys : List ByteArray} {P Q : Nat → Prop} (h : Com w B U m n xs ys P) (hU : U ≤ V) (hq : ∀ i, Q i → P i) : Com w B V m n xs ys Q := by
  obtain ⟨cs, hc, hs, hat⟩ := h
  refine ⟨cs, hc, hs, fun i hp hi => ?_⟩
  obtain ⟨R, h1, h2, h3, h4⟩ := hat i (hq i hp) hi
  exact ⟨R, h1, h2, by omega, h4⟩

/-- A row is hung in. -/
theorem Com.hang {w : World} {B U m n : Nat} {xs ys : List ByteArray} {P : Nat → Prop} (h : Com w B U m n xs ys P) {i : Nat} (hP : ¬ P i) (v : Value) : Com (w.setCell ⟨B, i, none⟩ v) B U m n xs ys P := by
  obtain ⟨cs, hc, hs, hat⟩ := h
  refine ⟨_, blk_set hc _, by simpa using hs, fun i' hp hi' => ?_⟩
  obtain ⟨R, h1, h2, h3, rs, hb, h4⟩ := hat i' hp hi'
  have hne : i ≠ i' := fun e => hP (e ▸ hp)
  have hB : (w.setCell ⟨B, i, none⟩ v).heap[R]? = w.heap[R]? := by
    simp only [World.setCell, Array.getElem?_modify]
    rw [if_neg (by omega)]
  exact ⟨R, by rw [Array.getElem?_setIfInBounds_ne hne]; exact h1, h2, h3, rs, by rw [hB]; exact hb, h4⟩

/-- What holds while a row is filled. -/
def CS (w W : World) (B R m n i : Nat) (xs ys : List ByteArray) (f : Nat → Int) : Prop :=
  Below B w W ∧ B < R ∧ R < W.heap.size ∧ Com W B R m n xs ys (fun i' => i < i') ∧ W.cell? ⟨B, i, none⟩ = some (.slice (some ⟨R, 0, none⟩) (n + 1) (n + 1)) ∧ Row W R n f

theorem CS.store {w W : World} {B R m n i : Nat} {xs ys : List ByteArray} {f : Nat → Int} (h : CS w W B R m n i xs ys f) (q : Nat) {j : Nat} (hj : j ≤ n) (u : Int) :
    CS w ((W.drewN q).setCell ⟨R, j, none⟩ (.int .i64 u)) B R m n i xs ys (fun k => if k = j then u else f k) := by
  obtain ⟨h1, h2, h3, h4, h5, h6⟩ := h
  have hb : Below R W ((W.drewN q).setCell ⟨R, j, none⟩ (.int .i64 u)) := Below.setCell (below_drawn (Below.refl R W)) (show R ≤ (⟨R, j, none⟩ : Addr).block from Nat.le_refl R) _
  refine ⟨h1.trans (hb.mono (by omega)), h2, by simpa using h3, h4.below hb h2, ?_, (h6.drawn q).set hj u⟩
  have e : ((W.drewN q).setCell ⟨R, j, none⟩ (.int .i64 u)).cell? ⟨B, i, none⟩ = (W.drewN q).cell? ⟨B, i, none⟩ := by
    apply World.cell?_setCell_other
    intro e
    have := congrArg Addr.block e
    simp only at this
    omega
  rw [e]; exact h5

theorem CS.drawn {w W : World} {B R m n i : Nat} {xs ys : List ByteArray} {f : Nat → Int} (h : CS w W B R m n i xs ys f) (q : Nat) : CS w (W.drewN q) B R m n i xs ys f := by
  obtain ⟨h1, h2, h3, h4, h5, h6⟩ := h
  exact ⟨below_drawn h1, h2, h3, h4, h5, h6⟩

theorem CS.store' {w W : World} {B R m n i : Nat} {xs ys : List ByteArray} {f : Nat → Int} (h : CS w W B R m n i xs ys f) {j : Nat} (hj : j ≤ n) (u : Int) :
    CS w ((W.setCell ⟨R, j, none⟩ (.int .i64 u)).drew) B R m n i xs ys (fun k => if k = j then u else f k) := by
  obtain ⟨h1, h2, h3, h4, h5, h6⟩ := h.store 0 hj u
  exact ⟨h1.trans ⟨rfl, rfl, rfl, Nat.le_refl _, fun _ _ => rfl⟩, h2, h3, h4, h5, h6⟩

theorem CS.congr {w W : World} {B R m n i : Nat} {xs ys : List ByteArray} {f g : Nat → Int} (h : CS w W B R m n i xs ys f) (e : ∀ k, k ≤ n → f k = g k) : CS w W B R m n i xs ys g := by
  obtain ⟨h1, h2, h3, h4, h5, h6⟩ := h
  exact ⟨h1, h2, h3, h4, h5, h6.congr e⟩

/-- A row is full: the table has it. -/
theorem CS.full {w W : World} {B R m n i : Nat} {xs ys : List ByteArray} {f : Nat → Int} (h : CS w W B R m n i xs ys f) (e : ∀ k, k ≤ n → f k = com (xs.drop i) (ys.drop k)) : Com W B W.heap.size m n xs ys (fun i' => i ≤ i') := by
  obtain ⟨h1, h2, h3, ⟨cs, hc, hs, hat⟩, h5, h6⟩ := h
  refine ⟨cs, hc, hs, fun i' hp hi => ?_⟩
  by_cases hei : i' = i
  · subst hei
    rw [Lib.cell_of_heap hc] at h5
    exact ⟨R, h5, h2, h3, h6.congr e⟩
  · obtain ⟨R', g1, g2, g3, g4⟩ := hat i' (show i < i' by omega) hi
    exact ⟨R', g1, g2, by omega, g4⟩

theorem CS.facts {w W : World} {B R m n i j : Nat} {xs ys : List ByteArray} {f : Nat → Int} (h : CS w W B R m n i xs ys f) (hi : i < m) (hj : j < n) :
    ∃ R', W.cell? ⟨B, i + 1, none⟩ = some (.slice (some ⟨R', 0, none⟩) (n + 1) (n + 1)) ∧ W.cell? ⟨R', j, none⟩ = some (.int .i64 (com (xs.drop (i + 1)) (ys.drop j))) ∧ W.cell? ⟨R', j + 1, none⟩ = some (.int .i64 (com (xs.drop (i + 1)) (ys.drop (j + 1)))) ∧
      W.cell? ⟨B, i, none⟩ = some (.slice (some ⟨R, 0, none⟩) (n + 1) (n + 1)) ∧ W.cell? ⟨R, j, none⟩ = some (.int .i64 (f j)) ∧ W.cell? ⟨R, j + 1, none⟩ = some (.int .i64 (f (j + 1))) ∧ W.frozen? ⟨R, j, none⟩ = false := by
  obtain ⟨h1, h2, h3, h4, h5, h6⟩ := h
  obtain ⟨R', g1, g2, g3, g4⟩ := h4.at (i := i + 1) (show i < i + 1 by omega) (by omega)
  exact ⟨R', g1, g4.cell (by omega), g4.cell (by omega), h5, h6.cell (by omega), h6.cell (by omega), h6.frozen j⟩

theorem com_end {xs ys : List ByteArray} {i j : Nat} (h : i = xs.length ∨ j = ys.length) : com (xs.drop i) (ys.drop j) = 0 := by
  rcases h with h | h
  · rw [h, List.drop_of_length_le (Nat.le_refl _), com_nil]
  · rw [h, List.drop_of_length_le (Nat.le_refl _), com_nil']

theorem com_in {xs ys : List ByteArray} {i j : Nat} (hi : i < xs.length) (hj : j < ys.length) :
    com (xs.drop i) (ys.drop j) = if xs.getD i ByteArray.empty = ys.getD j ByteArray.empty then max (com (xs.drop (i + 1)) (ys.drop (j + 1)) + 1) (max (com (xs.drop (i + 1)) (ys.drop j)) (com (xs.drop i) (ys.drop (j + 1))))
      else max (com (xs.drop (i + 1)) (ys.drop j)) (com (xs.drop i) (ys.drop (j + 1))) := by
  conv => lhs; rw [drop_at hi, drop_at hj, com_cons]
  rw [← drop_at hi, ← drop_at hj]

theorem com_le {a b : List ByteArray} : com a b ≤ a.length := by
  have h1 := com_dist a b
  have h2 := dist_big a b
  omega

theorem Tryd.infoInts : (Tryd.prog.info? 86).map (fun i => (i.zero, i.size, i.bytes)) = some (some (.slice none 0 0), 1, 24) := by kernel_rfl
theorem Tryd.infoInt : (Tryd.prog.info? 3).map (fun i => (i.zero, i.size, i.bytes)) = some (some (.int .i64 0), 1, 8) := by kernel_rfl

theorem made_at (z : Value) (n k : Nat) (hk : k < n) : (madeCells #[z] n)[k]? = some z := by
  have hs : (madeCells #[z] n).size = n := by simp [madeCells]
  rw [Array.getElem?_eq_getElem (by omega)]
  simp [madeCells, Nat.mod_one]

set_option maxRecDepth 100000 in
set_option maxHeartbeats 1000000 in
theorem common (a b : Option Addr) (xs ys : List ByteArray) (ca cb : Nat) (w : World) (ha : Strs w a xs) (hb : Strs w b ys) (h1 : xs.length ≤ 60) (h2 : ys.length ≤ 60) :
    Calls Tryd.prog 48 #[.slice a xs.length ca, .slice b ys.length cb] w fun e w' => e = .returned (.slice (some ⟨w.heap.size, 0, none⟩) (xs.length + 1) (xs.length + 1)) ∧
      Below w.heap.size w w' ∧ w.heap.size < w'.heap.size ∧ Com w' w.heap.size w'.heap.size xs.length ys.length xs ys (fun _ => True) := by
  obtain ⟨m, hm⟩ : ∃ m, xs.length = m := ⟨_, rfl⟩
  obtain ⟨n, hn⟩ : ∃ n, ys.length = n := ⟨_, rfl⟩
  rw [hm] at h1 ⊢
  rw [hn] at h2 ⊢
  have HM : Hid (xs.length = m) := hm
  have HN : Hid (ys.length = n) := hn
  have HA : Hid (Strs w a xs) := ha
  have HBB : Hid (Strs w b ys) := hb
  clear hm hn ha hb
  obtain ⟨B, hB⟩ : ∃ B, w.heap.size = B := ⟨_, rfl⟩
  rw [hB]
  have HB : Hid (w.heap.size = B) := hB
  have hmk1 := run_make_row' (P := Tryd.prog) 84 86 (.slice none 0 0) 24 Tryd.underlying84 Tryd.infoInts rfl .i64 .i64 (m + 1) (by omega) (by omega)
  have hmk2 := run_make_row' (P := Tryd.prog) 86 3 (.int .i64 0) 8 Tryd.underlying86 Tryd.infoInt rfl .i64 .i64 (n + 1) (by omega) (by omega)
  simp only [Int.natCast_add, Int.natCast_one] at hmk1 hmk2
  go_enter Tryd.func48, Tryd.ntmps48
  go_wp2
  clear hmk1
  go_loopw [6] (fun s6 w1 => ∃ k : Int, -1 ≤ k ∧ k ≤ m ∧ s6 = .int .i64 k ∧ Below B w w1 ∧ B < w1.heap.size ∧ Com w1 B w1.heap.size m n xs ys (fun i => k < i)) (fun s6 _ => (intOf s6 + 1).toNat)
  case atStart =>
    refine ⟨m, by omega, by omega, rfl, (Below.refl _ _).alloc (by rw [hB]; exact Nat.le_refl _) _, by simp; omega, madeCells #[.slice none 0 0] (m + 1), ?_, size_madeCells _ _, fun i h hi => by omega⟩
    subst hB
    exact heap_alloc_new w _
  case round =>
    obtain ⟨k, hk0, hk1, rfl, hbl, hsz, hcom⟩ := hrel
    by_cases hk : 0 ≤ k
    · obtain ⟨i, rfl⟩ : ∃ i : Nat, k = i := ⟨k.toNat, by omega⟩
      obtain ⟨R, hR⟩ : ∃ R, wr.heap.size = R := ⟨_, rfl⟩
      have HC : Hid (Com wr B wr.heap.size m n xs ys (fun i' => (i : Int) < i')) := hcom
      have HL : Hid (Below B w wr) := hbl
      have hal : Below R wr (wr.alloc (.cells (madeCells #[.int .i64 0] (n + 1)) 3)) := by rw [← hR]; exact below_alloc _ _
      have hcom2 := (hcom.mono (Nat.le_refl _) (Q := fun i' => i < i') (fun i' h => by omega)).below (by rw [hR]; exact hal) hsz
      obtain ⟨v0, hc0⟩ := hcom2.any (i := i) (by omega)
      have hf0 := hcom2.frozen i
      clear hcom hbl
      have hst : CS w ((wr.alloc (.cells (madeCells #[.int .i64 0] (n + 1)) 3)).setCell ⟨B, i, none⟩ (.slice (some ⟨R, 0, none⟩) (n + 1) (n + 1))) B R m n i xs ys (fun k => if (n : Int) < k then com (xs.drop i) (ys.drop k) else 0) := by
        refine ⟨(HL.out.alloc (by omega) _).setCell (Nat.le_refl _) _, by omega, by simp; omega, ?_, World.cell?_setCell_same _ _ _ hc0, ?_⟩
        · rw [hR] at hcom2
          exact hcom2.hang (by omega) _
        · refine Row.other ?_ (by omega) _ _
          refine ⟨madeCells #[.int .i64 0] (n + 1), ?_, size_madeCells _ _, fun k hk => ?_⟩
          · rw [← hR]; exact heap_alloc_new wr _
          · rw [made_at _ _ _ (by omega)]
            show some (Value.int .i64 0) = some (.int .i64 (if (n : Int) < k then _ else 0))
            rw [if_neg (by omega)]
      have HST : Hid (CS w ((wr.alloc (.cells (madeCells #[.int .i64 0] (n + 1)) 3)).setCell ⟨B, i, none⟩ (.slice (some ⟨R, 0, none⟩) (n + 1) (n + 1))) B R m n i xs ys (fun k => if (n : Int) < k then com (xs.drop i) (ys.drop k) else 0)) := hst
      clear hst hcom2 hal HC HL
      go_wp2
      clear hmk2
      go_loopw [7] (fun s7 w1 => ∃ l : Int, -1 ≤ l ∧ l ≤ n ∧ s7 = .int .i64 l ∧ CS w w1 B R m n i xs ys (fun k => if l < k then com (xs.drop i) (ys.drop k) else 0)) (fun s7 _ => (intOf s7 + 1).toNat)
      case atStart =>
        exact ⟨n, by omega, by omega, rfl, HST.out⟩
      case round =>
        clear HST hc0 hf0 hR hsz
        obtain ⟨l, hl0, hl1, rfl, hcs⟩ := hrel
        by_cases hl : 0 ≤ l
        · obtain ⟨j, rfl⟩ : ∃ j : Nat, l = j := ⟨l.toNat, by omega⟩
          have HCS : Hid (CS w wr B R m n i xs ys (fun k => if (j : Int) < k then com (xs.drop i) (ys.drop k) else 0)) := hcs
          clear hcs
          by_cases hend : i = m ∨ j = n
          · have HZ : Hid (CS w wr B R m n i xs ys (fun k => if (j : Int) - 1 < k then com (xs.drop i) (ys.drop k) else 0)) := HCS.out.congr fun k hk => by
              by_cases e : k = j
              · subst e
                rw [if_neg (by omega), if_pos (by omega), com_end (by rw [HM.out, HN.out]; exact hend)]; rfl
              · by_cases e2 : (j : Int) < k
                · rw [if_pos e2, if_pos (by omega)]
                · rw [if_neg e2, if_neg (by omega)]
            clear HCS
            by_cases hi : i = m
            case' pos => subst hi
            case' neg =>
              have hie : ((i : Int) == (m : Int)) = false := by simp; omega
              have hj : j = n := by omega
              subst hj
            all_goals
              clear hend
              go_wp2
              go_roundw
              case rel => exact ⟨j - 1, by omega, by omega, rfl, HZ.out⟩
              case measure => simp [intOf]
          · have him : i < m := by omega
            have hjn : j < n := by omega
            have hie : ((i : Int) == (m : Int)) = false := by simp; omega
            have hje : ((j : Int) == (n : Int)) = false := by simp; omega
            obtain ⟨R', p1, p2, p3, p4, p5, p6, p7⟩ := HCS.out.facts him hjn
            have hin := com_in (xs := xs) (ys := ys) (i := i) (j := j) (by rw [HM.out]; exact him) (by rw [HN.out]; exact hjn)
            rw [if_pos (by omega)] at p6
            have b1 := com_le (a := xs.drop (i + 1)) (b := ys.drop j)
            have b2 := com_le (a := xs.drop i) (b := ys.drop (j + 1))
            have b3 := com_le (a := xs.drop (i + 1)) (b := ys.drop (j + 1))
            rw [List.length_drop, HM.out] at b1 b2 b3
            obtain ⟨v1, hv1⟩ : ∃ v, com (xs.drop (i + 1)) (ys.drop j) = v := ⟨_, rfl⟩
            obtain ⟨v2, hv2⟩ : ∃ v, com (xs.drop i) (ys.drop (j + 1)) = v := ⟨_, rfl⟩
            obtain ⟨v3, hv3⟩ : ∃ v, com (xs.drop (i + 1)) (ys.drop (j + 1)) = v := ⟨_, rfl⟩
            rw [hv1] at p2 hin b1
            rw [hv2] at p6 hin b2
            rw [hv3] at p3 hin b3
            have HV1 : Hid (com (xs.drop (i + 1)) (ys.drop j) = v1) := hv1
            have HV2 : Hid (com (xs.drop i) (ys.drop (j + 1)) = v2) := hv2
            have HV3 : Hid (com (xs.drop (i + 1)) (ys.drop (j + 1)) = v3) := hv3
            have hin' : ∃ x y, xs.getD i ByteArray.empty = x ∧ ys.getD j ByteArray.empty = y := ⟨_, _, rfl, rfl⟩
            obtain ⟨x, y, hx, hy⟩ := hin'
            have hsa := HA.out
            have hsb := HBB.out
            obtain ⟨ba, oa, rfl, hca⟩ := Strs.at hsa (i := i) (by rw [HM.out]; exact him)
            obtain ⟨bb, ob, rfl, hcb⟩ := Strs.at hsb (i := j) (by rw [HN.out]; exact hjn)
            replace hca := hca i (by rw [HM.out]; exact him)
            replace hcb := hcb j (by rw [HN.out]; exact hjn)
            rw [hx] at hca hin
            rw [hy] at hcb hin
            have HCA : Hid (w.cell? ⟨ba, oa + i, none⟩ = some (.string x)) := hca
            have HCB : Hid (w.cell? ⟨bb, ob + j, none⟩ = some (.string y)) := hcb
            have HIN : Hid (com (xs.drop i) (ys.drop j) = if x = y then max (v3 + 1) (max v1 v2) else max v1 v2) := hin
            clear hv1 hv2 hv3 hx hy hsa hsb hca hcb hin hend
            go_wp2
            go_region
            have hcs2 := HCS.out.store' (j := j) (by omega) v1
            generalize (wr.setCell ⟨R, j, none⟩ (.int .i64 v1)).drew = W2 at hcs2 ⊢
            have HCS2 : Hid (CS w W2 B R m n i xs ys (fun k => if k = j then (v1 : Int) else if (j : Int) < k then com (xs.drop i) (ys.drop k) else 0)) := hcs2
            clear hcs2 HCS p1 p2 p3 p4 p5 p6 p7
            obtain ⟨R2, p1, p2, p3, p4, p5, p6, p7⟩ := HCS2.out.facts him hjn
            rw [if_pos rfl] at p5
            rw [if_neg (by omega), if_pos (by omega), HV2.out] at p6
            rw [HV1.out] at p2
            rw [HV3.out] at p3
            by_cases hgt : (v1 : Int) < v2
            case' pos =>
              go_wp2
              go_quiet (fail)
              go_wp2
              go_region
              have hcs3 := HCS2.out.store (nq + 1) (j := j) (by omega) v2
              generalize (W2.drewN (nq + 1)).setCell ⟨R, j, none⟩ (.int .i64 v2) = W3 at hcs3 ⊢
              have hcur : ∃ u, u = max v1 v2 ∧ CS w W3 B R m n i xs ys (fun k => if k = j then (u : Int) else if (j : Int) < k then com (xs.drop i) (ys.drop k) else 0) := ⟨v2, by omega, hcs3.congr fun k hk => by
                by_cases e : k = j
                · rw [if_pos e, if_pos e]
                · rw [if_neg e, if_neg e, if_neg e]⟩
              clear hcs3 HCS2 p1 p2 p3 p4 p5 p6 p7
            case' neg =>
              go_wp2
              go_quiet (fail)
              go_wp2
              have hcs3 := HCS2.out.drawn nq
              generalize W2.drewN nq = W3 at hcs3 ⊢
              have hcur : ∃ u, u = max v1 v2 ∧ CS w W3 B R m n i xs ys (fun k => if k = j then (u : Int) else if (j : Int) < k then com (xs.drop i) (ys.drop k) else 0) := ⟨v1, by omega, hcs3⟩
              clear hcs3 HCS2 p1 p2 p3 p4 p5 p6 p7
            all_goals
              obtain ⟨u, hu, hcs3⟩ := hcur
              have HU : Hid (u = max v1 v2) := hu
              have hul : u ≤ 60 := by omega
              have HCS3 : Hid (CS w W3 B R m n i xs ys (fun k => if k = j then (u : Int) else if (j : Int) < k then com (xs.drop i) (ys.drop k) else 0)) := hcs3
              have hb3 := hcs3.1
              obtain ⟨R3, p1, p2, p3, p4, p5, p6, p7⟩ := HCS3.out.facts him hjn
              rw [if_pos rfl] at p5
              rw [if_neg (by omega), if_pos (by omega), HV2.out] at p6
              rw [HV1.out] at p2
              rw [HV3.out] at p3
              have hca := cell_later (by rw [HB.out]; exact hb3) HCA.out
              have hcb := cell_later (by rw [HB.out]; exact hb3) HCB.out
              clear hcs3 hb3 hu
              have HF : Hid (∀ (c : Nat) (W : World), CS w W B R m n i xs ys (fun k => if k = j then (c : Int) else if (j : Int) < k then com (xs.drop i) (ys.drop k) else 0) → c = com (xs.drop i) (ys.drop j) → CS w W B R m n i xs ys (fun k => if (j : Int) - 1 < k then com (xs.drop i) (ys.drop k) else 0)) := fun c W h e => h.congr fun k hk => by
                by_cases e1 : k = j
                · subst e1; rw [if_pos rfl, if_pos (by omega), e]
                · rw [if_neg e1]
                  by_cases e2 : (j : Int) < k
                  · rw [if_pos e2, if_pos (by omega)]
                  · rw [if_neg e2, if_neg (by omega)]
              by_cases he : (x.toList == y.toList) = true
              · have HE : Hid (com (xs.drop i) (ys.drop j) = max (v3 + 1) u) := by
                  show com (xs.drop i) (ys.drop j) = max (v3 + 1) u
                  rw [HIN.out, if_pos (bytes_eq he), HU.out]
                by_cases hgt3 : (u : Int) < (v3 : Int) + 1
                · go_wp2
                  go_quiet (fail)
                  go_wp2
                  go_region
                  go_wp2
                  go_roundw
                  case rel =>
                    refine ⟨j - 1, by omega, by omega, rfl, HF.out (v3 + 1) _ ((HCS3.out.store _ (j := j) (by omega) _).congr fun k hk => ?_) (by rw [HE.out]; omega)⟩
                    by_cases e : k = j
                    · rw [if_pos e, if_pos e]; omega
                    · rw [if_neg e, if_neg e, if_neg e]
                  case measure => simp [intOf]
                · have hgt3' : decide ((u : Int) < (v3 : Int) + 1) = false := by simpa using hgt3
                  go_wp2
                  go_quiet (fail)
                  go_wp2
                  go_roundw
                  case rel => exact ⟨j - 1, by omega, by omega, rfl, HF.out u _ (HCS3.out.drawn _) (by rw [HE.out]; omega)⟩
                  case measure => simp [intOf]
              · have he : (x.toList == y.toList) = false := by simpa using he
                have HE : Hid (com (xs.drop i) (ys.drop j) = u) := by
                  show com (xs.drop i) (ys.drop j) = u
                  rw [HIN.out, if_neg (bytes_ne he), HU.out]
                go_wp2
                go_quiet (fail)
                go_wp2
                go_roundw
                case rel => exact ⟨j - 1, by omega, by omega, rfl, HF.out u _ (HCS3.out.drawn _) HE.out.symm⟩
                case measure => simp [intOf]
        · have HCS := hcs
          go_wp2
          go_roundw
          case rel => exact ⟨i - 1, by omega, by omega, rfl, hcs.1, by have := hcs.2.1; have := hcs.2.2.1; omega, (hcs.full fun k hk => by rw [if_pos (by omega)]).mono (Nat.le_refl _) fun i' h => by omega⟩
          case measure => simp [intOf]
    · go_wp2
      go_ret
      exact ⟨rfl, hbl, hsz, hcom.mono (Nat.le_refl _) fun i' h => by omega⟩

end Go.Proofs.YtmidbhikhbbpbacDoor
