/-
  Walk of the document's own table: of each two places how many lines, from there on, can be kept at the most. Walks of the document's own answers for two files: how far it is, and the script. Scripts that edit.Script and the document's own answer make, once more: each with room for its marks.
-/
import Derived.Test.YtnkdmgekpajfhadGreatDoorXh

namespace Go.Proofs.YtnkdmgekpajfhadGreatDoor
open Go.RowKit Dist

/-- A row of numbers in memory. -/
def Row (w : World) (R n : Nat) (f : Nat → Int) : Prop :=
  ∃ rs : Array Value, w.heap[R]? = some (.cells rs 3 (0, 0)) ∧ rs.size = n + 1 ∧ ∀ k, k ≤ n → rs[k]? = some (.int .i64 (f k))

theorem Row.cell {w : World} {R n : Nat} {f : Nat → Int} (h : Row w R n f) {k : Nat} (hk : k ≤ n) : w.cell? ⟨R, k, none⟩ = some (.int .i64 (f k)) := by
  obtain ⟨rs, hb, _, hat⟩ := h
  rw [Lib.cell_of_heap hb]; exact hat k hk

theorem Row.frozen {w : World} {R n : Nat} {f : Nat → Int} (h : Row w R n f) (k : Nat) : w.frozen? ⟨R, k, none⟩ = false := by
  obtain ⟨rs, hb, _, _⟩ := h
  exact Lib.frozen_of_heap hb k

theorem Row.congr {w : World} {R n : Nat} {f g : Nat → Int} (h : Row w R n f) (e : ∀ k, k ≤ n → f k = g k) : Row w R n g := by
  obtain ⟨rs, hb, hs, hat⟩ := h
  exact ⟨rs, hb, hs, fun k hk => by rw [← e k hk]; exact hat k hk⟩

theorem Row.below {w w' : World} {R n : Nat} {f : Nat → Int} (h : Row w R n f) {U : Nat} (hb : Below U w w') (hR : R < U) : Row w' R n f := by
  obtain ⟨rs, hh, hs, hat⟩ := h
  exact ⟨rs, blk_below hb hR hh, hs, hat⟩

theorem Row.drawn {w : World} {R n : Nat} {f : Nat → Int} (h : Row w R n f) (q : Nat) : Row (w.drewN q) R n f := h

theorem Row.set {w : World} {R n : Nat} {f : Nat → Int} (h : Row w R n f) {j : Nat} (hj : j ≤ n) (u : Int) : Row (w.setCell ⟨R, j, none⟩ (.int .i64 u)) R n (fun k => if k = j then u else f k) := by
  obtain ⟨rs, hb, hs, hat⟩ := h
  refine ⟨_, blk_set hb _, by simpa using hs, fun k hk => ?_⟩
  by_cases e : k = j
  · subst e
    rw [Array.getElem?_setIfInBounds_self_of_lt (by omega)]
    simp
  · rw [Array.getElem?_setIfInBounds_ne (Ne.symm e), hat k hk]
    simp [e]

theorem Row.other {w : World} {R n : Nat} {f : Nat → Int} (h : Row w R n f) {B : Nat} (hB : B ≠ R) (i : Nat) (v : Value) : Row (w.setCell ⟨B, i, none⟩ v) R n f := by
  obtain ⟨rs, hb, h2⟩ := h
  have e : (w.setCell ⟨B, i, none⟩ v).heap[R]? = w.heap[R]? := by
    simp only [World.setCell, Array.getElem?_modify]
    rw [if_neg hB]
  exact ⟨rs, by rw [e]; exact hb, h2⟩

/-- The table in memory: of the places that P names the row is there, below the block U. -/
def Com (w : World) (B U m n : Nat) (xs ys : List ByteArray) (P : Nat → Prop) : Prop :=
  ∃ cs : Array Value, w.heap[B]? = some (.cells cs 119 (0, 0)) ∧ cs.size = m + 1 ∧
    ∀ i, P i → i ≤ m → ∃ R, cs[i]? = some (.slice (some ⟨R, 0, none⟩) (n + 1) (n + 1)) ∧ B < R ∧ R < U ∧ Row w R n (fun k => com (xs.drop i) (ys.drop k))

theorem Com.below {w w' : World} {B U m n : Nat} {xs ys : List ByteArray} {P : Nat → Prop} (h : Com w B U m n xs ys P) (hb : Below U w w') (hB : B < U) : Com w' B U m n xs ys P := by
  obtain ⟨cs, hc, hs, hat⟩ := h
  refine ⟨cs, blk_below hb hB hc, hs, fun i hp hi => ?_⟩
  obtain ⟨R, h1, h2, h3, h4⟩ := hat i hp hi
  exact ⟨R, h1, h2, h3, h4.below hb h3⟩

theorem Com.at {w : World} {B U m n : Nat} {xs ys : List ByteArray} {P : Nat → Prop} (h : Com w B U m n xs ys P) {i : Nat} (hp : P i) (hi : i ≤ m) :
    ∃ R, w.cell? ⟨B, i, none⟩ = some (.slice (some ⟨R, 0, none⟩) (n + 1) (n + 1)) ∧ B < R ∧ R < U ∧ Row w R n (fun k => com (xs.drop i) (ys.drop k)) := by
  obtain ⟨cs, hc, hs, hat⟩ := h
  obtain ⟨R, h1, h2⟩ := hat i hp hi
  exact ⟨R, by rw [Lib.cell_of_heap hc]; exact h1, h2⟩

theorem Com.frozen {w : World} {B U m n : Nat} {xs ys : List ByteArray} {P : Nat → Prop} (h : Com w B U m n xs ys P) (i : Nat) : w.frozen? ⟨B, i, none⟩ = false := by
  obtain ⟨cs, hc, _⟩ := h
  exact Lib.frozen_of_heap hc i

theorem Com.any {w : World} {B U m n : Nat} {xs ys : List ByteArray} {P : Nat → Prop} (h : Com w B U m n xs ys P) {i : Nat} (hi : i ≤ m) : ∃ v, w.cell? ⟨B, i, none⟩ = some v := by
  obtain ⟨cs, hc, hs, _⟩ := h
  rw [Lib.cell_of_heap hc]
  exact ⟨_, Array.getElem?_eq_getElem (by omega)⟩

theorem Com.mono {w : World} {B U V m n : Nat} {xs ys : List ByteArray} {P Q : Nat → Prop} (h : Com w B U m n xs ys P) (hU : U ≤ V) (hq : ∀ i, Q i → P i) : Com w B V m n xs ys Q := by
  obtain ⟨cs, hc, hs, hat⟩ := h
  refine ⟨cs, hc, hs, fun i hp hi => ?_⟩
  obtain ⟨R, h1, h2, h3, h4⟩ := hat i (hq i hp) hi
  exact ⟨R, h1, h2, by omega, h4⟩

/-- A row is hung in. -/
theorem Com.hang {w : World} {B U m n : Nat} {xs ys : List ByteArray} {P : Nat → Prop} (h : Com w B U m n xs ys P) {i : Nat} (hP : ¬ P i) (v : Value) : Com (w.setCell ⟨B, i, none⟩ v) B U m n xs ys P := by
  obtain ⟨cs, hc, hs, hat⟩ := h
  refine ⟨_, blk_set hc _, by simpa using hs, fun i' hp hi' => ?_⟩
  obtain ⟨R, h1, h2, h3, rs, hb, h4⟩ := hat i' hp hi'
  have hne : i ≠ i' := fun e => hP (e ▸ hp)
  have hB : (w.setCell ⟨B, i, none⟩ v).heap[R]? = w.heap[R]? := by
    simp only [World.setCell, Array.getElem?_modify]
    rw [if_neg (by omega)]
  exact ⟨R, by rw [Array.getElem?_setIfInBounds_ne hne]; exact h1, h2, h3, rs, by rw [hB]; exact hb, h4⟩

/-- What holds while a row is filled. -/
def CS (w W : World) (B R m n i : Nat) (xs ys : List ByteArray) (f : Nat → Int) : Prop :=
  Below B w W ∧ B < R ∧ R < W.heap.size ∧ Com W B R m n xs ys (fun i' => i < i') ∧ W.cell? ⟨B, i, none⟩ = some (.slice (some ⟨R, 0, none⟩) (n + 1) (n + 1)) ∧ Row W R n f

theorem CS.store {w W : World} {B R m n i : Nat} {xs ys : List ByteArray} {f : Nat → Int} (h : CS w W B R m n i xs ys f) (q : Nat) {j : Nat} (hj : j ≤ n) (u : Int) :
    CS w ((W.drewN q).setCell ⟨R, j, none⟩ (.int .i64 u)) B R m n i xs ys (fun k => if k = j then u else f k) := by
  obtain ⟨h1, h2, h3, h4, h5, h6⟩ := h
  have hb : Below R W ((W.drewN q).setCell ⟨R, j, none⟩ (.int .i64 u)) := Below.setCell (below_drawn (Below.refl R W)) (show R ≤ (⟨R, j, none⟩ : Addr).block from Nat.le_refl R) _
  refine ⟨h1.trans (hb.mono (by omega)), h2, by simpa using h3, h4.below hb h2, ?_, (h6.drawn q).set hj u⟩
  have e : ((W.drewN q).setCell ⟨R, j, none⟩ (.int .i64 u)).cell? ⟨B, i, none⟩ = (W.drewN q).cell? ⟨B, i, none⟩ := by
    apply World.cell?_setCell_other
    intro e
    have := congrArg Addr.block e
    simp only at this
    omega
  rw [e]; exact h5

theorem CS.drawn {w W : World} {B R m n i : Nat} {xs ys : List ByteArray} {f : Nat → Int} (h : CS w W B R m n i xs ys f) (q : Nat) : CS w (W.drewN q) B R m n i xs ys f := by
  obtain ⟨h1, h2, h3, h4, h5, h6⟩ := h
  exact ⟨below_drawn h1, h2, h3, h4, h5, h6⟩

theorem CS.store' {w W : World} {B R m n i : Nat} {xs ys : List ByteArray} {f : Nat → Int} (h : CS w W B R m n i xs ys f) {j : Nat} (hj : j ≤ n) (u : Int) :
    CS w ((W.setCell ⟨R, j, none⟩ (.int .i64 u)).drew) B R m n i xs ys (fun k => if k = j then u else f k) := by
  obtain ⟨h1, h2, h3, h4, h5, h6⟩ := h.store 0 hj u
  exact ⟨h1.trans ⟨rfl, rfl, rfl, Nat.le_refl _, fun _ _ => rfl⟩, h2, h3, h4, h5, h6⟩

theorem CS.congr {w W : World} {B R m n i : Nat} {xs ys : List ByteArray} {f g : Nat → Int} (h : CS w W B R m n i xs ys f) (e : ∀ k, k ≤ n → f k = g k) : CS w W B R m n i xs ys g := by
  obtain ⟨h1, h2, h3, h4, h5, h6⟩ := h
  exact ⟨h1, h2, h3, h4, h5, h6.congr e⟩

/-- A row is full: the table has it. -/
theorem CS.full {w W : World} {B R m n i : Nat} {xs ys : List ByteArray} {f : Nat → Int} (h : CS w W B R m n i xs ys f) (e : ∀ k, k ≤ n → f k = com (xs.drop i) (ys.drop k)) : Com W B W.heap.size m n xs ys (fun i' => i ≤ i') := by
  obtain ⟨h1, h2, h3, ⟨cs, hc, hs, hat⟩, h5, h6⟩ := h
  refine ⟨cs, hc, hs, fun i' hp hi => ?_⟩
  by_cases hei : i' = i
  · subst hei
    rw [Lib.cell_of_heap hc] at h5
    exact ⟨R, h5, h2, h3, h6.congr e⟩
  · obtain ⟨R', g1, g2, g3, g4⟩ := hat i' (show i < i' by omega) hi
    exact ⟨R', g1, g2, by omega, g4⟩

theorem CS.facts {w W : World} {B R m n i j : Nat} {xs ys : List ByteArray} {f : Nat → Int} (h : CS w W B R m n i xs ys f) (hi : i < m) (hj : j < n) :
    ∃ R', W.cell? ⟨B, i + 1, none⟩ = some (.slice (some ⟨R', 0, none⟩) (n + 1) (n + 1)) ∧ W.cell? ⟨R', j, none⟩ = some (.int .i64 (com (xs.drop (i + 1)) (ys.drop j))) ∧ W.cell? ⟨R', j + 1, none⟩ = some (.int .i64 (com (xs.drop (i + 1)) (ys.drop (j + 1)))) ∧
      W.cell? ⟨B, i, none⟩ = some (.slice (some ⟨R, 0, none⟩) (n + 1) (n + 1)) ∧ W.cell? ⟨R, j, none⟩ = some (.int .i64 (f j)) ∧ W.cell? ⟨R, j + 1, none⟩ = some (.int .i64 (f (j + 1))) ∧ W.frozen? ⟨R, j, none⟩ = false := by
  obtain ⟨h1, h2, h3, h4, h5, h6⟩ := h
  obtain ⟨R', g1, g2, g3, g4⟩ := h4.at (i := i + 1) (show i < i + 1 by omega) (by omega)
  exact ⟨R', g1, g4.cell (by omega), g4.cell (by omega), h5, h6.cell (by omega), h6.cell (by omega), h6.frozen j⟩

theorem com_end {xs ys : List ByteArray} {i j : Nat} (h : i = xs.length ∨ j = ys.length) : com (xs.drop i) (ys.drop j) = 0 := by
  rcases h with h | h
  · rw [h, List.drop_of_length_le (Nat.le_refl _), com_nil]
  · rw [h, List.drop_of_length_le (Nat.le_refl _), com_nil']

theorem com_in {xs ys : List ByteArray} {i j : Nat} (hi : i < xs.length) (hj : j < ys.length) :
    com (xs.drop i) (ys.drop j) = if xs.getD i ByteArray.empty = ys.getD j ByteArray.empty then max (com (xs.drop (i + 1)) (ys.drop (j + 1)) + 1) (max (com (xs.drop (i + 1)) (ys.drop j)) (com (xs.drop i) (ys.drop (j + 1))))
      else max (com (xs.drop (i + 1)) (ys.drop j)) (com (xs.drop i) (ys.drop (j + 1))) := by
  conv => lhs; rw [drop_at hi, drop_at hj, com_cons]
  rw [← drop_at hi, ← drop_at hj]

theorem com_le {a b : List ByteArray} : com a b ≤ a.length := by
  have h1 := com_dist a b
  have h2 := dist_big a b
  omega

theorem Tryz.infoInts : (Tryz.prog.info? 119).map (fun i => (i.zero, i.size, i.bytes)) = some (some (.slice none 0 0), 1, 24) := by kernel_rfl
theorem Tryz.infoInt : (Tryz.prog.info? 3).map (fun i => (i.zero, i.size, i.bytes)) = some (some (.int .i64 0), 1, 8) := by kernel_rfl

theorem made_at (z : Value) (n k : Nat) (hk : k < n) : (madeCells #[z] n)[k]? = some z := by
  have hs : (madeCells #[z] n).size = n := by simp [madeCells]
  rw [Array.getElem?_eq_getElem (by omega)]
  simp [madeCells, Nat.mod_one]

set_option maxRecDepth 100000 in
set_option maxHeartbeats 1000000 in
theorem common (a b : Option Addr) (xs ys : List ByteArray) (ca cb : Nat) (w : World) (ha : Strs w a xs) (hb : Strs w b ys) (h1 : xs.length ≤ 60) (h2 : ys.length ≤ 60) :
    Calls Tryz.prog 64 #[.slice a xs.length ca, .slice b ys.length cb] w fun e w' => e = .returned (.slice (some ⟨w.heap.size, 0, none⟩) (xs.length + 1) (xs.length + 1)) ∧
      Below w.heap.size w w' ∧ w.heap.size < w'.heap.size ∧ Com w' w.heap.size w'.heap.size xs.length ys.length xs ys (fun _ => True) := by
  obtain ⟨m, hm⟩ : ∃ m, xs.length = m := ⟨_, rfl⟩
  obtain ⟨n, hn⟩ : ∃ n, ys.length = n := ⟨_, rfl⟩
  rw [hm] at h1 ⊢
  rw [hn] at h2 ⊢
  have HM : Hid (xs.length = m) := hm
  have HN : Hid (ys.length = n) := hn
  have HA : Hid (Strs w a xs) := ha
  have HBB : Hid (Strs w b ys) := hb
  clear hm hn ha hb
  obtain ⟨B, hB⟩ : ∃ B, w.heap.size = B := ⟨_, rfl⟩
  rw [hB]
  have HB : Hid (w.heap.size = B) := hB
  have hmk1 := run_make_row' (P := Tryz.prog) 117 119 (.slice none 0 0) 24 Tryz.underlying117 Tryz.infoInts rfl .i64 .i64 (m + 1) (by omega) (by omega)
  have hmk2 := run_make_row' (P := Tryz.prog) 119 3 (.int .i64 0) 8 Tryz.underlying119 Tryz.infoInt rfl .i64 .i64 (n + 1) (by omega) (by omega)
  simp only [Int.natCast_add, Int.natCast_one] at hmk1 hmk2
  go_enter Tryz.func64, Tryz.ntmps64
  go_wp2
  clear hmk1
  go_loopw [6] (fun s6 w1 => ∃ k : Int, -1 ≤ k ∧ k ≤ m ∧ s6 = .int .i64 k ∧ Below B w w1 ∧ B < w1.heap.size ∧ Com w1 B w1.heap.size m n xs ys (fun i => k < i)) (fun s6 _ => (intOf s6 + 1).toNat)
  case atStart =>
    refine ⟨m, by omega, by omega, rfl, (Below.refl _ _).alloc (by rw [hB]; exact Nat.le_refl _) _, by simp; omega, madeCells #[.slice none 0 0] (m + 1), ?_, size_madeCells _ _, fun i h hi => by omega⟩
    subst hB
    exact heap_alloc_new w _
  case round =>
    obtain ⟨k, hk0, hk1, rfl, hbl, hsz, hcom⟩ := hrel
    by_cases hk : 0 ≤ k
    · obtain ⟨i, rfl⟩ : ∃ i : Nat, k = i := ⟨k.toNat, by omega⟩
      obtain ⟨R, hR⟩ : ∃ R, wr.heap.size = R := ⟨_, rfl⟩
      have HC : Hid (Com wr B wr.heap.size m n xs ys (fun i' => (i : Int) < i')) := hcom
      have HL : Hid (Below B w wr) := hbl
      have hal : Below R wr (wr.alloc (.cells (madeCells #[.int .i64 0] (n + 1)) 3)) := by rw [← hR]; exact below_alloc _ _
      have hcom2 := (hcom.mono (Nat.le_refl _) (Q := fun i' => i < i') (fun i' h => by omega)).below (by rw [hR]; exact hal) hsz
      obtain ⟨v0, hc0⟩ := hcom2.any (i := i) (by omega)
      have hf0 := hcom2.frozen i
      clear hcom hbl
      have hst : CS w ((wr.alloc (.cells (madeCells #[.int .i64 0] (n + 1)) 3)).setCell ⟨B, i, none⟩ (.slice (some ⟨R, 0, none⟩) (n + 1) (n + 1))) B R m n i xs ys (fun k => if (n : Int) < k then com (xs.drop i) (ys.drop k) else 0) := by
        refine ⟨(HL.out.alloc (by omega) _).setCell (Nat.le_refl _) _, by omega, by simp; omega, ?_, World.cell?_setCell_same _ _ _ hc0, ?_⟩
        · rw [hR] at hcom2
          exact hcom2.hang (by omega) _
        · refine Row.other ?_ (by omega) _ _
          refine ⟨madeCells #[.int .i64 0] (n + 1), ?_, size_madeCells _ _, fun k hk => ?_⟩
          · rw [← hR]; exact heap_alloc_new wr _
          · rw [made_at _ _ _ (by omega)]
            show some (Value.int .i64 0) = some (.int .i64 (if (n : Int) < k then _ else 0))
            rw [if_neg (by omega)]
      have HST : Hid (CS w ((wr.alloc (.cells (madeCells #[.int .i64 0] (n + 1)) 3)).setCell ⟨B, i, none⟩ (.slice (some ⟨R, 0, none⟩) (n + 1) (n + 1))) B R m n i xs ys (fun k => if (n : Int) < k then com (xs.drop i) (ys.drop k) else 0)) := hst
      clear hst hcom2 hal HC HL
      go_wp2
      clear hmk2
      go_loopw [7] (fun s7 w1 => ∃ l : Int, -1 ≤ l ∧ l ≤ n ∧ s7 = .int .i64 l ∧ CS w w1 B R m n i xs ys (fun k => if l < k then com (xs.drop i) (ys.drop k) else 0)) (fun s7 _ => (intOf s7 + 1).toNat)
      case atStart =>
        exact ⟨n, by omega, by omega, rfl, HST.out⟩
      case round =>
        clear HST hc0 hf0 hR hsz
        obtain ⟨l, hl0, hl1, rfl, hcs⟩ := hrel
        by_cases hl : 0 ≤ l
        · obtain ⟨j, rfl⟩ : ∃ j : Nat, l = j := ⟨l.toNat, by omega⟩
          have HCS : Hid (CS w wr B R m n i xs ys (fun k => if (j : Int) < k then com (xs.drop i) (ys.drop k) else 0)) := hcs
          clear hcs
          by_cases hend : i = m ∨ j = n
          · have HZ : Hid (CS w wr B R m n i xs ys (fun k => if (j : Int) - 1 < k then com (xs.drop i) (ys.drop k) else 0)) := HCS.out.congr fun k hk => by
              by_cases e : k = j
              · subst e
                rw [if_neg (by omega), if_pos (by omega), com_end (by rw [HM.out, HN.out]; exact hend)]; rfl
              · by_cases e2 : (j : Int) < k
                · rw [if_pos e2, if_pos (by omega)]
                · rw [if_neg e2, if_neg (by omega)]
            clear HCS
            by_cases hi : i = m
            case' pos => subst hi
            case' neg =>
              have hie : ((i : Int) == (m : Int)) = false := by simp; omega
              have hj : j = n := by omega
              subst hj
            all_goals
              clear hend
              go_wp2
              go_roundw
              case rel => exact ⟨j - 1, by omega, by omega, rfl, HZ.out⟩
              case measure => simp [intOf]
          · have him : i < m := by omega
            have hjn : j < n := by omega
            have hie : ((i : Int) == (m : Int)) = false := by simp; omega
            have hje : ((j : Int) == (n : Int)) = false := by simp; omega
            obtain ⟨R', p1, p2, p3, p4, p5, p6, p7⟩ := HCS.out.facts him hjn
            have hin := com_in (xs := xs) (ys := ys) (i := i) (j := j) (by rw [HM.out]; exact him) (by rw [HN.out]; exact hjn)
            rw [if_pos (by omega)] at p6
            have b1 := com_le (a := xs.drop (i + 1)) (b := ys.drop j)
            have b2 := com_le (a := xs.drop i) (b := ys.drop (j + 1))
            have b3 := com_le (a := xs.drop (i + 1)) (b := ys.drop (j + 1))
            rw [List.length_drop, HM.out] at b1 b2 b3
            obtain ⟨v1, hv1⟩ : ∃ v, com (xs.drop (i + 1)) (ys.drop j) = v := ⟨_, rfl⟩
            obtain ⟨v2, hv2⟩ : ∃ v, com (xs.drop i) (ys.drop (j + 1)) = v := ⟨_, rfl⟩
            obtain ⟨v3, hv3⟩ : ∃ v, com (xs.drop (i + 1)) (ys.drop (j + 1)) = v := ⟨_, rfl⟩
            rw [hv1] at p2 hin b1
            rw [hv2] at p6 hin b2
            rw [hv3] at p3 hin b3
            have HV1 : Hid (com (xs.drop (i + 1)) (ys.drop j) = v1) := hv1
            have HV2 : Hid (com (xs.drop i) (ys.drop (j + 1)) = v2) := hv2
            have HV3 : Hid (com (xs.drop (i + 1)) (ys.drop (j + 1)) = v3) := hv3
            have hin' : ∃ x y, xs.getD i ByteArray.empty = x ∧ ys.getD j ByteArray.empty = y := ⟨_, _, rfl, rfl⟩
            obtain ⟨x, y, hx, hy⟩ := hin'
            have hsa := HA.out
            have hsb := HBB.out
            obtain ⟨ba, oa, rfl, hca⟩ := Strs.at hsa (i := i) (by rw [HM.out]; exact him)
            obtain ⟨bb, ob, rfl, hcb⟩ := Strs.at hsb (i := j) (by rw [HN.out]; exact hjn)
            replace hca := hca i (by rw [HM.out]; exact him)
            replace hcb := hcb j (by rw [HN.out]; exact hjn)
            rw [hx] at hca hin
            rw [hy] at hcb hin
            have HCA : Hid (w.cell? ⟨ba, oa + i, none⟩ = some (.string x)) := hca
            have HCB : Hid (w.cell? ⟨bb, ob + j, none⟩ = some (.string y)) := hcb
            have HIN : Hid (com (xs.drop i) (ys.drop j) = if x = y then max (v3 + 1) (max v1 v2) else max v1 v2) := hin
            clear hv1 hv2 hv3 hx hy hsa hsb hca hcb hin hend
            go_wp2
            go_region
            have hcs2 := HCS.out.store' (j := j) (by omega) v1
            generalize (wr.setCell ⟨R, j, none⟩ (.int .i64 v1)).drew = W2 at hcs2 ⊢
            have HCS2 : Hid (CS w W2 B R m n i xs ys (fun k => if k = j then (v1 : Int) else if (j : Int) < k then com (xs.drop i) (ys.drop k) else 0)) := hcs2
            clear hcs2 HCS p1 p2 p3 p4 p5 p6 p7
            obtain ⟨R2, p1, p2, p3, p4, p5, p6, p7⟩ := HCS2.out.facts him hjn
            rw [if_pos rfl] at p5
            rw [if_neg (by omega), if_pos (by omega), HV2.out] at p6
            rw [HV1.out] at p2
            rw [HV3.out] at p3
            by_cases hgt : (v1 : Int) < v2
            case' pos =>
              go_wp2
              go_quiet (fail)
              go_wp2
              go_region
              have hcs3 := HCS2.out.store (nq + 1) (j := j) (by omega) v2
              generalize (W2.drewN (nq + 1)).setCell ⟨R, j, none⟩ (.int .i64 v2) = W3 at hcs3 ⊢
              have hcur : ∃ u, u = max v1 v2 ∧ CS w W3 B R m n i xs ys (fun k => if k = j then (u : Int) else if (j : Int) < k then com (xs.drop i) (ys.drop k) else 0) := ⟨v2, by omega, hcs3.congr fun k hk => by
                by_cases e : k = j
                · rw [if_pos e, if_pos e]
                · rw [if_neg e, if_neg e, if_neg e]⟩
              clear hcs3 HCS2 p1 p2 p3 p4 p5 p6 p7
            case' neg =>
              go_wp2
              go_quiet (fail)
              go_wp2
              have hcs3 := HCS2.out.drawn nq
              generalize W2.drewN nq = W3 at hcs3 ⊢
              have hcur : ∃ u, u = max v1 v2 ∧ CS w W3 B R m n i xs ys (fun k => if k = j then (u : Int) else if (j : Int) < k then com (xs.drop i) (ys.drop k) else 0) := ⟨v1, by omega, hcs3⟩
              clear hcs3 HCS2 p1 p2 p3 p4 p5 p6 p7
            all_goals
              obtain ⟨u, hu, hcs3⟩ := hcur
              have HU : Hid (u = max v1 v2) := hu
              have hul : u ≤ 60 := by omega
              have HCS3 : Hid (CS w W3 B R m n i xs ys (fun k => if k = j then (u : Int) else if (j : Int) < k then com (xs.drop i) (ys.drop k) else 0)) := hcs3
              have hb3 := hcs3.1
              obtain ⟨R3, p1, p2, p3, p4, p5, p6, p7⟩ := HCS3.out.facts him hjn
              rw [if_pos rfl] at p5
              rw [if_neg (by omega), if_pos (by omega), HV2.out] at p6
              rw [HV1.out] at p2
              rw [HV3.out] at p3
              have hca := cell_later (by rw [HB.out]; exact hb3) HCA.out
              have hcb := cell_later (by rw [HB.out]; exact hb3) HCB.out
              clear hcs3 hb3 hu
              have HF : Hid (∀ (c : Nat) (W : World), CS w W B R m n i xs ys (fun k => if k = j then (c : Int) else if (j : Int) < k then com (xs.drop i) (ys.drop k) else 0) → c = com (xs.drop i) (ys.drop j) → CS w W B R m n i xs ys (fun k => if (j : Int) - 1 < k then com (xs.drop i) (ys.drop k) else 0)) := fun c W h e => h.congr fun k hk => by
                by_cases e1 : k = j
                · subst e1; rw [if_pos rfl, if_pos (by omega), e]
                · rw [if_neg e1]
                  by_cases e2 : (j : Int) < k
                  · rw [if_pos e2, if_pos (by omega)]
                  · rw [if_neg e2, if_neg (by omega)]
              by_cases he : (x.toList == y.toList) = true
              · have HE : Hid (com (xs.drop i) (ys.drop j) = max (v3 + 1) u) := by
                  show com (xs.drop i) (ys.drop j) = max (v3 + 1) u
                  rw [HIN.out, if_pos (bytes_eq he), HU.out]
                by_cases hgt3 : (u : Int) < (v3 : Int) + 1
                · go_wp2
                  go_quiet (fail)
                  go_wp2
                  go_region
                  go_wp2
                  go_roundw
                  case rel =>
                    refine ⟨j - 1, by omega, by omega, rfl, HF.out (v3 + 1) _ ((HCS3.out.store _ (j := j) (by omega) _).congr fun k hk => ?_) (by rw [HE.out]; omega)⟩
                    by_cases e : k = j
                    · rw [if_pos e, if_pos e]; omega
                    · rw [if_neg e, if_neg e, if_neg e]
                  case measure => simp [intOf]
                · have hgt3' : decide ((u : Int) < (v3 : Int) + 1) = false := by simpa using hgt3
                  go_wp2
                  go_quiet (fail)
                  go_wp2
                  go_roundw
                  case rel => exact ⟨j - 1, by omega, by omega, rfl, HF.out u _ (HCS3.out.drawn _) (by rw [HE.out]; omega)⟩
                  case measure => simp [intOf]
              · have he : (x.toList == y.toList) = false := by simpa using he
                have HE : Hid (com (xs.drop i) (ys.drop j) = u) := by
                  show com (xs.drop i) (ys.drop j) = u
                  rw [HIN.out, if_neg (bytes_ne he), HU.out]
                go_wp2
                go_quiet (fail)
                go_wp2
                go_roundw
                case rel => exact ⟨j - 1, by omega, by omega, rfl, HF.out u _ (HCS3.out.drawn _) HE.out.symm⟩
                case measure => simp [intOf]
        · have HCS := hcs
          go_wp2
          go_roundw
          case rel => exact ⟨i - 1, by omega, by omega, rfl, hcs.1, by have := hcs.2.1; have := hcs.2.2.1; omega, (hcs.full fun k hk => by rw [if_pos (by omega)]).mono (Nat.le_refl _) fun i' h => by omega⟩
          case measure => simp [intOf]
    · go_wp2
      go_ret
      exact ⟨rfl, hbl, hsz, hcom.mono (Nat.le_refl _) fun i' h => by omega⟩

end Go.Proofs.YtnkdmgekpajfhadGreatDoor

namespace Go.Proofs.YtnkdmgekpajfhadGreatDoor
open Go.RowKit Dist

/-- What the document's script does next. -/
theorem ref_cases {xs ys : List ByteArray} {i j : Nat} (hi : i ≤ xs.length) (hj : j ≤ ys.length) (h : i < xs.length ∨ j < ys.length) :
    (i < xs.length ∧ j < ys.length ∧ xs.getD i ByteArray.empty = ys.getD j ByteArray.empty ∧ com (xs.drop (i + 1)) (ys.drop (j + 1)) + 1 = com (xs.drop i) (ys.drop j) ∧ scr (xs.drop i) (ys.drop j) = (32, xs.getD i ByteArray.empty) :: scr (xs.drop (i + 1)) (ys.drop (j + 1))) ∨
    (i < xs.length ∧ j = ys.length ∧ com (xs.drop (i + 1)) (ys.drop j) = com (xs.drop i) (ys.drop j) ∧ scr (xs.drop i) (ys.drop j) = (45, xs.getD i ByteArray.empty) :: scr (xs.drop (i + 1)) (ys.drop j)) ∨
    (i < xs.length ∧ j < ys.length ∧ xs.getD i ByteArray.empty ≠ ys.getD j ByteArray.empty ∧ com (xs.drop (i + 1)) (ys.drop j) = com (xs.drop i) (ys.drop j) ∧ scr (xs.drop i) (ys.drop j) = (45, xs.getD i ByteArray.empty) :: scr (xs.drop (i + 1)) (ys.drop j)) ∨
    (i = xs.length ∧ j < ys.length ∧ scr (xs.drop i) (ys.drop j) = (43, ys.getD j ByteArray.empty) :: scr (xs.drop i) (ys.drop (j + 1))) ∨
    (i < xs.length ∧ j < ys.length ∧ xs.getD i ByteArray.empty ≠ ys.getD j ByteArray.empty ∧ com (xs.drop (i + 1)) (ys.drop j) ≠ com (xs.drop i) (ys.drop j) ∧ scr (xs.drop i) (ys.drop j) = (43, ys.getD j ByteArray.empty) :: scr (xs.drop i) (ys.drop (j + 1))) := by
  by_cases e1 : i = xs.length
  · refine .inr (.inr (.inr (.inl ⟨e1, by omega, ?_⟩)))
    rw [e1, List.drop_of_length_le (Nat.le_refl _), drop_at (xs := ys) (i := j) (by omega), scr_put]
  by_cases e2 : j = ys.length
  · refine .inr (.inl ⟨by omega, e2, ?_, ?_⟩)
    · rw [com_end (.inr e2), com_end (.inr e2)]
    · rw [e2, List.drop_of_length_le (Nat.le_refl ys.length), drop_at (xs := xs) (i := i) (by omega), scr_take]
  have h1 : i < xs.length := by omega
  have h2 : j < ys.length := by omega
  have hs : scr (xs.drop i) (ys.drop j) = if xs.getD i ByteArray.empty = ys.getD j ByteArray.empty then (32, xs.getD i ByteArray.empty) :: scr (xs.drop (i + 1)) (ys.drop (j + 1)) else if dist (xs.drop (i + 1)) (ys.drop j) ≤ dist (xs.drop i) (ys.drop (j + 1)) then (45, xs.getD i ByteArray.empty) :: scr (xs.drop (i + 1)) (ys.drop j) else (43, ys.getD j ByteArray.empty) :: scr (xs.drop i) (ys.drop (j + 1)) := by
    conv => lhs; rw [drop_at h1, drop_at h2, scr_cons]
    rw [← drop_at h1, ← drop_at h2]
  by_cases e3 : xs.getD i ByteArray.empty = ys.getD j ByteArray.empty
  · refine .inl ⟨h1, h2, e3, ?_, by rw [hs, if_pos e3]⟩
    conv => rhs; rw [drop_at h1, drop_at h2, ← e3]
    exact com_keep _ _ _
  have hct := com_take (xs.getD i ByteArray.empty) (ys.getD j ByteArray.empty) (xs.drop (i + 1)) (ys.drop (j + 1)) e3
  rw [← drop_at h1, ← drop_at h2] at hct
  by_cases e4 : dist (xs.drop (i + 1)) (ys.drop j) ≤ dist (xs.drop i) (ys.drop (j + 1))
  · exact .inr (.inr (.inl ⟨h1, h2, e3, hct.2 e4, by rw [hs, if_neg e3, if_pos e4]⟩))
  · exact .inr (.inr (.inr (.inr ⟨h1, h2, e3, fun e => e4 (hct.1 e), by rw [hs, if_neg e3, if_neg e4]⟩)))

end Go.Proofs.YtnkdmgekpajfhadGreatDoor

namespace Go.Proofs.YtnkdmgekpajfhadGreatDoor
open Go.RowKit Dist

theorem mks_cap_own {B : Nat} {v : Value} {ms : List (Int × ByteArray)} {w : World} (h : w.ownsRow B 97 2 v ms.length (mcells ms)) : ∃ a cap, v = .slice a ms.length cap ∧ Mks w a ms ∧ ms.length ≤ cap := by
  obtain ⟨a, cap, rfl, hm⟩ := mks_of_own h
  refine ⟨a, cap, rfl, hm, ?_⟩
  rcases h.2 with ⟨h0, h1⟩ | ⟨g, c, cur, hv, _, _, hc, _⟩
  · rw [h1]; exact Nat.zero_le _
  · simp only [Value.slice.injEq] at hv
    rw [hv.2.2]; exact hc

set_option maxRecDepth 100000 in
set_option maxHeartbeats 2000000 in
theorem script_cap (a b : Option Addr) (xs ys : List ByteArray) (ca cb : Nat) (w : World) (ha : Strs w a xs) (hb : Strs w b ys) (hf : ff xs ys = 0) :
    Calls Tryz.prog 128 #[.slice a xs.length ca, .slice b ys.length cb] w fun e w' => ∃ a' cap, e = .returned (.tuple #[.slice a' (scr xs ys).length cap, .nilIface]) ∧ Mks w' a' (scr xs ys) ∧ Below w.heap.size w w' ∧ (scr xs ys).length ≤ cap := by
  obtain ⟨f1, f2⟩ := ff_zero hf
  have h1 := lsf_len f1
  have h2 := lsf_len f2
  have hck := checkBoth a b xs ys ca cb w ha hb (by unfold maxLen; omega) (by unfold maxLen; omega)
  have hte := toEnd a b xs ys ca cb w ha hb h1 h2
  rw [hf, errV_zero] at hck
  obtain ⟨i0, hi0, hz0, hz1, hz2⟩ := info_parts Tryz.infoMark
  have HXS : Hid (∀ i, i < xs.length → (xs.getD i ByteArray.empty).size ≤ 80) := fun i hi => line_small f1 hi
  have HYS : Hid (∀ i, i < ys.length → (ys.getD i ByteArray.empty).size ≤ 80) := fun i hi => line_small f2 hi
  have HSL : Hid ((scr xs ys).length ≤ 120) := by have := (scr_ok xs ys).2.2.2.1; show (scr xs ys).length ≤ 120; omega
  have HST := fun w' B i j ha hb => step a b xs ys ca cb B i j w' ha hb h1 h2
  have HSC := fun i j hi hj h => stp_cases (xs := xs) (ys := ys) (i := i) (j := j) hi hj h
  obtain ⟨m, hm⟩ : ∃ m, xs.length = m := ⟨_, rfl⟩
  obtain ⟨n, hn⟩ : ∃ n, ys.length = n := ⟨_, rfl⟩
  rw [hm] at h1 hck hte HST HSC HXS ⊢
  rw [hn] at h2 hck hte HST HSC HYS ⊢
  have HM : Hid (xs.length = m) := hm
  have HN : Hid (ys.length = n) := hn
  have HA : Hid (Strs w a xs) := ha
  have HBB : Hid (Strs w b ys) := hb
  clear hm hn ha hb f1 f2 hf
  obtain ⟨B, hB⟩ : ∃ B, w.heap.size = B := ⟨_, rfl⟩
  have HB : Hid (w.heap.size = B) := hB
  rw [hB] at hte ⊢
  clear hB
  go_enter Tryz.func128, Tryz.ntmps128
  go_wp2_with (first | (go_at_call 146; refine hck.mono ?_; rintro e w' ⟨rfl, hw⟩; rw [hw]) | (go_at_call 147; refine hte.mono ?_))
  rintro e w0 ⟨rfl, hb0, hs0, htab⟩
  clear hck hte
  have HT : Hid (Tab w0 B xs ys (fun i j => i ≤ m ∧ j ≤ n)) := htab
  have HB0 : Hid (Below B w w0) := hb0
  have HA0 : Hid (Strs w0 a xs) := HA.out.below (by rw [HB.out]; exact hb0)
  have HBB0 : Hid (Strs w0 b ys) := HBB.out.below (by rw [HB.out]; exact hb0)
  clear htab hb0 HA HBB
  obtain ⟨B0, hB0⟩ : ∃ B0, w0.heap.size = B0 := ⟨_, rfl⟩
  have HBZ : Hid (w0.heap.size = B0) := hB0
  rw [hB0] at hs0
  clear hB0
  go_wp2
  go_loopw [8, 9, 10] (fun v vi vj w1 => ∃ (i j : Nat) (done : List (Int × ByteArray)), i ≤ m ∧ j ≤ n ∧ vi = .int .i64 i ∧ vj = .int .i64 j ∧ Below B0 w0 w1 ∧ done ++ scr (xs.drop i) (ys.drop j) = scr xs ys ∧ w1.ownsRow B0 97 2 v done.length (mcells done)) (fun _ vi vj _ => (m - (intOf vi).toNat) + (n - (intOf vj).toNat))
  case atStart => exact ⟨0, 0, [], Nat.zero_le _, Nat.zero_le _, rfl, rfl, Below.refl _ _, rfl, ⟨rfl, Or.inl ⟨rfl, rfl⟩⟩⟩
  case round =>
    obtain ⟨i, j, done, hi, hj, rfl, rfl, hbl, hdone, hown⟩ := hrel
    have HD : Hid (done ++ scr (xs.drop i) (ys.drop j) = scr xs ys) := hdone
    have HDL : done.length + (scr (xs.drop i) (ys.drop j)).length ≤ 120 := by have := HSL.out; rw [← hdone, List.length_append] at this; exact this
    clear hdone
    have hszB : B0 ≤ wr.heap.size := by have := hbl.size; rw [HBZ.out] at this; exact this
    have hst := HST wr B i j (HA0.out.below (by rw [HBZ.out]; exact hbl)) (HBB0.out.below (by rw [HBZ.out]; exact hbl)) hi hj (HT.out.below (by rw [HBZ.out]; exact hbl) (by rw [HBZ.out]; exact hs0))
    by_cases hend : i < m ∨ j < n
    · rcases HSC i j hi hj hend with ⟨e, him, hjn, hsc⟩ | ⟨e, him, hsc⟩ | ⟨e, hjn, hsc⟩
      · rw [e] at hst
        have hdl : done.length < 120 := by rw [hsc, List.length_cons] at HDL; omega
        have HSN : Hid ((done ++ [(32, xs.getD i ByteArray.empty)]) ++ scr (xs.drop (i + 1)) (ys.drop (j + 1)) = scr xs ys) := by
          have := HD.out
          rw [hsc] at this
          show (done ++ [(32, xs.getD i ByteArray.empty)]) ++ scr (xs.drop (i + 1)) (ys.drop (j + 1)) = scr xs ys
          rw [← this, List.append_assoc]; rfl
        have hln := HA0.out
        obtain ⟨bb, ob, rfl, hcc⟩ := Strs.at hln (i := i) (by rw [HM.out]; exact him)
        replace hcc := hcc i (by rw [HM.out]; exact him)
        have hts := HXS.out i him
        obtain ⟨t, ht⟩ : ∃ t, xs.getD i ByteArray.empty = t := ⟨_, rfl⟩
        rw [ht] at hcc hts HSN
        clear hln HDL HSC HD hsc e ht HST
        go_wp2_with (go_at_call 148; refine hst.mono ?_)
        rintro e w1 ⟨rfl, hb1⟩
        have hown1 := own_later hown hb1
        have hb1 := hbl.trans (hb1.mono hszB)
        have hs1 : B0 ≤ w1.heap.size := by have := hb1.size; rw [HBZ.out] at this; exact this
        replace hcc := cell_later (by rw [HBZ.out]; exact hb1) hcc
        clear hst hown hbl hszB hend
        go_wp2_with (go_at_call 103; refine (markOf 32 t w1 hts).mono ?_)
        rintro e w2 ⟨rfl, hb2⟩
        have hown2 := own_later hown1 hb2
        have hb2 := hb1.trans (hb2.mono hs1)
        have hs2 : B0 ≤ w2.heap.size := by have := hb2.size; rw [HBZ.out] at this; exact this
        clear hown1 hb1 hs1 hcc
        go_wp2_with (at_builtin; refine wpList_append_own _ rfl _ _ 55 rfl B0 97 i0 (.agg #[.int .u8 0, .string ByteArray.empty]) 2 24 Tryz.underlying55 hi0 hz0 hz1 hz2 rfl (by decide) _ _ _ rfl (hown2.alloc _) ⟨w2.heap.size, 0, none⟩ 1 1 [.int .u8 32, .string t] rfl rfl (cell_two_new _ _ _ _) (fun x hx => by simp at hx; rcases hx with rfl | rfl <;> rfl) (by unfold maxLen; omega) (by omega) (by simp; omega) ?_; intro v' w3 hown' hgrow3 hnil3)
        go_roundw
        case rel =>
          refine ⟨i + 1, j + 1, done ++ [(32, t)], by omega, by omega, by go_num, by go_num, ?_, HSN.out, ?_⟩
          · exact (hb2.alloc (by omega) _).grown hgrow3 (by simp; omega) (fun j hj => (hown2.lt j hj).1)
          · rw [mcells_append, List.length_append]; exact hown'
        case measure => simp [intOf]; omega
      · rw [e] at hst
        have hdl : done.length < 120 := by rw [hsc, List.length_cons] at HDL; omega
        have HSN : Hid ((done ++ [(45, xs.getD i ByteArray.empty)]) ++ scr (xs.drop (i + 1)) (ys.drop (j)) = scr xs ys) := by
          have := HD.out
          rw [hsc] at this
          show (done ++ [(45, xs.getD i ByteArray.empty)]) ++ scr (xs.drop (i + 1)) (ys.drop (j)) = scr xs ys
          rw [← this, List.append_assoc]; rfl
        have hln := HA0.out
        obtain ⟨bb, ob, rfl, hcc⟩ := Strs.at hln (i := i) (by rw [HM.out]; exact him)
        replace hcc := hcc i (by rw [HM.out]; exact him)
        have hts := HXS.out i him
        obtain ⟨t, ht⟩ : ∃ t, xs.getD i ByteArray.empty = t := ⟨_, rfl⟩
        rw [ht] at hcc hts HSN
        clear hln HDL HSC HD hsc e ht HST
        go_wp2_with (go_at_call 148; refine hst.mono ?_)
        rintro e w1 ⟨rfl, hb1⟩
        have hown1 := own_later hown hb1
        have hb1 := hbl.trans (hb1.mono hszB)
        have hs1 : B0 ≤ w1.heap.size := by have := hb1.size; rw [HBZ.out] at this; exact this
        replace hcc := cell_later (by rw [HBZ.out]; exact hb1) hcc
        clear hst hown hbl hszB hend
        go_wp2_with (go_at_call 103; refine (markOf 45 t w1 hts).mono ?_)
        rintro e w2 ⟨rfl, hb2⟩
        have hown2 := own_later hown1 hb2
        have hb2 := hb1.trans (hb2.mono hs1)
        have hs2 : B0 ≤ w2.heap.size := by have := hb2.size; rw [HBZ.out] at this; exact this
        clear hown1 hb1 hs1 hcc
        go_wp2_with (at_builtin; refine wpList_append_own _ rfl _ _ 55 rfl B0 97 i0 (.agg #[.int .u8 0, .string ByteArray.empty]) 2 24 Tryz.underlying55 hi0 hz0 hz1 hz2 rfl (by decide) _ _ _ rfl (hown2.alloc _) ⟨w2.heap.size, 0, none⟩ 1 1 [.int .u8 45, .string t] rfl rfl (cell_two_new _ _ _ _) (fun x hx => by simp at hx; rcases hx with rfl | rfl <;> rfl) (by unfold maxLen; omega) (by omega) (by simp; omega) ?_; intro v' w3 hown' hgrow3 hnil3)
        go_roundw
        case rel =>
          refine ⟨i + 1, j, done ++ [(45, t)], by omega, by omega, by go_num, by go_num, ?_, HSN.out, ?_⟩
          · exact (hb2.alloc (by omega) _).grown hgrow3 (by simp; omega) (fun j hj => (hown2.lt j hj).1)
          · rw [mcells_append, List.length_append]; exact hown'
        case measure => simp [intOf]; omega
      · rw [e] at hst
        have hdl : done.length < 120 := by rw [hsc, List.length_cons] at HDL; omega
        have HSN : Hid ((done ++ [(43, ys.getD j ByteArray.empty)]) ++ scr (xs.drop (i)) (ys.drop (j + 1)) = scr xs ys) := by
          have := HD.out
          rw [hsc] at this
          show (done ++ [(43, ys.getD j ByteArray.empty)]) ++ scr (xs.drop (i)) (ys.drop (j + 1)) = scr xs ys
          rw [← this, List.append_assoc]; rfl
        have hln := HBB0.out
        obtain ⟨bb, ob, rfl, hcc⟩ := Strs.at hln (i := j) (by rw [HN.out]; exact hjn)
        replace hcc := hcc j (by rw [HN.out]; exact hjn)
        have hts := HYS.out j hjn
        obtain ⟨t, ht⟩ : ∃ t, ys.getD j ByteArray.empty = t := ⟨_, rfl⟩
        rw [ht] at hcc hts HSN
        clear hln HDL HSC HD hsc e ht HST
        by_cases hg : i < m
        all_goals
          go_wp2_with (go_at_call 148; refine hst.mono ?_)
          rintro e w1 ⟨rfl, hb1⟩
          have hown1 := own_later hown hb1
          have hb1 := hbl.trans (hb1.mono hszB)
          have hs1 : B0 ≤ w1.heap.size := by have := hb1.size; rw [HBZ.out] at this; exact this
          replace hcc := cell_later (by rw [HBZ.out]; exact hb1) hcc
          clear hst hown hbl hszB hend
          go_wp2_with (go_at_call 103; refine (markOf 43 t w1 hts).mono ?_)
          rintro e w2 ⟨rfl, hb2⟩
          have hown2 := own_later hown1 hb2
          have hb2 := hb1.trans (hb2.mono hs1)
          have hs2 : B0 ≤ w2.heap.size := by have := hb2.size; rw [HBZ.out] at this; exact this
          clear hown1 hb1 hs1 hcc
          go_wp2_with (at_builtin; refine wpList_append_own _ rfl _ _ 55 rfl B0 97 i0 (.agg #[.int .u8 0, .string ByteArray.empty]) 2 24 Tryz.underlying55 hi0 hz0 hz1 hz2 rfl (by decide) _ _ _ rfl (hown2.alloc _) ⟨w2.heap.size, 0, none⟩ 1 1 [.int .u8 43, .string t] rfl rfl (cell_two_new _ _ _ _) (fun x hx => by simp at hx; rcases hx with rfl | rfl <;> rfl) (by unfold maxLen; omega) (by omega) (by simp; omega) ?_; intro v' w3 hown' hgrow3 hnil3)
          go_roundw
          case rel =>
            refine ⟨i, j + 1, done ++ [(43, t)], by omega, by omega, by go_num, by go_num, ?_, HSN.out, ?_⟩
            · exact (hb2.alloc (by omega) _).grown hgrow3 (by simp; omega) (fun j hj => (hown2.lt j hj).1)
            · rw [mcells_append, List.length_append]; exact hown'
          case measure => simp [intOf]; omega
    · have hi2 : i = m := by omega
      have hj2 : j = n := by omega
      subst hi2 hj2
      have hz : scr (xs.drop i) (ys.drop j) = [] := by rw [List.drop_of_length_le (by rw [HM.out]; exact Nat.le_refl _), List.drop_of_length_le (by rw [HN.out]; exact Nat.le_refl _), scr_nil]; rfl
      have hdone := HD.out
      rw [hz, List.append_nil] at hdone
      clear hst HST HSC HDL HD hz hend
      go_wp2
      go_ret2
      subst hdone
      obtain ⟨a', cap, rfl, hmk, hcp⟩ := mks_cap_own hown
      exact ⟨a', cap, rfl, hmk, HB0.out.trans (hbl.mono (by omega)), hcp⟩

set_option maxRecDepth 100000 in
set_option maxHeartbeats 2000000 in
theorem refScriptCap (a b : Option Addr) (xs ys : List ByteArray) (ca cb : Nat) (w : World) (ha : Strs w a xs) (hb : Strs w b ys) (h1 : xs.length ≤ 60) (h2 : ys.length ≤ 60) :
    Calls Tryz.prog 41 #[.slice a xs.length ca, .slice b ys.length cb] w fun e w' => ∃ a' cap, e = .returned (.slice a' (scr xs ys).length cap) ∧ Mks w' a' (scr xs ys) ∧ Below w.heap.size w w' ∧ (scr xs ys).length ≤ cap := by
  have hco := common a b xs ys ca cb w ha hb h1 h2
  obtain ⟨i0, hi0, hz0, hz1, hz2⟩ := info_parts Tryz.infoMark
  have HSL : Hid ((scr xs ys).length ≤ 120) := by have := (scr_ok xs ys).2.2.2.1; show (scr xs ys).length ≤ 120; omega
  have HSC := fun i j hi hj h => ref_cases (xs := xs) (ys := ys) (i := i) (j := j) hi hj h
  have HCL : Hid (∀ i j, com (xs.drop i) (ys.drop j) ≤ 60) := fun i j => by have := com_le (a := xs.drop i) (b := ys.drop j); rw [List.length_drop] at this; omega
  obtain ⟨m, hm⟩ : ∃ m, xs.length = m := ⟨_, rfl⟩
  obtain ⟨n, hn⟩ : ∃ n, ys.length = n := ⟨_, rfl⟩
  rw [hm] at h1 hco HSC ⊢
  rw [hn] at h2 hco HSC ⊢
  have HM : Hid (xs.length = m) := hm
  have HN : Hid (ys.length = n) := hn
  have HA : Hid (Strs w a xs) := ha
  have HBB : Hid (Strs w b ys) := hb
  clear hm hn ha hb
  obtain ⟨B, hB⟩ : ∃ B, w.heap.size = B := ⟨_, rfl⟩
  have HB : Hid (w.heap.size = B) := hB
  rw [hB] at hco ⊢
  clear hB
  go_enter Tryz.func41, Tryz.ntmps41
  go_wp2_with (go_at_call 64; refine hco.mono ?_)
  rintro e w0 ⟨rfl, hb0, hs0, hcom⟩
  clear hco
  obtain ⟨B0, hB0⟩ : ∃ B0, w0.heap.size = B0 := ⟨_, rfl⟩
  rw [hB0] at hs0 hcom
  have HBZ : Hid (w0.heap.size = B0) := hB0
  have HT : Hid (Com w0 B B0 m n xs ys (fun _ => True)) := hcom
  have HB0 : Hid (Below B w w0) := hb0
  have HA0 : Hid (Strs w0 a xs) := HA.out.below (by rw [HB.out]; exact hb0)
  have HBB0 : Hid (Strs w0 b ys) := HBB.out.below (by rw [HB.out]; exact hb0)
  clear hcom hb0 HA HBB hB0
  go_wp2
  go_loopw [6, 7, 8] (fun v vi vj w1 => ∃ (i j : Nat) (done : List (Int × ByteArray)), i ≤ m ∧ j ≤ n ∧ vi = .int .i64 i ∧ vj = .int .i64 j ∧ Below B0 w0 w1 ∧ done ++ scr (xs.drop i) (ys.drop j) = scr xs ys ∧ w1.ownsRow B0 97 2 v done.length (mcells done)) (fun _ vi vj _ => (m - (intOf vi).toNat) + (n - (intOf vj).toNat))
  case atStart => exact ⟨0, 0, [], Nat.zero_le _, Nat.zero_le _, rfl, rfl, Below.refl _ _, rfl, ⟨rfl, Or.inl ⟨rfl, rfl⟩⟩⟩
  case round =>
    obtain ⟨i, j, done, hi, hj, rfl, rfl, hbl, hdone, hown⟩ := hrel
    have HD : Hid (done ++ scr (xs.drop i) (ys.drop j) = scr xs ys) := hdone
    have HDL : done.length + (scr (xs.drop i) (ys.drop j)).length ≤ 120 := by have := HSL.out; rw [← hdone, List.length_append] at this; exact this
    clear hdone
    have hszB : B0 ≤ wr.heap.size := by have := hbl.size; rw [HBZ.out] at this; exact this
    have HC : Hid (Com wr B B0 m n xs ys (fun _ => True)) := HT.out.below hbl hs0
    have HAR : Hid (Strs wr a xs) := HA0.out.below (by rw [HBZ.out]; exact hbl)
    have HBR : Hid (Strs wr b ys) := HBB0.out.below (by rw [HBZ.out]; exact hbl)
    by_cases hend : i < m ∨ j < n
    · rcases HSC i j hi hj hend with ⟨him, hjn, hxy, hcm, hsc⟩ | ⟨him, hjn, hcm, hsc⟩ | ⟨him, hjn, hxy, hcm, hsc⟩ | ⟨him, hjn, hsc⟩ | ⟨him, hjn, hxy, hcm, hsc⟩
      · -- a line is kept
        have hdl : done.length < 120 := by rw [hsc, List.length_cons] at HDL; omega
        have HSN : Hid ((done ++ [(32, xs.getD i ByteArray.empty)]) ++ scr (xs.drop (i + 1)) (ys.drop (j + 1)) = scr xs ys) := by
          have := HD.out
          rw [hsc] at this
          show (done ++ [(32, xs.getD i ByteArray.empty)]) ++ scr (xs.drop (i + 1)) (ys.drop (j + 1)) = scr xs ys
          rw [← this, List.append_assoc]; rfl
        clear hsc HD HDL HSC
        obtain ⟨R1, p1, _, _, r1⟩ := HC.out.at (i := i + 1) trivial (by omega)
        obtain ⟨R0, p0, _, _, r0⟩ := HC.out.at (i := i) trivial (by omega)
        have q1 := r1.cell (k := j + 1) (by omega)
        have q0 := r0.cell (k := j) (by omega)
        have l1 := HCL.out (i + 1) (j + 1)
        rw [← hcm] at q0
        obtain ⟨v, hv⟩ : ∃ v, com (xs.drop (i + 1)) (ys.drop (j + 1)) = v := ⟨_, rfl⟩
        rw [hv] at q1 q0 l1
        have q0' : wr.cell? ⟨R0, j, none⟩ = some (.int .i64 ((v : Int) + 1)) := q0
        clear q0 hcm r1 r0 hv
        have hln := HAR.out
        obtain ⟨ba, oa, rfl, hca⟩ := Strs.at hln (i := i) (by rw [HM.out]; exact him)
        replace hca := hca i (by rw [HM.out]; exact him)
        obtain ⟨x, hx⟩ : ∃ x, xs.getD i ByteArray.empty = x := ⟨_, rfl⟩
        rw [hx] at hca
        clear hln
        have hln := HBR.out
        obtain ⟨bb, ob, rfl, hcb⟩ := Strs.at hln (i := j) (by rw [HN.out]; exact hjn)
        replace hcb := hcb j (by rw [HN.out]; exact hjn)
        obtain ⟨y, hy⟩ : ∃ y, ys.getD j ByteArray.empty = y := ⟨_, rfl⟩
        rw [hy] at hcb
        clear hln
        have he : (x.toList == y.toList) = true := by rw [← hx, ← hy, hxy]; simp
        rw [hx] at HSN
        clear hx hy hxy hend
        go_wp2
        go_quiet (fail)
        have hown2 := own_later hown (below_drawn (Below.refl _ _) : Below wr.heap.size wr (wr.drewN nq))
        have hb2 : Below B0 w0 (wr.drewN nq) := hbl.trans (Below.mono (below_drawn (Below.refl _ _) : Below wr.heap.size wr (wr.drewN nq)) hszB)
        have hcx : (wr.drewN nq).cell? ⟨ba, oa + i, none⟩ = some (.string x) := hca
        have hs2 : B0 ≤ (wr.drewN nq).heap.size := hszB
        generalize wr.drewN nq = W2 at hown2 hb2 hcx hs2 ⊢
        clear hown hbl hszB HC HAR HBR
        go_wp2_with (at_builtin; refine wpList_append_own _ rfl _ _ 55 rfl B0 97 i0 (.agg #[.int .u8 0, .string ByteArray.empty]) 2 24 Tryz.underlying55 hi0 hz0 hz1 hz2 rfl (by decide) _ _ _ rfl (hown2.alloc _) ⟨W2.heap.size, 0, none⟩ 1 1 [.int .u8 32, .string x] rfl rfl (cell_two_new _ _ _ _) (fun x hx => by simp at hx; rcases hx with rfl | rfl <;> rfl) (by unfold maxLen; omega) (by omega) (by simp; omega) ?_; intro v' w3 hown' hgrow3 hnil3)
        go_roundw
        case rel =>
          refine ⟨i + 1, j + 1, done ++ [(32, x)], by omega, by omega, by go_num, by go_num, ?_, HSN.out, ?_⟩
          · exact (hb2.alloc (by omega) _).grown hgrow3 (by simp; omega) (fun j hj => (hown2.lt j hj).1)
          · rw [mcells_append, List.length_append]; exact hown'
        case measure => simp [intOf]; omega
      · -- nothing is left of the new file
        have hdl : done.length < 120 := by rw [hsc, List.length_cons] at HDL; omega
        have HSN : Hid ((done ++ [(45, xs.getD i ByteArray.empty)]) ++ scr (xs.drop (i + 1)) (ys.drop (j)) = scr xs ys) := by
          have := HD.out
          rw [hsc] at this
          show (done ++ [(45, xs.getD i ByteArray.empty)]) ++ scr (xs.drop (i + 1)) (ys.drop (j)) = scr xs ys
          rw [← this, List.append_assoc]; rfl
        clear hsc HD HDL HSC
        obtain ⟨R1, p1, _, _, r1⟩ := HC.out.at (i := i + 1) trivial (by omega)
        obtain ⟨R0, p0, _, _, r0⟩ := HC.out.at (i := i) trivial (by omega)
        have q1 := r1.cell (k := j) (by omega)
        have q0 := r0.cell (k := j) (by omega)
        have l1 := HCL.out (i + 1) j
        have l0 := HCL.out i j
        obtain ⟨v, hv⟩ : ∃ v, com (xs.drop (i + 1)) (ys.drop j) = v := ⟨_, rfl⟩
        obtain ⟨u, hu⟩ : ∃ u, com (xs.drop i) (ys.drop j) = u := ⟨_, rfl⟩
        rw [hv] at q1 l1 hcm
        rw [hu] at q0 l0 hcm
        clear r1 r0 hv hu
        subst hcm
        subst hjn
        have hjj : decide ((j : Int) < (j : Int)) = false := by simp
        have hln := HAR.out
        obtain ⟨ba, oa, rfl, hca⟩ := Strs.at hln (i := i) (by rw [HM.out]; exact him)
        replace hca := hca i (by rw [HM.out]; exact him)
        obtain ⟨x, hx⟩ : ∃ x, xs.getD i ByteArray.empty = x := ⟨_, rfl⟩
        rw [hx] at hca
        clear hln
        rw [hx] at HSN
        clear hx hend
        go_wp2
        go_quiet (fail)
        obtain ⟨n1, hn1⟩ : ∃ k, nq = k := ⟨_, rfl⟩
        rw [hn1]
        clear hn1
        go_wp2
        go_quiet (fail)
        have hown2 := own_later hown (below_drawn (below_drawn (Below.refl _ _)) : Below wr.heap.size wr ((wr.drewN n1).drewN nq))
        have hb2 : Below B0 w0 ((wr.drewN n1).drewN nq) := hbl.trans (Below.mono (below_drawn (below_drawn (Below.refl _ _)) : Below wr.heap.size wr ((wr.drewN n1).drewN nq)) hszB)
        have hcx : ((wr.drewN n1).drewN nq).cell? ⟨ba, oa + i, none⟩ = some (.string x) := hca
        have hs2 : B0 ≤ ((wr.drewN n1).drewN nq).heap.size := hszB
        generalize (wr.drewN n1).drewN nq = W2 at hown2 hb2 hcx hs2 ⊢
        clear hown hbl hszB HC HAR HBR
        go_wp2_with (at_builtin; refine wpList_append_own _ rfl _ _ 55 rfl B0 97 i0 (.agg #[.int .u8 0, .string ByteArray.empty]) 2 24 Tryz.underlying55 hi0 hz0 hz1 hz2 rfl (by decide) _ _ _ rfl (hown2.alloc _) ⟨W2.heap.size, 0, none⟩ 1 1 [.int .u8 45, .string x] rfl rfl (cell_two_new _ _ _ _) (fun x hx => by simp at hx; rcases hx with rfl | rfl <;> rfl) (by unfold maxLen; omega) (by omega) (by simp; omega) ?_; intro v' w3 hown' hgrow3 hnil3)
        go_roundw
        case rel =>
          refine ⟨i + 1, j, done ++ [(45, x)], by omega, by omega, by go_num, by go_num, ?_, HSN.out, ?_⟩
          · exact (hb2.alloc (by omega) _).grown hgrow3 (by simp; omega) (fun j hj => (hown2.lt j hj).1)
          · rw [mcells_append, List.length_append]; exact hown'
        case measure => simp [intOf]; omega
      · -- a line is taken
        have hdl : done.length < 120 := by rw [hsc, List.length_cons] at HDL; omega
        have HSN : Hid ((done ++ [(45, xs.getD i ByteArray.empty)]) ++ scr (xs.drop (i + 1)) (ys.drop (j)) = scr xs ys) := by
          have := HD.out
          rw [hsc] at this
          show (done ++ [(45, xs.getD i ByteArray.empty)]) ++ scr (xs.drop (i + 1)) (ys.drop (j)) = scr xs ys
          rw [← this, List.append_assoc]; rfl
        clear hsc HD HDL HSC
        obtain ⟨R1, p1, _, _, r1⟩ := HC.out.at (i := i + 1) trivial (by omega)
        obtain ⟨R0, p0, _, _, r0⟩ := HC.out.at (i := i) trivial (by omega)
        have q1 := r1.cell (k := j) (by omega)
        have q0 := r0.cell (k := j) (by omega)
        have l1 := HCL.out (i + 1) j
        have l0 := HCL.out i j
        obtain ⟨v, hv⟩ : ∃ v, com (xs.drop (i + 1)) (ys.drop j) = v := ⟨_, rfl⟩
        obtain ⟨u, hu⟩ : ∃ u, com (xs.drop i) (ys.drop j) = u := ⟨_, rfl⟩
        rw [hv] at q1 l1 hcm
        rw [hu] at q0 l0 hcm
        clear r1 r0 hv hu
        subst hcm
        have hln := HAR.out
        obtain ⟨ba, oa, rfl, hca⟩ := Strs.at hln (i := i) (by rw [HM.out]; exact him)
        replace hca := hca i (by rw [HM.out]; exact him)
        obtain ⟨x, hx⟩ : ∃ x, xs.getD i ByteArray.empty = x := ⟨_, rfl⟩
        rw [hx] at hca
        clear hln
        have hln := HBR.out
        obtain ⟨bb, ob, rfl, hcb⟩ := Strs.at hln (i := j) (by rw [HN.out]; exact hjn)
        replace hcb := hcb j (by rw [HN.out]; exact hjn)
        obtain ⟨y, hy⟩ : ∃ y, ys.getD j ByteArray.empty = y := ⟨_, rfl⟩
        rw [hy] at hcb
        clear hln
        have he : (x.toList == y.toList) = false := by
          rw [hx, hy] at hxy
          exact Bool.eq_false_iff.2 fun e => hxy (bytes_eq e)
        rw [hx] at HSN
        clear hx hy hxy hend
        go_wp2
        go_quiet (fail)
        obtain ⟨n1, hn1⟩ : ∃ k, nq = k := ⟨_, rfl⟩
        rw [hn1]
        clear hn1
        go_wp2
        go_quiet (fail)
        have hown2 := own_later hown (below_drawn (below_drawn (Below.refl _ _)) : Below wr.heap.size wr ((wr.drewN n1).drewN nq))
        have hb2 : Below B0 w0 ((wr.drewN n1).drewN nq) := hbl.trans (Below.mono (below_drawn (below_drawn (Below.refl _ _)) : Below wr.heap.size wr ((wr.drewN n1).drewN nq)) hszB)
        have hcx : ((wr.drewN n1).drewN nq).cell? ⟨ba, oa + i, none⟩ = some (.string x) := hca
        have hs2 : B0 ≤ ((wr.drewN n1).drewN nq).heap.size := hszB
        generalize (wr.drewN n1).drewN nq = W2 at hown2 hb2 hcx hs2 ⊢
        clear hown hbl hszB HC HAR HBR
        go_wp2_with (at_builtin; refine wpList_append_own _ rfl _ _ 55 rfl B0 97 i0 (.agg #[.int .u8 0, .string ByteArray.empty]) 2 24 Tryz.underlying55 hi0 hz0 hz1 hz2 rfl (by decide) _ _ _ rfl (hown2.alloc _) ⟨W2.heap.size, 0, none⟩ 1 1 [.int .u8 45, .string x] rfl rfl (cell_two_new _ _ _ _) (fun x hx => by simp at hx; rcases hx with rfl | rfl <;> rfl) (by unfold maxLen; omega) (by omega) (by simp; omega) ?_; intro v' w3 hown' hgrow3 hnil3)
        go_roundw
        case rel =>
          refine ⟨i + 1, j, done ++ [(45, x)], by omega, by omega, by go_num, by go_num, ?_, HSN.out, ?_⟩
          · exact (hb2.alloc (by omega) _).grown hgrow3 (by simp; omega) (fun j hj => (hown2.lt j hj).1)
          · rw [mcells_append, List.length_append]; exact hown'
        case measure => simp [intOf]; omega
      · -- nothing is left of the old file
        have hdl : done.length < 120 := by rw [hsc, List.length_cons] at HDL; omega
        have HSN : Hid ((done ++ [(43, ys.getD j ByteArray.empty)]) ++ scr (xs.drop (i)) (ys.drop (j + 1)) = scr xs ys) := by
          have := HD.out
          rw [hsc] at this
          show (done ++ [(43, ys.getD j ByteArray.empty)]) ++ scr (xs.drop (i)) (ys.drop (j + 1)) = scr xs ys
          rw [← this, List.append_assoc]; rfl
        clear hsc HD HDL HSC
        subst him
        have hii : decide ((i : Int) < (i : Int)) = false := by simp
        have hln := HBR.out
        obtain ⟨bb, ob, rfl, hcb⟩ := Strs.at hln (i := j) (by rw [HN.out]; exact hjn)
        replace hcb := hcb j (by rw [HN.out]; exact hjn)
        obtain ⟨y, hy⟩ : ∃ y, ys.getD j ByteArray.empty = y := ⟨_, rfl⟩
        rw [hy] at hcb
        clear hln
        rw [hy] at HSN
        clear hy hend
        go_wp2
        go_quiet (fail)
        obtain ⟨n1, hn1⟩ : ∃ k, nq = k := ⟨_, rfl⟩
        rw [hn1]
        clear hn1
        go_wp2
        go_quiet (fail)
        have hown2 := own_later hown (below_drawn (below_drawn (Below.refl _ _)) : Below wr.heap.size wr ((wr.drewN n1).drewN nq))
        have hb2 : Below B0 w0 ((wr.drewN n1).drewN nq) := hbl.trans (Below.mono (below_drawn (below_drawn (Below.refl _ _)) : Below wr.heap.size wr ((wr.drewN n1).drewN nq)) hszB)
        have hcx : ((wr.drewN n1).drewN nq).cell? ⟨bb, ob + j, none⟩ = some (.string y) := hcb
        have hs2 : B0 ≤ ((wr.drewN n1).drewN nq).heap.size := hszB
        generalize (wr.drewN n1).drewN nq = W2 at hown2 hb2 hcx hs2 ⊢
        clear hown hbl hszB HC HAR HBR
        go_wp2_with (at_builtin; refine wpList_append_own _ rfl _ _ 55 rfl B0 97 i0 (.agg #[.int .u8 0, .string ByteArray.empty]) 2 24 Tryz.underlying55 hi0 hz0 hz1 hz2 rfl (by decide) _ _ _ rfl (hown2.alloc _) ⟨W2.heap.size, 0, none⟩ 1 1 [.int .u8 43, .string y] rfl rfl (cell_two_new _ _ _ _) (fun x hx => by simp at hx; rcases hx with rfl | rfl <;> rfl) (by unfold maxLen; omega) (by omega) (by simp; omega) ?_; intro v' w3 hown' hgrow3 hnil3)
        go_roundw
        case rel =>
          refine ⟨i, j + 1, done ++ [(43, y)], by omega, by omega, by go_num, by go_num, ?_, HSN.out, ?_⟩
          · exact (hb2.alloc (by omega) _).grown hgrow3 (by simp; omega) (fun j hj => (hown2.lt j hj).1)
          · rw [mcells_append, List.length_append]; exact hown'
        case measure => simp [intOf]; omega
      · -- a line is put
        have hdl : done.length < 120 := by rw [hsc, List.length_cons] at HDL; omega
        have HSN : Hid ((done ++ [(43, ys.getD j ByteArray.empty)]) ++ scr (xs.drop (i)) (ys.drop (j + 1)) = scr xs ys) := by
          have := HD.out
          rw [hsc] at this
          show (done ++ [(43, ys.getD j ByteArray.empty)]) ++ scr (xs.drop (i)) (ys.drop (j + 1)) = scr xs ys
          rw [← this, List.append_assoc]; rfl
        clear hsc HD HDL HSC
        obtain ⟨R1, p1, _, _, r1⟩ := HC.out.at (i := i + 1) trivial (by omega)
        obtain ⟨R0, p0, _, _, r0⟩ := HC.out.at (i := i) trivial (by omega)
        have q1 := r1.cell (k := j) (by omega)
        have q0 := r0.cell (k := j) (by omega)
        have l1 := HCL.out (i + 1) j
        have l0 := HCL.out i j
        obtain ⟨v, hv⟩ : ∃ v, com (xs.drop (i + 1)) (ys.drop j) = v := ⟨_, rfl⟩
        obtain ⟨u, hu⟩ : ∃ u, com (xs.drop i) (ys.drop j) = u := ⟨_, rfl⟩
        rw [hv] at q1 l1 hcm
        rw [hu] at q0 l0 hcm
        clear r1 r0 hv hu
        have hln := HAR.out
        obtain ⟨ba, oa, rfl, hca⟩ := Strs.at hln (i := i) (by rw [HM.out]; exact him)
        replace hca := hca i (by rw [HM.out]; exact him)
        obtain ⟨x, hx⟩ : ∃ x, xs.getD i ByteArray.empty = x := ⟨_, rfl⟩
        rw [hx] at hca
        clear hln
        have hln := HBR.out
        obtain ⟨bb, ob, rfl, hcb⟩ := Strs.at hln (i := j) (by rw [HN.out]; exact hjn)
        replace hcb := hcb j (by rw [HN.out]; exact hjn)
        obtain ⟨y, hy⟩ : ∃ y, ys.getD j ByteArray.empty = y := ⟨_, rfl⟩
        rw [hy] at hcb
        clear hln
        have he : (x.toList == y.toList) = false := by
          rw [hx, hy] at hxy
          exact Bool.eq_false_iff.2 fun e => hxy (bytes_eq e)
        have hcv : ((v : Int) == (u : Int)) = false := by simp; omega
        rw [hy] at HSN
        clear hx hy hxy hend hcm
        go_wp2
        go_quiet (fail)
        obtain ⟨n1, hn1⟩ : ∃ k, nq = k := ⟨_, rfl⟩
        rw [hn1]
        clear hn1
        go_wp2
        go_quiet (fail)
        have hown2 := own_later hown (below_drawn (below_drawn (Below.refl _ _)) : Below wr.heap.size wr ((wr.drewN n1).drewN nq))
        have hb2 : Below B0 w0 ((wr.drewN n1).drewN nq) := hbl.trans (Below.mono (below_drawn (below_drawn (Below.refl _ _)) : Below wr.heap.size wr ((wr.drewN n1).drewN nq)) hszB)
        have hcx : ((wr.drewN n1).drewN nq).cell? ⟨bb, ob + j, none⟩ = some (.string y) := hcb
        have hs2 : B0 ≤ ((wr.drewN n1).drewN nq).heap.size := hszB
        generalize (wr.drewN n1).drewN nq = W2 at hown2 hb2 hcx hs2 ⊢
        clear hown hbl hszB HC HAR HBR
        go_wp2_with (at_builtin; refine wpList_append_own _ rfl _ _ 55 rfl B0 97 i0 (.agg #[.int .u8 0, .string ByteArray.empty]) 2 24 Tryz.underlying55 hi0 hz0 hz1 hz2 rfl (by decide) _ _ _ rfl (hown2.alloc _) ⟨W2.heap.size, 0, none⟩ 1 1 [.int .u8 43, .string y] rfl rfl (cell_two_new _ _ _ _) (fun x hx => by simp at hx; rcases hx with rfl | rfl <;> rfl) (by unfold maxLen; omega) (by omega) (by simp; omega) ?_; intro v' w3 hown' hgrow3 hnil3)
        go_roundw
        case rel =>
          refine ⟨i, j + 1, done ++ [(43, y)], by omega, by omega, by go_num, by go_num, ?_, HSN.out, ?_⟩
          · exact (hb2.alloc (by omega) _).grown hgrow3 (by simp; omega) (fun j hj => (hown2.lt j hj).1)
          · rw [mcells_append, List.length_append]; exact hown'
        case measure => simp [intOf]; omega
    · have hi2 : i = m := by omega
      have hj2 : j = n := by omega
      subst hi2 hj2
      have hz : scr (xs.drop i) (ys.drop j) = [] := by rw [List.drop_of_length_le (by rw [HM.out]; exact Nat.le_refl _), List.drop_of_length_le (by rw [HN.out]; exact Nat.le_refl _), scr_nil]; rfl
      have hdone := HD.out
      rw [hz, List.append_nil] at hdone
      clear HSC HDL HD hz hend
      go_wp2
      go_ret
      subst hdone
      obtain ⟨a', cap, rfl, hmk, hcp⟩ := mks_cap_own hown
      exact ⟨a', cap, rfl, hmk, HB0.out.trans (hbl.mono (by omega)), hcp⟩

end Go.Proofs.YtnkdmgekpajfhadGreatDoor
