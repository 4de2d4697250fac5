/-
  Walks of the Builder's Write and WriteString, with what they leave: all but the builder's block and rows of bytes of the call's own.
-/
import Derived.Test.YtppmpofdhkgjmafDoorJoin
import Derived.Test.YtppmpofdhkgjmafDoorBls
import Derived.Shelf.Abstract
import Derived.RangeFuncNested

namespace Go.Proofs.YtppmpofdhkgjmafDoor
open Go.RowKit Dist

/-- Bytes as cells. -/
def u8s (l : List UInt8) : List Value := l.map fun b => Value.int .u8 b.toNat
theorem u8s_len (l : List UInt8) : (u8s l).length = l.length := by simp [u8s]
theorem u8s_app (a b : List UInt8) : u8s (a ++ b) = u8s a ++ u8s b := by simp [u8s]
theorem u8s_str (s : ByteArray) : Lib.strCells s = u8s s.data.toList := rfl
theorem u8s_one (l : List UInt8) : ∀ u ∈ u8s l, u.oneCell' = true := by
  intro u hu
  obtain ⟨b, _, rfl⟩ := List.mem_map.1 hu
  rfl

/-- Bytes in memory from a place on. -/
def Byt (W : World) (b off : Nat) (l : List UInt8) : Prop := ∀ i, i < l.length → W.cell? ⟨b, off + i, none⟩ = some (.int .u8 ((l.getD i 0).toNat : Int))
theorem Byt.below {B : Nat} {w w' : World} {b off : Nat} {l : List UInt8} (h : Byt w b off l) (hb : Below B w w') (hB : b < B) : Byt w' b off l := fun i hi => (hb.cell (p := ⟨b, off + i, none⟩) hB).trans (h i hi)
theorem Byt.get {W : World} {b off : Nat} {l : List UInt8} (h : Byt W b off l) : ∀ (j : Nat) u, (u8s l)[j]? = some u → W.cell? ((⟨b, off, none⟩ : Addr).add j) = some u := by
  intro j u hj
  have hl : j < l.length := by
    have := (List.getElem?_eq_some_iff.1 hj).1
    rwa [u8s_len] at this
  have ha : (⟨b, off, none⟩ : Addr).add j = ⟨b, off + j, none⟩ := by
    by_cases h0 : j = 0
    · subst h0; rfl
    · simp [Addr.add, h0]
  rw [ha, h j hl]
  simp [u8s, hl] at hj
  simp [hl, hj]
theorem Byt.part {W : World} {b off : Nat} {l : List UInt8} (h : Byt W b off l) (k n : Nat) : Byt W b (off + k) ((l.drop k).take n) := by
  intro i hi
  rw [List.length_take, List.length_drop] at hi
  have hi2 : k + i < l.length := by omega
  have := h (k + i) hi2
  rw [show off + k + i = off + (k + i) by omega, this]
  have hin : i < n := by omega
  simp [hi2, hin]

/-- A new block of bytes, what is behind them included. -/
theorem byt_of_row {W : World} {g : Nat} {l : List UInt8} {cs : Array Value} {e : TypeId} {fr : Nat × Nat} (h : W.heap[g]? = some (.cells cs e fr)) (hc : ∀ i, i < l.length → cs[i]? = some (.int .u8 ((l.getD i 0).toNat : Int))) : Byt W g 0 l := fun i hi => by
  rw [Nat.zero_add]
  simp [World.cell?, h, hc i hi]

/-- What a writer leaves. -/
def Wk (e : TypeId) (B b : Nat) (W W' : World) : Prop := Below B W W' ∧ ∀ (k : Nat) (o : Obj), W.heap[k]? = some o → k ≠ b → (∀ cs fr, o ≠ .cells cs e fr) → W'.heap[k]? = some o
theorem Wk.refl (e : TypeId) (B b : Nat) (W : World) : Wk e B b W W := ⟨Below.refl _ _, fun _ _ h _ _ => h⟩
theorem Wk.trans {e : TypeId} {B b : Nat} {X Y Z : World} (h : Wk e B b X Y) (k : Wk e B b Y Z) : Wk e B b X Z := ⟨h.1.trans k.1, fun i o ho hb hn => k.2 i o (h.2 i o ho hb hn) hb hn⟩
theorem Wk.set {e : TypeId} {B b : Nat} {X Y : World} (h : Wk e B b X Y) (hB : B ≤ b) (o : Nat) (v : Value) : Wk e B b X (Y.setCell ⟨b, o, none⟩ v) :=
  ⟨h.1.setCell (p := ⟨b, o, none⟩) hB _, fun i x hx hb hn => by rw [Below.heap_setCell _ _ _ _ hb]; exact h.2 i x hx hb hn⟩
theorem Wk.grown {e : TypeId} {B b : Nat} {X Y Z : World} {v : Value} {n : Nat} {xs : List Value} (h : Wk e B b X Y) (hB : B ≤ Y.heap.size) (hown : Y.ownsRow B e 1 v n xs) (hg : Y.grownBy Z v.ownBlock) : Wk e B b X Z := by
  refine ⟨h.1.grown hg hB (fun k hk => (hown.lt k hk).1), fun i o hi hb hn => ?_⟩
  have hy := h.2 i o hi hb hn
  refine (hg.block i (Array.getElem?_eq_some_iff.1 hy).1 (fun e' => ?_)).trans hy
  rcases hown.2 with ⟨rfl, _⟩ | ⟨g, cap, cur, rfl, _, hgb, _⟩
  · simp [Value.ownBlock] at e'
  · obtain rfl : i = g := by simpa [Value.ownBlock] using e'
    rw [hgb] at hy; cases hy
    exact hn _ _ rfl
theorem Wk.alloc {e : TypeId} {B b : Nat} {X Y : World} (h : Wk e B b X Y) (hB : B ≤ Y.heap.size) (o : Obj) : Wk e B b X (Y.alloc o) :=
  ⟨h.1.alloc hB o, fun i _ hx hb hn => by
    have hy := h.2 i _ hx hb hn
    exact (Below.heap_alloc Y o i (Array.getElem?_eq_some_iff.1 hy).1).trans hy⟩
theorem Wk.of_below {e : TypeId} {B b : Nat} {X Y : World} (h : Below X.heap.size X Y) (hB : B ≤ X.heap.size) : Wk e B b X Y :=
  ⟨h.mono hB, fun i _ hx _ _ => (h.block i (Array.getElem?_eq_some_iff.1 hx).1).trans hx⟩
theorem Wk.others {e T : TypeId} {B b : Nat} {X Y : World} {p : Value} {bs : List Value} (h : Wk e B b X Y) (hb : Lib.BuilderAt T e B b p bs X) : KeepsOthers X Y := by
  refine ⟨h.1.size, fun k o hk ho => h.2 k o hk (fun e' => ?_) (fun cs fr e' => by rw [e'] at ho; cases ho)⟩
  obtain ⟨_, v, hh, _⟩ := hb
  rw [e', hh] at hk; cases hk; cases ho

set_option maxRecDepth 100000 in
set_option maxHeartbeats 2000000 in
theorem write (B b : Nat) (bs : List Value) (l : List UInt8) (g o c : Nat) (w : World) (h : Lib.IsBuilder 88 5 B b bs w) (hl : Byt w g o l) (hgb : g ≠ b) (hlen : bs.length + l.length ≤ 140737488355328) (hBw : B ≤ w.heap.size) :
    Calls Tryd.prog 37 #[.pointer (some ⟨b, 0, none⟩), .slice (some ⟨g, o, none⟩) l.length c] w fun e w' => e = .returned (.tuple #[.int .i64 l.length, .nilIface]) ∧ (Lib.BuilderAt 88 5 B b (.pointer (some ⟨b, 0, none⟩)) (bs ++ u8s l) w' ∧ Wk 5 B b w w') := by
  obtain ⟨i0, hi, hz0, hz1, hz2⟩ := info_parts Tryd.info5
  have hBb : B ≤ b := by rcases h with h | h <;> exact h.1
  have cc : Calls Tryd.prog 64 #[.pointer (some ⟨b, 0, none⟩)] w fun e w' => e = .returned (.tuple #[]) ∧ (Lib.BuilderAt 88 5 B b (.pointer (some ⟨b, 0, none⟩)) bs w' ∧ Wk 5 B b w w' ∧ Byt w' g o l) := by
    rcases h with h | h
    · refine (copyCheck_fresh b w h.cell0 h.shape h.frozen0).mono ?_
      rintro e w' ⟨rfl, rfl⟩
      exact ⟨rfl, h.used _, (Wk.refl _ B b w).set h.1 _ _, fun i hi => by rw [World.cell?_setCell_other _ _ _ _ (fun e => hgb (congrArg Addr.block e).symm)]; exact hl i hi⟩
    · refine (copyCheck_used b w h.cell0).mono ?_
      rintro e w' ⟨rfl, rfl⟩
      exact ⟨rfl, h, Wk.refl _ _ _ _, hl⟩
  clear h hl
  go_enter Tryd.func37, Tryd.ntmps37
  go_wp2_with (go_at_call 64; refine cc.mono ?_)
  rintro e w1 ⟨rfl, h1, hb1, hl1⟩
  obtain ⟨hB, v, hbk, hown, hne⟩ := h1
  have c0 : w1.cell? ⟨b, 0, none⟩ = some (.pointer (some ⟨b, 0, none⟩)) := by rw [Lib.cell_of_heap hbk]; rfl
  have c1 : w1.cell? ⟨b, 1, none⟩ = some v := by rw [Lib.cell_of_heap hbk]; rfl
  have hsz := hb1.1.size
  go_wp2_with (at_builtin; refine wpList_append_own _ rfl _ _ 39 rfl B 5 i0 (.int .u8 0) 1 1 Tryd.underlying39 hi hz0 hz1 hz2 rfl (by decide) _ _ _ rfl hown ⟨g, o, none⟩ l.length c (u8s l) rfl ?c0 ?c1 ?c2 ?c3 ?c4 ?c5 ?_)
  case c0 => rw [u8s_len]; omega
  case c1 => exact hl1.get
  case c2 => exact u8s_one l
  case c3 => unfold maxLen; omega
  case c4 => omega
  case c5 => omega
  intro v' w2 hown' hgrow _
  have hlt : b < w1.heap.size := by
    rcases Nat.lt_or_ge b w1.heap.size with h' | h'
    · exact h'
    · simp [Array.getElem?_eq_none h'] at hbk
  have hb2 : w2.heap[b]? = some (.cells #[.pointer (some ⟨b, 0, none⟩), v] 88 (0, 0)) := by
    rw [hgrow.block b hlt (fun e => hne e.symm)]
    exact hbk
  have d0 : w2.cell? ⟨b, 0, none⟩ = some (.pointer (some ⟨b, 0, none⟩)) := by rw [Lib.cell_of_heap hb2]; rfl
  have d1 : w2.cell? ⟨b, 1, none⟩ = some v := by rw [Lib.cell_of_heap hb2]; rfl
  have f1 : w2.frozen? ⟨b, 1, none⟩ = false := Lib.frozen_of_heap hb2 1
  obtain ⟨ao, n', cap, rfl⟩ : ∃ ao n' cap, v' = .slice ao n' cap := by
    rcases hown'.2 with ⟨hv, _⟩ | ⟨g, cap, cur, hv, _⟩
    · exact ⟨_, _, _, hv⟩
    · exact ⟨_, _, _, hv⟩
  go_wp2
  go_ret2
  refine ⟨rfl, ?_, ?_⟩
  · exact Lib.BuilderAt.put (T := 88) (e := 5) hB hb2 (bs' := bs ++ u8s l) (by simpa [u8s_len] using hown') (by decide)
  · exact (hb1.grown (by omega) hown hgrow).set hB _ _

set_option maxRecDepth 100000 in
set_option maxHeartbeats 2000000 in
theorem writeStr (B b : Nat) (bs : List Value) (s : ByteArray) (w : World) (h : Lib.IsBuilder 88 5 B b bs w) (hlen : bs.length + s.size ≤ 140737488355328) (hBw : B ≤ w.heap.size) :
    Calls Tryd.prog 38 #[.pointer (some ⟨b, 0, none⟩), .string s] w fun e w' => e = .returned (.tuple #[.int .i64 s.size, .nilIface]) ∧ (Lib.BuilderAt 88 5 B b (.pointer (some ⟨b, 0, none⟩)) (bs ++ Lib.strCells s) w' ∧ Wk 5 B b w w') := by
  obtain ⟨i0, hi, hz0, hz1, hz2⟩ := info_parts Tryd.info5
  have cc : Calls Tryd.prog 64 #[.pointer (some ⟨b, 0, none⟩)] w fun e w' => e = .returned (.tuple #[]) ∧ (Lib.BuilderAt 88 5 B b (.pointer (some ⟨b, 0, none⟩)) bs w' ∧ Wk 5 B b w w') := by
    rcases h with h | h
    · refine (copyCheck_fresh b w h.cell0 h.shape h.frozen0).mono ?_
      rintro e w' ⟨rfl, rfl⟩
      exact ⟨rfl, h.used _, (Wk.refl _ B b w).set h.1 _ _⟩
    · refine (copyCheck_used b w h.cell0).mono ?_
      rintro e w' ⟨rfl, rfl⟩
      exact ⟨rfl, h, Wk.refl _ _ _ _⟩
  clear h
  go_enter Tryd.func38, Tryd.ntmps38
  go_wp2_with (go_at_call 64; refine cc.mono ?_)
  rintro e w1 ⟨rfl, h1, hb1⟩
  obtain ⟨hB, v, hbk, hown, hne⟩ := h1
  have c0 : w1.cell? ⟨b, 0, none⟩ = some (.pointer (some ⟨b, 0, none⟩)) := by rw [Lib.cell_of_heap hbk]; rfl
  have c1 : w1.cell? ⟨b, 1, none⟩ = some v := by rw [Lib.cell_of_heap hbk]; rfl
  have hsz := hb1.1.size
  go_wp2_with (at_builtin; refine Lib.wpList_append_own_string _ rfl _ _ 39 9 rfl B 5 i0 Tryd.underlying39 Tryd.underlying9 hi hz0 hz1 hz2 _ _ _ rfl hown s rfl ?c3 ?c4 ?c5 ?_)
  case c3 => unfold maxLen; omega
  case c4 => omega
  case c5 => omega
  intro v' w2 hown' hgrow _
  have hlt : b < w1.heap.size := by
    rcases Nat.lt_or_ge b w1.heap.size with h' | h'
    · exact h'
    · simp [Array.getElem?_eq_none h'] at hbk
  have hb2 : w2.heap[b]? = some (.cells #[.pointer (some ⟨b, 0, none⟩), v] 88 (0, 0)) := by
    rw [hgrow.block b hlt (fun e => hne e.symm)]
    exact hbk
  have d0 : w2.cell? ⟨b, 0, none⟩ = some (.pointer (some ⟨b, 0, none⟩)) := by rw [Lib.cell_of_heap hb2]; rfl
  have d1 : w2.cell? ⟨b, 1, none⟩ = some v := by rw [Lib.cell_of_heap hb2]; rfl
  have f1 : w2.frozen? ⟨b, 1, none⟩ = false := Lib.frozen_of_heap hb2 1
  obtain ⟨ao, n', cap, rfl⟩ : ∃ ao n' cap, v' = .slice ao n' cap := by
    rcases hown'.2 with ⟨hv, _⟩ | ⟨g, cap, cur, hv, _⟩
    · exact ⟨_, _, _, hv⟩
    · exact ⟨_, _, _, hv⟩
  go_wp2
  go_ret2
  refine ⟨rfl, ?_, ?_⟩
  · exact Lib.BuilderAt.put (T := 88) (e := 5) hB hb2 (bs' := bs ++ Lib.strCells s) (by simpa [Lib.strCells_length] using hown') (by decide)
  · exact (hb1.grown (by omega) hown hgrow).set hB _ _

end Go.Proofs.YtppmpofdhkgjmafDoor
