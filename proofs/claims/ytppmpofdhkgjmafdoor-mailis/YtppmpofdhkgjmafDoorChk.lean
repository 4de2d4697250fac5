/-
  The library's slices.Chunk at bytes: its iterator's contract, for every body that keeps its two boxes.
-/
import Derived.Test.YtppmpofdhkgjmafDoorBpr
import Derived.Test.YtppmpofdhkgjmafDoorWri
import Derived.RangeFuncNested
import Derived.RangeFuncLeaves
import Derived.Shelf.RegionOpen
import Derived.OwnWalkIn
import Derived.TacticsInMore
import Derived.LoopNIn
import Derived.LoopIn

namespace Go.Proofs.YtppmpofdhkgjmafDoor
open Go.RowKit Go.Shelf Dist

/-- Two blocks lie as they lay. -/
def Two (s n : Nat) (W W' : World) : Prop := W'.heap[s]? = W.heap[s]? ∧ W'.heap[n]? = W.heap[n]?
theorem Two.refl (s n : Nat) (W : World) : Two s n W W := ⟨rfl, rfl⟩
theorem Two.trans {s n : Nat} {A B C : World} (h : Two s n A B) (k : Two s n B C) : Two s n A C := ⟨k.1.trans h.1, k.2.trans h.2⟩
theorem Two.put {s n : Nat} {w : World} (hs : s < w.heap.size) (hn : n < w.heap.size) (W : World) (l : Nat) (o o' : Obj) (hl : w.heap.size ≤ l) (_ : W.heap[l]? = some o) (_ : o.isCells = false) (_ : o.isWalk = false) : Two s n W (W.putObj l o') :=
  ⟨World.putObj_heap_other (by omega), World.putObj_heap_other (by omega)⟩

/-- The value of a piece. -/
def pcv (b off c len k : Nat) : Array Value := #[.slice (some ⟨b, off + k * c, none⟩) (min c (len - k * c)) (min c (len - k * c))]

set_option maxHeartbeats 400000 in
theorem chunk (a : Option Addr) (len cap c : Nat) (hc : 1 ≤ c) (w : World) : Calls Tryd.prog 35 #[.slice a len cap, .int .i64 c] w fun e w' =>
    e = .returned (.func (.func 63) #[] #[.pointer (some ⟨w.heap.size, 0, none⟩), .pointer (some ⟨w.heap.size + 1, 0, none⟩)]) ∧ w' = (w.alloc (.cells #[.slice a len cap] 39)).alloc (.cells #[.int .i64 c] 3) := by
  go_enter Tryd.func35, Tryd.ntmps35
  go_wp2
  go_ret
  exact ⟨rfl, rfl⟩

attribute [local go_sem] Oper.semAt_some

theorem finRange_take {K k : Nat} (h : k < K) : (List.finRange K).take (k + 1) = (List.finRange K).take k ++ [⟨k, h⟩] := by
  rw [List.take_add_one, List.getElem?_eq_getElem (by simpa using h)]
  simp

set_option maxRecDepth 100000 in
set_option maxHeartbeats 1000000 in
theorem chunk1_in (n : Nat) (hn1 : 1 ≤ n) (l Bs Bn b off len cap c : Nat) (hc : 1 ≤ c) (hc2 : c ≤ 1000) (hlen : len ≤ 140737488355328) (hcap : len ≤ cap) (J Jx : List (Fin (pcn c len)) → World → Prop) (n₀ : Nat) (hA : AbidesFrom n₀ J)
    (hY : ∀ pre x W, J pre W → pre.length < pcn c len → YieldAt Fence.wide (n - 1) Tryd.prog l (pcv b off c len x.1) W fun e W' =>
      (e = .returned (.bool true) ∧ J (pre ++ [x]) W' ∧ Two Bs Bn W W') ∨ (e = .returned (.bool false) ∧ Jx (pre ++ [x]) W'))
    (W : World) (hs : W.cell? ⟨Bs, 0, none⟩ = some (.slice (some ⟨b, off, none⟩) len cap)) (hn : W.cell? ⟨Bn, 0, none⟩ = some (.int .i64 c)) (h0 : J [] W) :
    CallsIn Fence.wide n Tryd.prog 63 #[.func (.yield l) #[] #[], .pointer (some ⟨Bs, 0, none⟩), .pointer (some ⟨Bn, 0, none⟩)] W fun e W' => (∃ v, e = .returned v) ∧
      ((∃ ys, ys = List.finRange (pcn c len) ∧ J ys W') ∨ (∃ pre, True ∧ Jx pre W')) := by
  refine callsIn_of_wp Tryd.func63 rfl trivial ?_ rfl
  simp only [Tryd.ntmps63, List.size_toArray, List.length_cons, List.length_nil, Nat.reduceAdd, Nat.reduceSub, Array.replicate_succ, Array.replicate_zero, List.push_toArray, List.append_toArray, List.nil_append, List.cons_append]
  gi_wp2
  gi_loopw [4, 5] (fun i _ wr => ∃ (k p : Nat), Hid (k * c = p) ∧ k ≤ pcn c len ∧ i = .int .i64 p ∧ p ≤ 140737488356328 ∧ J ((List.finRange (pcn c len)).take k) wr ∧ Two Bs Bn W wr)
    (fun i _ _ => len - (intOf i).toNat)
  case atStart => exact ⟨0, 0, Nat.zero_mul c, Nat.zero_le _, rfl, by omega, by simpa using h0, Two.refl _ _ _⟩
  case round =>
    obtain ⟨k, p, hkp, hk, rfl, hp, hJ, hT⟩ := hrel
    have hs' : wr.cell? ⟨Bs, 0, none⟩ = some (.slice (some ⟨b, off, none⟩) len cap) := (World.cell?_of_block (w := W) hT.1).trans hs
    have hn' : wr.cell? ⟨Bn, 0, none⟩ = some (.int .i64 c) := (World.cell?_of_block (w := W) hT.2).trans hn
    by_cases hlt : p < len
    · have hkl : k < pcn c len := (pcn_lt (by omega)).2 (by rw [hkp.out]; exact hlt)
      obtain ⟨m, hm⟩ : ∃ m, min c (len - p) = m := ⟨_, rfl⟩
      have hmi : min (c : Int) ((len - p : Nat) : Int) = (m : Int) := by omega
      have hm1 : p + m ≤ len := by omega
      have hm2 : p + m ≤ cap := by omega
      gi_wp2
      gi_quiet (fail)
      clear hmi
      have hJ2 : J ((List.finRange (pcn c len)).take k) (wr.drewN nq) := hA _ wr _ none hJ ⟨rfl, rfl, rfl, Nat.le_refl _, fun _ _ _ => rfl⟩ (fun r e => by cases e)
      have hT2 : Two Bs Bn W (wr.drewN nq) := hT
      have hs2 : (wr.drewN nq).cell? ⟨Bs, 0, none⟩ = some (.slice (some ⟨b, off, none⟩) len cap) := hs'
      have hn2 : (wr.drewN nq).cell? ⟨Bn, 0, none⟩ = some (.int .i64 c) := hn'
      generalize wr.drewN nq = wq at hJ2 hT2 hs2 hn2 ⊢
      obtain ⟨fn, tmps, assign, body, hy, hR⟩ := hY _ ⟨k, hkl⟩ wq hJ2 (by rw [List.length_take, List.length_finRange]; omega)
      unfold pcv at hy
      dsimp only at hy
      rw [hkp.out, hm] at hy
      gi_wp2
      refine hR.mono ?_
      rintro e W3 (⟨rfl, hJ3, hk3⟩ | ⟨rfl, hJx3⟩)
      · have hT3 := hT2.trans hk3
        have hn3 : W3.cell? ⟨Bn, 0, none⟩ = some (.int .i64 c) := (World.cell?_of_block (w := W) hT3.2).trans hn
        rw [← finRange_take hkl] at hJ3
        gi_wp2
        go_roundw
        case rel => exact ⟨k + 1, p + c, by show (k + 1) * c = p + c; rw [Nat.succ_mul, hkp.out], hkl, by simp, by omega, hJ3, hT3⟩
        case measure => simp [intOf]; omega
      · gi_wp2
        refine bodyPost_ret (results_none rfl _ _ _) rfl ?_
        exact ⟨⟨_, rfl⟩, .inr ⟨_, trivial, hJx3⟩⟩
    · have : k = pcn c len := by
        have h : ¬ k < pcn c len := fun h => hlt (by have := (pcn_lt (n := c) (len := len) (k := k) (by omega)).1 h; rw [hkp.out] at this; exact this)
        omega
      gi_wp2
      go_end0
      exact ⟨⟨_, rfl⟩, .inl ⟨_, rfl, by rw [this, List.take_of_length_le (by simp)] at hJ; exact hJ⟩⟩

set_option maxRecDepth 100000 in
set_option maxHeartbeats 400000 in
theorem chunk1_nil (n l Bs Bn : Nat) {α : Type} (J : List α → World → Prop) (a : Option Addr) (cap : Nat) (W : World) (hs : W.cell? ⟨Bs, 0, none⟩ = some (.slice a 0 cap)) (h0 : J [] W) :
    CallsIn Fence.wide n Tryd.prog 63 #[.func (.yield l) #[] #[], .pointer (some ⟨Bs, 0, none⟩), .pointer (some ⟨Bn, 0, none⟩)] W fun e W' => (∃ v, e = .returned v) ∧ J [] W' := by
  refine callsIn_of_wp Tryd.func63 rfl trivial ?_ rfl
  simp only [Tryd.ntmps63, List.size_toArray, List.length_cons, List.length_nil, Nat.reduceAdd, Nat.reduceSub, Array.replicate_succ, Array.replicate_zero, List.push_toArray, List.append_toArray, List.nil_append, List.cons_append]
  gi_wp2
  gi_loopw [4, 5] (fun i _ wr => i = .int .i64 0 ∧ J [] wr ∧ wr.cell? ⟨Bs, 0, none⟩ = some (.slice a 0 cap)) (fun _ _ _ => 0)
  case atStart => exact ⟨rfl, h0, hs⟩
  case round =>
    obtain ⟨rfl, hJ, hs'⟩ := hrel
    gi_wp2
    go_end0
    exact ⟨⟨_, rfl⟩, hJ⟩

/-- A piece's value, wherever the bytes are. -/
def adr (a : Option Addr) (p : Nat) : Option Addr := match a with
  | none => none
  | some x => some ⟨x.block, x.off + p, none⟩
def pcw (a : Option Addr) (c len k : Nat) : Value := .slice (adr a (k * c)) (min c (len - k * c)) (min c (len - k * c))

/-- slices.Chunk GIVES PIECE BY PIECE, for every body that keeps its two boxes. -/
theorem chunk_stops (n : Nat) (hn1 : 1 ≤ n) (Bs Bn : Nat) (a : Option Addr) (len cap c : Nat) (hc : 1 ≤ c) (hc2 : c ≤ 1000) (hlen : len ≤ 140737488355328) (ha : len = 0 ∨ (∃ b off, a = some ⟨b, off, none⟩ ∧ len ≤ cap)) (w : World) (hBs : Bs < w.heap.size) (hBn : Bn < w.heap.size)
    (hs : w.cell? ⟨Bs, 0, none⟩ = some (.slice a len cap)) (hn : w.cell? ⟨Bn, 0, none⟩ = some (.int .i64 c)) :
    SeqStopsK Fence.wide n Tryd.prog 63 #[.pointer (some ⟨Bs, 0, none⟩), .pointer (some ⟨Bn, 0, none⟩)] (fun x : Fin (pcn c len) => #[pcw a c len x.1]) (Two Bs Bn) (fun ys => ys = List.finRange (pcn c len)) (fun _ => True) (pcn c len) w := by
  rcases ha with rfl | ⟨b, off, rfl, hcap⟩
  · intro l J Jx W hW _ _ _ h0
    exact (chunk1_nil n l Bs Bn J a cap W ((hW.cell (p := ⟨Bs, 0, none⟩) hBs).trans hs) h0).mono fun e W' h => ⟨h.1, .inl ⟨[], by
      have : (List.finRange (pcn c 0)).length = 0 := by rw [List.length_finRange, pcn_zero hc]
      exact (List.length_eq_zero_iff.1 this).symm, h.2⟩⟩
  · intro l J Jx W hW hJ _ hY h0
    exact chunk1_in n hn1 l Bs Bn b off len cap c hc hc2 hlen hcap J Jx _ hJ hY W ((hW.cell (p := ⟨Bs, 0, none⟩) hBs).trans hs) ((hW.cell (p := ⟨Bn, 0, none⟩) hBn).trans hn) h0

end Go.Proofs.YtppmpofdhkgjmafDoor
