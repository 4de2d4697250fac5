/-
  The library contracts that this seat takes, laid at its own program. Walk of patch.split: the files ahead of a path, its own and those behind.
-/
import Derived.Shelf.Strings.Builder1
import Derived.Shelf.Small.Wraps
import Derived.Shelf.Strings.BuilderF
import Derived.Shelf.Strings.BuilderK
import Derived.Shelf.Utf8.RuneCount
import Derived.Shelf.Strconv.Atoi
import Derived.Shelf.Strconv.Itoa0
import Derived.Shelf.Strconv.Itoa1
import Derived.Shelf.LaysM
import Derived.Shelf.Strconv.Itoa2
import Derived.Shelf.Strconv.Itoa3
import Derived.Shelf.Strconv.AtoiErrFast
import Derived.Shelf.Strconv.ParseIntEmpty
import Derived.Shelf.Strconv.AtoiFail
import Derived.Shelf.Strconv.Clone
import Derived.Shelf.Strconv.SyntaxError
import Derived.Shelf.LaysC
import Derived.Shelf.Strconv.ToError
import Derived.Shelf.Strconv.AtoiErr
import Derived.Shelf.Strconv.ErrVar
import Derived.Shelf.Strings.Search1
import Derived.Shelf.Strings.Search2
import Derived.Shelf.Strings.Search3
import Derived.Shelf.Strings.Cut
import Derived.Shelf.Strings.Count
import Derived.Shelf.Strings.Shaped
import Derived.Shelf.Strings.Prefix
import Derived.Shelf.Strings.Split
import Derived.Shelf.Strings.SplitShaped
import Derived.Shelf.Unicode.Decode
import Derived.Shelf.Strings.RuneCount
import Derived.Shelf.Strings.Explode
import Derived.Shelf.Unicode.DecodeSlow
import Derived.Shelf.Unicode.DecodeAny
import Derived.Shelf.Strings.BuilderCap
import Derived.Test.YtnkdmgekpajfhadGreatDoorProg
import Derived.Shelf.SlSorted.Search
import Derived.Test.YtnkdmgekpajfhadGreatDoorXw

namespace Go.Proofs
open Go.Shelf
def Tryz.search_ren : Go.Shelf.Ren := ⟨fun | 16 => 123 | n => n, fun | 3 => 3 | 35 => 200 | 4 => 4 | 38 => 220 | n => n, fun | n => n⟩
theorem Tryz.search : Go.Proofs.SlLaysO.n16 Tryz.prog Tryz.search_ren := {
  mixed := by kernel_rfl
  f16 := Tryz.func123.trans (congrArg some (by kernel_rfl))
  t3 := Tryz.underlying3
  a3 := Tryz.isAgg3
  z3 := Tryz.sizeOf3
  v3 := Tryz.zeroValue3
  t4 := Tryz.underlying4
  a4 := Tryz.isAgg4
  z4 := Tryz.sizeOf4
  v4 := Tryz.zeroValue4
  t35 := Tryz.underlying200
  a35 := Tryz.isAgg200
  z35 := Tryz.sizeOf200
  v35 := Tryz.zeroValue200
  t38 := Tryz.underlying220
  a38 := Tryz.isAgg220
  z38 := Tryz.sizeOf220
  v38 := Tryz.zeroValue220 }

end Go.Proofs

namespace Go.Proofs.YtnkdmgekpajfhadGreatDoor
open Go.RowKit Go.Shelf Go.Lib Go.Sort

theorem run_files_at (a : Option Addr) (len cap lo hi : Nat) (h1 : lo ≤ hi) (h2 : hi ≤ cap) (w : World) (l h : Int) (hl : l = lo) (hh : h = hi) : (Instr.slice 41 (.slice a len cap) (some (.int .i64 l)) (some (.int .i64 h)) none).run Tryz.prog w = .ok (.slice (fa a cap lo) (hi - lo) (cap - lo)) w := by
  obtain ⟨i0, hi0, hz0, hz1, hz2⟩ := info_parts Tryz.infoFile
  subst hl hh
  have hsz : ∀ w, (Go.sizeOf 83).run Tryz.prog w = .ok 2 w := fun w => by simp [Go.sizeOf, typeInfo, hi0, hz1]
  have b1 : (0 : Int) ≤ lo ∧ (lo : Int) ≤ hi := by omega
  have b2 : (0 : Int) ≤ hi ∧ (hi : Int) ≤ cap := by omega
  simp only [Instr.slice, Instr.sliceBounds, Instr.sliceBound, run_underlying Tryz.underlying41, Sem.run_bind, Sem.run_pure, Result.andThen_ok, asIntOf, b1, b2, hsz, fa, if_true, and_self, Int.toNat_natCast]

theorem ftc_two (w : World) (a b : Option Addr) (xs ys : List Fl) (ca cb : Nat) (t : TypeId) (ha : Fls w a xs) (hb : Fls w b ys) : Fts (w.alloc (.cells #[.slice a xs.length ca, .slice b ys.length cb] t)) (some ⟨w.heap.size, 0, none⟩) [xs, ys] := by
  have hbl := below_alloc w (.cells #[.slice a xs.length ca, .slice b ys.length cb] t)
  have hh := heap_alloc_new w (.cells #[.slice a xs.length ca, .slice b ys.length cb] t)
  intro i hi
  match i, hi with
  | 0, _ => exact ⟨w.heap.size, 0, a, ca, rfl, by rw [Lib.cell_of_heap hh]; rfl, ha.below hbl⟩
  | 1, _ => exact ⟨w.heap.size, 0, b, cb, rfl, by rw [Lib.cell_of_heap hh]; rfl, hb.below hbl⟩
theorem ftc_three (w : World) (a b d : Option Addr) (xs ys zs : List Fl) (ca cb cd : Nat) (t : TypeId) (ha : Fls w a xs) (hb : Fls w b ys) (hd : Fls w d zs) : Fts (w.alloc (.cells #[.slice a xs.length ca, .slice b ys.length cb, .slice d zs.length cd] t)) (some ⟨w.heap.size, 0, none⟩) [xs, ys, zs] := by
  have hbl := below_alloc w (.cells #[.slice a xs.length ca, .slice b ys.length cb, .slice d zs.length cd] t)
  have hh := heap_alloc_new w (.cells #[.slice a xs.length ca, .slice b ys.length cb, .slice d zs.length cd] t)
  intro i hi
  match i, hi with
  | 0, _ => exact ⟨w.heap.size, 0, a, ca, rfl, by rw [Lib.cell_of_heap hh]; rfl, ha.below hbl⟩
  | 1, _ => exact ⟨w.heap.size, 0, b, cb, rfl, by rw [Lib.cell_of_heap hh]; rfl, hb.below hbl⟩
  | 2, _ => exact ⟨w.heap.size, 0, d, cd, rfl, by rw [Lib.cell_of_heap hh]; rfl, hd.below hbl⟩

set_option maxHeartbeats 400000 in
theorem splitAt (ba bx b off ca n : Nat) (x p : ByteArray) (i : Nat) (W : World) (hi : i < n)
    (ha : W.cell? ⟨ba, 0, none⟩ = some (.slice (some ⟨b, off, none⟩) n ca)) (hx : W.cell? ⟨bx, 0, none⟩ = some (.string p)) (hc : W.cell? ⟨b, off + i * 2, none⟩ = some (.string x)) :
    Calls Tryz.prog 124 (#[.int .i64 i] ++ #[.pointer (some ⟨ba, 0, none⟩), .pointer (some ⟨bx, 0, none⟩)]) W fun e w' => e = .returned (.bool (!bl x p)) ∧ ∃ q, w' = W.drewN q := by
  have HR : Hid (∀ r, Op.bytesLess x.toList p.toList = r → bl x p = r) := fun r h => h
  obtain ⟨r, hr⟩ : ∃ r, Op.bytesLess x.toList p.toList = r := ⟨_, rfl⟩
  rw [HR.out r hr]
  clear HR
  go_enter Tryz.func124, Tryz.ntmps124
  go_wp2
  go_quiet (fail)
  go_wp2
  go_ret
  exact ⟨rfl, _, rfl⟩

theorem split_lens {l : List Fl} (h : Ris l) (p : ByteArray) : l.length = pl l p + ((eqs l p).length + (hi l p).length) ∧ (eqs l p).length ≤ 1 := by
  refine ⟨?_, ?_⟩
  · have e := congrArg List.length (h.split p)
    rw [List.length_append, List.length_append] at e
    exact e
  · rcases h.one p with e | ⟨x, e, _⟩
    · rw [e]; exact Nat.zero_le _
    · rw [e]; exact Nat.le_refl _

theorem split_parts {l : List Fl} (h : Ris l) (p : ByteArray) : l.take (pl l p) = lo l p ∧ (l.take (pl l p + (eqs l p).length)).drop (pl l p) = eqs l p ∧ l.drop (pl l p + (eqs l p).length) = hi l p := by
  refine ⟨h.take p, ?_, ?_⟩
  · rw [List.drop_take, h.drop p]; simp
  · rw [← List.drop_drop, h.drop p]; simp

set_option maxRecDepth 100000 in
set_option maxHeartbeats 2000000 in
theorem splitOf (a : Option Addr) (l : List Fl) (ca : Nat) (p : ByteArray) (w : World) (ha : Fls w a l) (hr : Ris l) (hl : l.length ≤ 1000) (hca : l.length ≤ ca) :
    Calls Tryz.prog 96 #[.slice a l.length ca, .string p] w fun e w' => ∃ a1 c1 a2 c2 a3 c3, e = .returned (.tuple #[.slice a1 (lo l p).length c1, .slice a2 (eqs l p).length c2, .slice a3 (hi l p).length c3]) ∧ Below w.heap.size w w' ∧ Fls w' a1 (lo l p) ∧ Fls w' a2 (eqs l p) ∧ Fls w' a3 (hi l p) ∧ (hi l p).length ≤ c3 := by
  obtain ⟨W0, hW0⟩ : ∃ W0, W0 = (w.alloc (.cells #[.slice a l.length ca] 41)).alloc (.cells #[.string p] 9) := ⟨_, rfl⟩
  have hsize : W0.heap.size = w.heap.size + 1 + 1 := by rw [hW0]; simp
  have hb0 : Below w.heap.size w W0 := by rw [hW0]; exact ((Below.refl _ _).alloc (Nat.le_refl _) _).alloc (by simp) _
  have c1 : W0.cell? ⟨w.heap.size, 0, none⟩ = some (.slice a l.length ca) := by rw [hW0]; exact cell_alloc_sl _ (cell_new_sl w _ _)
  have c2 : W0.cell? ⟨w.heap.size + 1, 0, none⟩ = some (.string p) := by rw [hW0]; have := cell_new_sl (w.alloc (.cells #[.slice a l.length ca] 41)) (.string p) 9; rwa [World.size_alloc] at this
  have eg : ∀ args w, (callFunc 124 args).run Tryz.prog w = .ok (.enter 124 args) w := enters_of Tryz.func124 (by kernel_rfl) rfl
  have hmf : ∀ (fn : Fn) (first cap : Array Value) (w : World), (Instr.makeFunc fn first cap).run Tryz.prog w = .ok (.func fn first cap) w := fun _ _ _ _ => rfl
  have hS := Any.sort_Search (P := Tryz.prog) Tryz.search 124 #[.pointer (some ⟨w.heap.size, 0, none⟩), .pointer (some ⟨w.heap.size + 1, 0, none⟩)] l.length (fun i => !bl (l.getD i fz).1 p) W0 eg (by omega)
    (fun m os i hi => by
      have h0 := ha.below hb0
      obtain ⟨b, off, rfl⟩ := ha.addr hi
      obtain ⟨am, cm, h1, _⟩ := h0.at hi
      exact (splitAt w.heap.size (w.heap.size + 1) b off ca l.length _ p i _ hi (cell_grown (by simp [hsize]; omega) c1 m os) (cell_grown (by simp [hsize]) c2 m os) (cell_grown (World.block_lt_of_cell? _ _ h1) h1 m os)).mono
        fun _ _ ⟨he, q, hq⟩ => ⟨he, q, #[], by rw [hq, grow_empty]⟩)
    (fun a b hab hb h => hr.mono_at hab hb h)
  rw [pl_range] at hS
  change Calls Tryz.prog 123 _ _ _ at hS
  obtain ⟨hlen, h1e⟩ := split_lens hr p
  obtain ⟨p1, p2, p3⟩ := split_parts hr p
  have hple := pl_le l p
  have KP : Hid (∀ w', Below w.heap.size w w' → Fls w' (fa a ca 0) (lo l p) ∧ Fls w' (fa a ca (pl l p)) (eqs l p) ∧ Fls w' (fa a ca (pl l p + (eqs l p).length)) (hi l p)) := fun w' hb => by
    have h := ha.below hb
    have q1 := h.front hca (pl l p)
    have q2 := h.part hca (pl l p) (pl l p + (eqs l p).length)
    have q3 := h.rest hca (pl l p + (eqs l p).length)
    rw [p1] at q1
    rw [p2] at q2
    rw [p3] at q3
    exact ⟨q1, q2, q3⟩
  have e1 : (lo l p).length = pl l p := rfl
  rw [e1]
  have hfl : ∀ i, i < l.length → ∃ b off, a = some ⟨b, off, none⟩ ∧ ∀ w', Below w.heap.size w w' → w'.cell? ⟨b, off + i * 2, none⟩ = some (.string (l.getD i fz).1) := fun i hi => by
    obtain ⟨b, off, rfl⟩ := ha.addr hi
    obtain ⟨am, cm, h1, _⟩ := ha.at hi
    exact ⟨b, off, rfl, fun w' hb => cell_later hb h1⟩
  have KC : Hid (∀ q os, (grow (W0.drewN q) os).cell? ⟨w.heap.size, 0, none⟩ = some (.slice a l.length ca) ∧ (grow (W0.drewN q) os).cell? ⟨w.heap.size + 1, 0, none⟩ = some (.string p)) := fun q os => ⟨cell_grown (by simp [hsize]; omega) c1 q os, cell_grown (by simp [hsize]) c2 q os⟩
  have KB : Hid (∀ q os, Below w.heap.size w (grow (W0.drewN q) os)) := fun q os => hb0.trans ((below_grown_sl _ W0 q os (Nat.le_refl _)).mono hb0.size)
  by_cases he : eqs l p = []
  · rw [he, List.length_nil, Nat.add_zero] at KP
    rw [he, List.length_nil, Nat.zero_add] at hlen
    rw [he, List.length_nil]
    by_cases hlt : pl l p < l.length
    · have hne := hr.none_at he hlt
      obtain ⟨b, off, rfl, hcc⟩ := hfl _ hlt
      have hd : ((l.getD (pl l p) fz).1.toList == p.toList) = false := by rw [ba_beq]; exact decide_eq_false hne
      have KX : Hid (∀ w', Below w.heap.size w w' → w'.cell? ⟨b, off + pl l p * 2, none⟩ = some (.string (l.getD (pl l p) fz).1)) := hcc
      obtain ⟨x, hx⟩ : ∃ x, (l.getD (pl l p) fz).1 = x := ⟨_, rfl⟩
      have hs1 := fun w => run_files_to (some ⟨b, off, none⟩) l.length ca (pl l p) (by omega) w (pl l p) rfl
      have hs2 := fun w => run_files_at (some ⟨b, off, none⟩) l.length ca (pl l p) (pl l p) (by omega) (by omega) w (pl l p) (pl l p) rfl rfl
      have hs3 := fun w => run_files_from (some ⟨b, off, none⟩) l.length ca (pl l p) (by omega) w (pl l p) rfl
      rw [hx] at hd KX
      rw [Nat.sub_self] at hs2
      rw [show l.length - pl l p = (hi l p).length by omega] at hs3
      obtain ⟨n, hn⟩ : ∃ n, l.length = n := ⟨_, rfl⟩
      obtain ⟨r, hrr⟩ : ∃ r, pl l p = r := ⟨_, rfl⟩
      obtain ⟨s, hss⟩ : ∃ s, (hi l p).length = s := ⟨_, rfl⟩
      rw [hn, hrr] at hS hs1 hs2 hs3 hlt hlen
      rw [hn] at hW0 hl hca KC hple
      rw [hrr] at hple KX KP
      rw [hss] at hs3 hlen
      rw [hn, hrr, hss]
      have HW0 : Hid (W0 = (w.alloc (.cells #[.slice (some ⟨b, off, none⟩) n ca] 41)).alloc (.cells #[.string p] 9)) := hW0
      have HSS : Hid (s ≤ ca - r) := by show s ≤ ca - r; omega
      clear hlen ha hr c1 c2 eg hsize hW0 hb0 hn hrr hss hcc hfl hne hx p1 p2 p3 e1 h1e he
      go_enter Tryz.func96, Tryz.ntmps96
      go_wp2_with (go_at_call 123; rw [← HW0.out]; refine hS.mono ?_; rintro e w' ⟨rfl, q, os, rfl⟩)
      obtain ⟨y1, y2⟩ := KC.out q os
      have hbw := KB.out q os
      have y3 := KX.out _ hbw
      generalize grow (W0.drewN q) os = W1 at y1 y2 y3 hbw ⊢
      clear hS KX KC KB
      have hdl : decide (r < n) = true := decide_eq_true hlt
      go_wp2
      go_quiet (fail)
      go_wp2
      go_quiet (fail)
      go_wp2
      go_ret3
      obtain ⟨k1, k2, k3⟩ := KP.out _ (below_drawn (below_drawn hbw))
      exact ⟨_, _, _, _, _, _, rfl, below_drawn (below_drawn hbw), k1, k2, k3, HSS.out⟩
    · have hs1 := fun w => run_files_to a l.length ca (pl l p) (by omega) w (pl l p) rfl
      have hs2 := fun w => run_files_at a l.length ca (pl l p) (pl l p) (by omega) (by omega) w (pl l p) (pl l p) rfl rfl
      have hs3 := fun w => run_files_from a l.length ca (pl l p) (by omega) w (pl l p) rfl
      rw [Nat.sub_self] at hs2
      rw [show l.length - pl l p = (hi l p).length by omega] at hs3
      obtain ⟨n, hn⟩ : ∃ n, l.length = n := ⟨_, rfl⟩
      obtain ⟨r, hrr⟩ : ∃ r, pl l p = r := ⟨_, rfl⟩
      obtain ⟨s, hss⟩ : ∃ s, (hi l p).length = s := ⟨_, rfl⟩
      rw [hn, hrr] at hS hs1 hs2 hs3 hlt hlen
      rw [hn] at hW0 hl hca KC hple
      rw [hrr] at hple KP
      rw [hss] at hs3 hlen
      rw [hn, hrr, hss]
      have HW0 : Hid (W0 = (w.alloc (.cells #[.slice a n ca] 41)).alloc (.cells #[.string p] 9)) := hW0
      have HSS : Hid (s ≤ ca - r) := by show s ≤ ca - r; omega
      clear hlen ha hr c1 c2 eg hsize hW0 hb0 hn hrr hss hfl p1 p2 p3 e1 h1e he
      go_enter Tryz.func96, Tryz.ntmps96
      go_wp2_with (go_at_call 123; rw [← HW0.out]; refine hS.mono ?_; rintro e w' ⟨rfl, q, os, rfl⟩)
      obtain ⟨y1, y2⟩ := KC.out q os
      have hbw := KB.out q os
      generalize grow (W0.drewN q) os = W1 at y1 y2 hbw ⊢
      clear hS KC KB
      have hdl : decide (r < n) = false := decide_eq_false hlt
      go_wp2
      go_quiet (fail)
      go_wp2
      go_quiet (fail)
      go_wp2
      go_ret3
      obtain ⟨k1, k2, k3⟩ := KP.out _ (below_drawn (below_drawn hbw))
      exact ⟨_, _, _, _, _, _, rfl, below_drawn (below_drawn hbw), k1, k2, k3, HSS.out⟩
  · obtain ⟨_, hlt, hpe, _⟩ := hr.drop_more he
    have h1 : (eqs l p).length = 1 := by have := List.length_pos_iff.2 he; omega
    obtain ⟨b, off, rfl, hcc⟩ := hfl _ hlt
    rw [hpe] at hcc
    have hd : (p.toList == p.toList) = true := by simp
    have KX : Hid (∀ w', Below w.heap.size w w' → w'.cell? ⟨b, off + pl l p * 2, none⟩ = some (.string p)) := hcc
    rw [h1] at KP hlen
    rw [h1]
    have hs1 := fun w => run_files_to (some ⟨b, off, none⟩) l.length ca (pl l p) (by omega) w (pl l p) rfl
    have hs2 := fun w => run_files_at (some ⟨b, off, none⟩) l.length ca (pl l p) (pl l p + 1) (by omega) (by omega) w (pl l p) ((pl l p : Int) + 1) rfl (by omega)
    have hs3 := fun w => run_files_from (some ⟨b, off, none⟩) l.length ca (pl l p + 1) (by omega) w ((pl l p : Int) + 1) (by omega)
    rw [Nat.add_sub_cancel_left] at hs2
    rw [show l.length - (pl l p + 1) = (hi l p).length by omega] at hs3
    obtain ⟨n, hn⟩ : ∃ n, l.length = n := ⟨_, rfl⟩
    obtain ⟨r, hrr⟩ : ∃ r, pl l p = r := ⟨_, rfl⟩
    obtain ⟨s, hss⟩ : ∃ s, (hi l p).length = s := ⟨_, rfl⟩
    rw [hn, hrr] at hS hs1 hs2 hs3 hlt hlen
    rw [hn] at hW0 hl hca KC hple
    rw [hrr] at hple KX KP
    rw [hss] at hs3 hlen
    rw [hn, hrr, hss]
    have HW0 : Hid (W0 = (w.alloc (.cells #[.slice (some ⟨b, off, none⟩) n ca] 41)).alloc (.cells #[.string p] 9)) := hW0
    have HSS : Hid (s ≤ ca - (r + 1)) := by show s ≤ ca - (r + 1); omega
    clear hlen ha hr c1 c2 eg hsize hW0 hb0 hn hrr hss hcc hfl p1 p2 p3 e1 h1e he hpe h1
    go_enter Tryz.func96, Tryz.ntmps96
    go_wp2_with (go_at_call 123; rw [← HW0.out]; refine hS.mono ?_; rintro e w' ⟨rfl, q, os, rfl⟩)
    obtain ⟨y1, y2⟩ := KC.out q os
    have hbw := KB.out q os
    have y3 := KX.out _ hbw
    generalize grow (W0.drewN q) os = W1 at y1 y2 y3 hbw ⊢
    clear hS KX KC KB
    have hdl : decide (r < n) = true := decide_eq_true hlt
    go_wp2
    go_quiet (fail)
    go_wp2
    go_quiet (fail)
    go_wp2
    go_ret3
    obtain ⟨k1, k2, k3⟩ := KP.out _ (below_drawn (below_drawn hbw))
    exact ⟨_, _, _, _, _, _, rfl, below_drawn (below_drawn hbw), k1, k2, k3, HSS.out⟩

end Go.Proofs.YtnkdmgekpajfhadGreatDoor
