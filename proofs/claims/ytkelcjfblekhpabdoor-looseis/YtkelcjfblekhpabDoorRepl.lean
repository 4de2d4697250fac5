/-
  Walk of apply.file's replace: so many lines at a place by others.
-/
import Derived.Test.YtkelcjfblekhpabDoorNear
import Derived.Deep.RegionHeld3
import Derived.Deep.RegionLaw

namespace Go.Proofs.YtkelcjfblekhpabDoor
open Go.RowKit Dist

theorem grown_below {w w' : World} {r : Option Nat} (hb : Below w.heap.size w w') : w.grownBy w' r := ⟨hb.os, hb.tape, hb.output, hb.size, fun k hk _ => hb.block k hk⟩

theorem grown_set {w w' : World} {F : Nat} (h : w.grownBy w' (some F)) (i : Nat) (v : Value) : w.grownBy (w'.setCell ⟨F, i, none⟩ v) (some F) := by
  refine ⟨h.os, h.tape, h.output, by simpa using h.size, fun k hk hne => ?_⟩
  have e : (w'.setCell ⟨F, i, none⟩ v).heap[k]? = w'.heap[k]? := by
    simp only [World.setCell, Array.getElem?_modify]
    rw [if_neg (fun e => hne (by rw [e]))]
  rw [e]; exact h.block k hk hne

theorem grown_drawn {w w' : World} {F q : Nat} (h : w.grownBy w' (some F)) : w.grownBy (w'.drewN q) (some F) := ⟨h.os, h.tape, h.output, h.size, h.block⟩

theorem run_slice_to (a : Option Addr) (len cap hi : Nat) (h2 : hi ≤ cap) (w : World) (h : Int) (hh : h = hi) : (Instr.slice 22 (.slice a len cap) none (some (.int .i64 h)) none).run Tryd.prog w = .ok (.slice (sa a cap 0) hi cap) w := by
  obtain ⟨i0, hi0, hz0, hz1, hz2⟩ := info_parts Tryd.info9
  subst hh
  have hsz : ∀ w, (Go.sizeOf 9).run Tryd.prog w = .ok 1 w := fun w => by simp [Go.sizeOf, typeInfo, hi0, hz1]
  have b2 : (0 : Int) ≤ hi ∧ (hi : Int) ≤ cap := by omega
  simp only [Instr.slice, Instr.sliceBounds, Instr.sliceBound, run_underlying Tryd.underlying22, Sem.run_bind, Sem.run_pure, Result.andThen_ok, asIntOf, b2, hsz, sa, Nat.zero_mul, if_true, and_self, Int.toNat_natCast, Nat.sub_zero]

set_option maxRecDepth 100000 in
set_option maxHeartbeats 4000000 in
theorem replS (F : Nat) (A : List ByteArray) (E S hd' : Int) (a1 a2 : Option Addr) (m1 : Nat) (ns : List ByteArray) (c1 c2 pl : Nat) (w : World) (hF : Fil w F A E S) (h2 : Strs w a2 ns) (hpl : pl + m1 ≤ A.length) (hA : A.length ≤ 60) (hn : ns.length ≤ 120) (hS1 : -10000 ≤ S) (hS2 : S ≤ 10000) :
    Calls Tryd.prog 44 #[.pointer (some ⟨F, 0, none⟩), .agg #[.int .i64 hd', .slice a1 m1 c1, .slice a2 ns.length c2], .int .i64 pl] w fun e w' => (∃ v, e = .returned v) ∧ Fil w' F (rep A pl m1 ns) (pl + ns.length) (S + (ns.length - m1)) ∧ w.grownBy w' (some F) := by
  have hFl := hF.lt
  obtain ⟨a, c, hF1, hF2, hF3, _⟩ := hF
  have hrl := rep_len (A := A) (x := ns) (k := pl) (n := m1) hpl
  have hb1 := below_alloc w (.cells #[.int .i64 hd', .slice a1 m1 c1, .slice a2 ns.length c2] 55)
  have kF1 := blk_below hb1 hFl hF1
  have kP1 := heap_alloc_new w (.cells #[.int .i64 hd', .slice a1 m1 c1, .slice a2 ns.length c2] 55)
  have hdr : Below (w.alloc (.cells #[.int .i64 hd', .slice a1 m1 c1, .slice a2 ns.length c2] 55)).heap.size (w.alloc (.cells #[.int .i64 hd', .slice a1 m1 c1, .slice a2 ns.length c2] 55)) (w.alloc (.cells #[.int .i64 hd', .slice a1 m1 c1, .slice a2 ns.length c2] 55)).drew := ⟨rfl, rfl, rfl, Nat.le_refl _, fun _ _ => rfl⟩
  have hsA := (hF2.below hb1).below hdr
  have hp1 := hsA.part hF3 0 pl
  have hp3 := hsA.part hF3 (pl + m1) A.length
  rw [List.take_length] at hp3
  rw [List.drop_zero] at hp1
  have l1 : (A.take pl).length = pl := by rw [List.length_take]; omega
  have l3 : (A.drop (pl + m1)).length = A.length - (pl + m1) := by rw [List.length_drop]
  have hpt := pts_three (w.alloc (.cells #[.int .i64 hd', .slice a1 m1 c1, .slice a2 ns.length c2] 55)).drew (sa a c 0) a2 (sa a c (pl + m1)) (A.take pl) ns (A.drop (pl + m1)) c c2 (c - (pl + m1)) 22 hp1 ((h2.below hb1).below hdr) hp3
  have hfl : [A.take pl, ns, A.drop (pl + m1)].flatten = rep A pl m1 ns := by unfold rep; simp
  have hcc := concatS _ _ 3 _ hpt (by rw [hfl]; omega) (by simp)
  rw [hfl, l1, l3, show [A.take pl, ns, A.drop (pl + m1)].length = 3 from rfl] at hcc
  have hsl1 := fun w => run_slice_to a A.length c pl (by omega) w pl rfl
  have hsl2 := fun w => run_slice_from a A.length c (pl + m1) hpl w ((pl : Int) + m1) (by omega)
  obtain ⟨m, hm⟩ : ∃ m, A.length = m := ⟨_, rfl⟩
  obtain ⟨n, hn'⟩ : ∃ n, ns.length = n := ⟨_, rfl⟩
  obtain ⟨N, hN⟩ : ∃ N, rep A pl m1 ns = N := ⟨_, rfl⟩
  obtain ⟨nl, hnl⟩ : ∃ nl, N.length = nl := ⟨_, rfl⟩
  have HNL : Hid (N.length = nl) := hnl
  rw [hm, hn'] at hcc
  rw [hN, hnl] at hcc
  rw [hm] at hsl1 hsl2 hA hpl
  rw [hm] at kF1
  rw [hn'] at kF1 kP1 hb1
  rw [hn'] at hn
  rw [hN, hn']
  have f0 : (w.alloc (.cells #[.int .i64 hd', .slice a1 m1 c1, .slice a2 n c2] 55)).cell? ⟨F, 0, none⟩ = some (.slice a m c) := by rw [Lib.cell_of_heap kF1]; rfl
  obtain ⟨P, hP⟩ : ∃ P, w.heap.size = P := ⟨_, rfl⟩
  have hz1 : (w.alloc (.cells #[.int .i64 hd', .slice a1 m1 c1, .slice a2 n c2] 55)).heap.size = P + 1 := by simp [hP]
  have HP : Hid (w.heap.size = P) := hP
  rw [hP] at kP1 hFl
  have p1 : (w.alloc (.cells #[.int .i64 hd', .slice a1 m1 c1, .slice a2 n c2] 55)).cell? ⟨P, 1, none⟩ = some (.slice a1 m1 c1) := by rw [Lib.cell_of_heap kP1]; rfl
  have p2 : (w.alloc (.cells #[.int .i64 hd', .slice a1 m1 c1, .slice a2 n c2] 55)).cell? ⟨P, 2, none⟩ = some (.slice a2 n c2) := by rw [Lib.cell_of_heap kP1]; rfl
  have HB1 : Hid (Below w.heap.size w (w.alloc (.cells #[.int .i64 hd', .slice a1 m1 c1, .slice a2 n c2] 55))) := hb1
  have KF1 : Hid ((w.alloc (.cells #[.int .i64 hd', .slice a1 m1 c1, .slice a2 n c2] 55)).heap[F]? = some (.cells #[.slice a m c, .int .i64 E, .int .i64 S] 68)) := kF1
  have KP1 : Hid ((w.alloc (.cells #[.int .i64 hd', .slice a1 m1 c1, .slice a2 n c2] 55)).heap[P]? = some (.cells #[.int .i64 hd', .slice a1 m1 c1, .slice a2 n c2] 55)) := kP1
  clear hF1 hF2 hF3 h2 hb1 kF1 kP1 hdr hsA hp1 hp3 l1 l3 hpt hfl hm hn' hN hnl hrl hP
  go_enter Tryd.func44, Tryd.ntmps44
  go_wp2
  rw [HP.out]
  generalize hW1 : w.alloc (.cells #[.int .i64 hd', .slice a1 m1 c1, .slice a2 n c2] 55) = W1 at hcc f0 hz1 p1 p2 HB1 KF1 KP1 ⊢
  have HZ1 : Hid (W1.heap.size = P + 1) := hz1
  have hdr : Below W1.heap.size W1 W1.drew := ⟨rfl, rfl, rfl, Nat.le_refl _, fun _ _ => rfl⟩
  have hbc := below_alloc W1.drew (.cells #[.slice (sa a c 0) pl c, .slice a2 n c2, .slice (sa a c (pl + m1)) (m - (pl + m1)) (c - (pl + m1))] 22)
  have AFT : Hid (∀ w5, Below (W1.drew.alloc (.cells #[.slice (sa a c 0) pl c, .slice a2 n c2, .slice (sa a c (pl + m1)) (m - (pl + m1)) (c - (pl + m1))] 22)).heap.size (W1.drew.alloc (.cells #[.slice (sa a c 0) pl c, .slice a2 n c2, .slice (sa a c (pl + m1)) (m - (pl + m1)) (c - (pl + m1))] 22)) w5 → w5.heap[F]? = some (.cells #[.slice a m c, .int .i64 E, .int .i64 S] 68) ∧ w5.heap[P]? = some (.cells #[.int .i64 hd', .slice a1 m1 c1, .slice a2 n c2] 55) ∧ w.grownBy w5 (some F)) := fun w5 hb5 => by
    have h5 := hdr.trans (hbc.trans (hb5.mono (by simp)))
    exact ⟨blk_below h5 (by omega) KF1.out, blk_below h5 (by omega) KP1.out, grown_below (HB1.out.trans (h5.mono HB1.out.size))⟩
  have hne : F ≠ P := by omega
  have hp60 : pl ≤ 60 := by omega
  have hm60 : m1 ≤ 60 := by omega
  have hwr : IntKind.i64.wrap ((pl : Int) + m1) = (pl : Int) + m1 := by rw [IntKind.wrap_i64]; omega
  have P1 : Hid (W1.cell? ⟨P, 1, none⟩ = some (.slice a1 m1 c1)) := p1
  have P2 : Hid (W1.cell? ⟨P, 2, none⟩ = some (.slice a2 n c2)) := p2
  have AL : Hid (∀ w5, Below W1.heap.size W1 w5 → w5.cell? ⟨P, 1, none⟩ = some (.slice a1 m1 c1) ∧ w5.cell? ⟨P, 2, none⟩ = some (.slice a2 n c2)) := fun w5 h => ⟨cell_later h P1.out, cell_later h P2.out⟩
  have BDR : Hid (Below W1.heap.size W1 W1.drew) := hdr
  have BAL : Hid (Below W1.heap.size W1 (W1.drew.alloc (.cells #[.slice (sa a c 0) pl c, .slice a2 n c2, .slice (sa a c (pl + m1)) (m - (pl + m1)) (c - (pl + m1))] 22))) := hdr.trans hbc
  have HCC : Calls Tryd.prog 23 #[.slice (some ⟨W1.heap.size, 0, none⟩) 3 3] (W1.alloc (.cells #[.slice (sa a c 0) pl c, .slice a2 n c2, .slice (sa a c (pl + m1)) (m - (pl + m1)) (c - (pl + m1))] 22)).drew (fun e w' => ∃ a' cap, e = .returned (.slice a' nl cap) ∧ Strs w' a' N ∧ Below (W1.alloc (.cells #[.slice (sa a c 0) pl c, .slice a2 n c2, .slice (sa a c (pl + m1)) (m - (pl + m1)) (c - (pl + m1))] 22)).drew.heap.size (W1.alloc (.cells #[.slice (sa a c 0) pl c, .slice a2 n c2, .slice (sa a c (pl + m1)) (m - (pl + m1)) (c - (pl + m1))] 22)).drew w' ∧ nl ≤ cap ∧ TypS w' a') := hcc
  have AFT2 : Hid (∀ w5, Below (W1.alloc (.cells #[.slice (sa a c 0) pl c, .slice a2 n c2, .slice (sa a c (pl + m1)) (m - (pl + m1)) (c - (pl + m1))] 22)).drew.heap.size (W1.alloc (.cells #[.slice (sa a c 0) pl c, .slice a2 n c2, .slice (sa a c (pl + m1)) (m - (pl + m1)) (c - (pl + m1))] 22)).drew w5 → w5.heap[F]? = some (.cells #[.slice a m c, .int .i64 E, .int .i64 S] 68) ∧ w5.heap[P]? = some (.cells #[.int .i64 hd', .slice a1 m1 c1, .slice a2 n c2] 55) ∧ w.grownBy w5 (some F)) := AFT.out
  clear hW1 hz1 hdr hbc hcc AFT
  refine wp_region_held_drew (S := fun w' => w'.cell? ⟨P, 1, none⟩ = some (.slice a1 m1 c1) ∧ w'.cell? ⟨P, 2, none⟩ = some (.slice a2 n c2)) (by kernel_rfl) ?_ (fun hHeld => ?_)
  · exact AL.out _ BDR.out
  refine wpAnyH_take (i := 0) (v := ?_) rfl (by kernel_rfl) (by kernel_rfl) (by kernel_rfl) (fun _ _ _ h => h) (Or.inl ⟨by rfl, ?_⟩) (by assumption) ?_
  rotate_left
  · intro w' hSw
    (try dsimp only at hSw)
    go_simp
    try with_reducible rfl
  simp only [Act.put, List.getElem_toArray, List.getElem_cons_zero, List.setIfInBounds_toArray, List.set_cons_zero, List.set_cons_succ]
  refine wpAnyH_take (i := 1) (v := ?_) rfl (by kernel_rfl) (by kernel_rfl) (by kernel_rfl) (fun _ _ _ h => h) (Or.inl ⟨by rfl, ?_⟩) (by assumption) ?_
  rotate_left
  · intro w' hSw
    (try dsimp only at hSw)
    go_simp
    try with_reducible rfl
  simp only [Act.put, List.getElem_toArray, List.getElem_cons_zero, List.getElem_cons_succ, List.setIfInBounds_toArray, List.set_cons_zero, List.set_cons_succ]
  refine wpAnyH_take (i := 2) (v := ?_) rfl (by kernel_rfl) (by kernel_rfl) (by kernel_rfl) (fun _ _ _ h => h) (Or.inl ⟨by rfl, ?_⟩) (by assumption) ?_
  rotate_left
  · intro w' hSw
    (try dsimp only at hSw)
    go_simp
    try with_reducible rfl
  simp only [Act.put, List.getElem_toArray, List.getElem_cons_zero, List.getElem_cons_succ, List.setIfInBounds_toArray, List.set_cons_zero, List.set_cons_succ]
  refine wpAnyH_take (i := 3) (v := ?_) rfl (by kernel_rfl) (by kernel_rfl) (by kernel_rfl) (fun _ _ _ h => h) (Or.inl ⟨by rfl, ?_⟩) (by assumption) ?_
  rotate_left
  · intro w' hSw
    (try dsimp only at hSw)
    go_simp
    try with_reducible rfl
  simp only [Act.put, List.getElem_toArray, List.getElem_cons_zero, List.getElem_cons_succ, List.setIfInBounds_toArray, List.set_cons_zero, List.set_cons_succ]
  refine wpAnyH_take (i := 5) (v := ?_) rfl (by kernel_rfl) (by kernel_rfl) (by kernel_rfl) (fun _ _ _ h => h) (Or.inl ⟨by rfl, ?_⟩) (by assumption) ?_
  rotate_left
  · intro w' hSw
    (try dsimp only at hSw)
    go_simp
    try with_reducible rfl
  simp only [Act.put, List.getElem_toArray, List.getElem_cons_zero, List.getElem_cons_succ, List.setIfInBounds_toArray, List.set_cons_zero, List.set_cons_succ]
  refine wpAnyH_take (i := 7) (v := ?_) rfl (by kernel_rfl) (by kernel_rfl) (by kernel_rfl) (fun _ _ _ h => h) (Or.inl ⟨by rfl, ?_⟩) (by assumption) ?_
  rotate_left
  · intro w' hSw
    (try dsimp only at hSw)
    go_simp
    try with_reducible rfl
  simp only [Act.put, List.getElem_toArray, List.getElem_cons_zero, List.getElem_cons_succ, List.setIfInBounds_toArray, List.set_cons_zero, List.set_cons_succ]
  refine wpAnyH_take (i := 8) (v := ?_) rfl (by kernel_rfl) (by kernel_rfl) (by kernel_rfl) (fun _ _ _ h => h) (Or.inl ⟨by rfl, ?_⟩) (by assumption) ?_
  rotate_left
  · intro w' hSw
    (try dsimp only at hSw)
    go_simp
    try with_reducible rfl
  simp only [Act.put, List.getElem_toArray, List.getElem_cons_zero, List.getElem_cons_succ, List.setIfInBounds_toArray, List.set_cons_zero, List.set_cons_succ]
  refine wpAnyH_take (i := 9) (v := ?_) rfl (by kernel_rfl) (by kernel_rfl) (by kernel_rfl) (fun _ _ _ h => h) (Or.inl ⟨by rfl, ?_⟩) (by assumption) ?_
  rotate_left
  · intro w' hSw
    (try dsimp only at hSw)
    go_simp
    try with_reducible rfl
  simp only [Act.put, List.getElem_toArray, List.getElem_cons_zero, List.getElem_cons_succ, List.setIfInBounds_toArray, List.set_cons_zero, List.set_cons_succ]
  refine wpAnyH_take (i := 10) (v := ?_) rfl (by kernel_rfl) (by kernel_rfl) (by kernel_rfl) (fun _ _ _ h => h) (Or.inl ⟨by rfl, ?_⟩) (by assumption) ?_
  rotate_left
  · intro w' hSw
    (try dsimp only at hSw)
    go_simp
    try with_reducible rfl
  simp only [Act.put, List.getElem_toArray, List.getElem_cons_zero, List.getElem_cons_succ, List.setIfInBounds_toArray, List.set_cons_zero, List.set_cons_succ]
  refine wpAnyH_take (i := 11) (v := ?_) rfl (by kernel_rfl) (by kernel_rfl) (by kernel_rfl) (fun _ _ _ h => h) (Or.inl ⟨by rfl, ?_⟩) (by assumption) ?_
  rotate_left
  · intro w' hSw
    (try dsimp only at hSw)
    go_simp
    try with_reducible rfl
  simp only [Act.put, List.getElem_toArray, List.getElem_cons_zero, List.getElem_cons_succ, List.setIfInBounds_toArray, List.set_cons_zero, List.set_cons_succ]
  refine wpAnyH_take (i := 13) (v := ?_) rfl (by kernel_rfl) (by kernel_rfl) (by kernel_rfl) (fun _ _ _ h => h) (Or.inl ⟨by rfl, ?_⟩) (by assumption) ?_
  rotate_left
  · intro w' hSw
    (try dsimp only at hSw)
    go_simp
    try with_reducible rfl
  simp only [Act.put, List.getElem_toArray, List.getElem_cons_zero, List.getElem_cons_succ, List.setIfInBounds_toArray, List.set_cons_zero, List.set_cons_succ]
  refine wpAnyH_take (i := 14) (v := ?_) rfl (by kernel_rfl) (by kernel_rfl) (by kernel_rfl) (fun _ _ _ h => h) (Or.inl ⟨by rfl, ?_⟩) (by assumption) ?_
  rotate_left
  · intro w' hSw
    (try dsimp only at hSw)
    go_simp
    try with_reducible rfl
  simp only [Act.put, List.getElem_toArray, List.getElem_cons_zero, List.getElem_cons_succ, List.setIfInBounds_toArray, List.set_cons_zero, List.set_cons_succ]
  refine wpAnyH_take (i := 15) (v := ?_) rfl (by kernel_rfl) (by kernel_rfl) (by kernel_rfl) (fun _ _ _ h => h) (Or.inl ⟨by rfl, ?_⟩) (by assumption) ?_
  rotate_left
  · intro w' hSw
    (try dsimp only at hSw)
    go_simp
    try with_reducible rfl
  simp only [Act.put, List.getElem_toArray, List.getElem_cons_zero, List.getElem_cons_succ, List.setIfInBounds_toArray, List.set_cons_zero, List.set_cons_succ]
  refine wpAnyH_take (i := 16) (v := ?_) rfl (by kernel_rfl) (by kernel_rfl) (by kernel_rfl) (fun _ _ _ h => h) (Or.inl ⟨by rfl, ?_⟩) (by assumption) ?_
  rotate_left
  · intro w' hSw
    (try dsimp only at hSw)
    go_simp
    try with_reducible rfl
  simp only [Act.put, List.getElem_toArray, List.getElem_cons_zero, List.getElem_cons_succ, List.setIfInBounds_toArray, List.set_cons_zero, List.set_cons_succ]
  refine wpAnyH_take (i := 17) (v := ?_) rfl (by kernel_rfl) (by kernel_rfl) (by kernel_rfl) (fun _ _ _ h => h) (Or.inl ⟨by rfl, ?_⟩) (by assumption) ?_
  rotate_left
  · intro w' hSw
    (try dsimp only at hSw)
    go_simp
    try with_reducible rfl
  simp only [Act.put, List.getElem_toArray, List.getElem_cons_zero, List.getElem_cons_succ, List.setIfInBounds_toArray, List.set_cons_zero, List.set_cons_succ]
  refine wpAnyH_ready (rs := [4, 12]) (by kernel_rfl) (by simp) ?_
  refine AllReadyH.cons rfl (fun K hK => ?_) (AllReadyH.cons rfl (fun K hK => ?_) AllReadyH.nil)
  case' refine_1 =>
    go_simp
    refine hK.out _ _ ?_ (fun hHeld => ?_)
    · exact AL.out _ BDR.out
    clear hK K
    refine wpAnyH_take (i := 6) (v := ?_) rfl (by kernel_rfl) (by kernel_rfl) (by kernel_rfl) (fun _ _ _ h => h) (Or.inl ⟨by rfl, ?_⟩) (by assumption) ?_
    rotate_left
    · intro w' hSw
      (try dsimp only at hSw)
      go_simp
      try with_reducible rfl
    simp only [Act.put, List.getElem_toArray, List.getElem_cons_zero, List.getElem_cons_succ, List.setIfInBounds_toArray, List.set_cons_zero, List.set_cons_succ]
    refine wpAnyH_ready (rs := [12]) (by kernel_rfl) (by simp) ?_
    refine AllReadyH.cons rfl (fun K hK => ?_) AllReadyH.nil
    go_simp
    refine hK.out _ _ ?_ (fun hHeld => ?_)
    · exact AL.out _ BDR.out
    clear hK K
    refine wpAnyH_take (i := 18) (v := ?_) rfl (by kernel_rfl) (by kernel_rfl) (by kernel_rfl) (fun _ _ _ h => h) (Or.inl ⟨by rfl, ?_⟩) (by assumption) ?_
    rotate_left
    · intro w' hSw
      (try dsimp only at hSw)
      go_simp
      try with_reducible rfl
    simp only [Act.put, List.getElem_toArray, List.getElem_cons_zero, List.getElem_cons_succ, List.setIfInBounds_toArray, List.set_cons_zero, List.set_cons_succ]
  case' refine_2 =>
    go_simp
    refine hK.out _ _ ?_ (fun hHeld => ?_)
    · exact AL.out _ BDR.out
    clear hK K
    refine wpAnyH_take (i := 18) (v := ?_) rfl (by kernel_rfl) (by kernel_rfl) (by kernel_rfl) (fun _ _ _ h => h) (Or.inl ⟨by rfl, ?_⟩) (by assumption) ?_
    rotate_left
    · intro w' hSw
      (try dsimp only at hSw)
      go_simp
      try with_reducible rfl
    simp only [Act.put, List.getElem_toArray, List.getElem_cons_zero, List.getElem_cons_succ, List.setIfInBounds_toArray, List.set_cons_zero, List.set_cons_succ]
    refine wpAnyH_ready (rs := [4]) (by kernel_rfl) (by simp) ?_
    refine AllReadyH.cons rfl (fun K hK => ?_) AllReadyH.nil
    go_simp
    refine hK.out _ _ ?_ (fun hHeld => ?_)
    · exact AL.out _ BDR.out
    clear hK K
    refine wpAnyH_take (i := 6) (v := ?_) rfl (by kernel_rfl) (by kernel_rfl) (by kernel_rfl) (fun _ _ _ h => h) (Or.inl ⟨by rfl, ?_⟩) (by assumption) ?_
    rotate_left
    · intro w' hSw
      (try dsimp only at hSw)
      go_simp
      try with_reducible rfl
    simp only [Act.put, List.getElem_toArray, List.getElem_cons_zero, List.getElem_cons_succ, List.setIfInBounds_toArray, List.set_cons_zero, List.set_cons_succ]
  all_goals
    refine wpAnyH_ready (rs := [19]) (by kernel_rfl) (by simp) ?_
    refine AllReadyH.cons rfl (fun K hK => ?_) AllReadyH.nil
    go_simp
    refine hK.out _ _ ?_ (fun hHeld => ?_)
    · exact AL.out _ BAL.out
    clear hK K
    refine wpAnyH_ready (rs := [20]) (by kernel_rfl) (by simp) ?_
    refine AllReadyH.cons rfl (fun K hK => ?_) AllReadyH.nil
    go_simp
    refine HCC.mono ?_
    rintro e w5 ⟨a5, c5, rfl, hs5, hb5, hc5, ht5⟩
    obtain ⟨kF5, kP5, hg5⟩ := AFT2.out w5 hb5
    have x0 : w5.cell? ⟨F, 0, none⟩ = some (.slice a m c) := by rw [Lib.cell_of_heap kF5]; rfl
    have y0 := Lib.frozen_of_heap kF5 0
    have z1 : w5.cell? ⟨P, 1, none⟩ = some (.slice a1 m1 c1) := by rw [Lib.cell_of_heap kP5]; rfl
    have z2 : w5.cell? ⟨P, 2, none⟩ = some (.slice a2 n c2) := by rw [Lib.cell_of_heap kP5]; rfl
    go_wp2_with fail
    refine hK.out _ _ ?_ (fun hHeld => ?_)
    · exact ⟨z1, z2⟩
    clear hK K
    refine wpAnyH_take (i := 21) (v := ?_) rfl (by kernel_rfl) (by kernel_rfl) (by kernel_rfl) (fun _ _ _ h => h) (Or.inl ⟨by rfl, ?_⟩) (by assumption) ?_
    rotate_left
    · intro w' hSw
      (try dsimp only at hSw)
      go_simp
      try with_reducible rfl
    simp only [Act.put, List.getElem_toArray, List.getElem_cons_zero, List.getElem_cons_succ, List.setIfInBounds_toArray, List.set_cons_zero, List.set_cons_succ]
    refine wpAnyH_take (i := 22) (v := ?_) rfl (by kernel_rfl) (by kernel_rfl) (by kernel_rfl) (fun _ _ _ h => h) (Or.inl ⟨by rfl, ?_⟩) (by assumption) ?_
    rotate_left
    · intro w' hSw
      (try dsimp only at hSw)
      go_simp
      try with_reducible rfl
    simp only [Act.put, List.getElem_toArray, List.getElem_cons_zero, List.getElem_cons_succ, List.setIfInBounds_toArray, List.set_cons_zero, List.set_cons_succ]
    have kP6 : (w5.setCell ⟨F, 0, none⟩ (.slice a5 nl c5)).heap[P]? = some (.cells #[.int .i64 hd', .slice a1 m1 c1, .slice a2 n c2] 55) := by
      simp only [World.setCell, Array.getElem?_modify]
      rw [if_neg hne]; exact kP5
    have q1 : (w5.setCell ⟨F, 0, none⟩ (.slice a5 nl c5)).cell? ⟨P, 1, none⟩ = some (.slice a1 m1 c1) := by rw [Lib.cell_of_heap kP6]; rfl
    have q2 : (w5.setCell ⟨F, 0, none⟩ (.slice a5 nl c5)).cell? ⟨P, 2, none⟩ = some (.slice a2 n c2) := by rw [Lib.cell_of_heap kP6]; rfl
    refine wpAnyH_ready (rs := [23]) (by kernel_rfl) (by simp) ?_
    refine AllReadyH.cons rfl (fun K hK => ?_) AllReadyH.nil
    go_simp
    refine hK.out _ _ ?_ (fun hHeld => ?_)
    · exact ⟨q1, q2⟩
    clear hK K
    refine wpAnyH_done (by kernel_rfl) ?_ _
    have kF6 : (w5.setCell ⟨F, 0, none⟩ (.slice a5 nl c5)).heap[F]? = some (.cells #[.slice a5 nl c5, .int .i64 E, .int .i64 S] 68) := blk_set kF5 _
    have hs6 := hs5.other kF5 (fil_texts a m c E S) 0 (.slice a5 nl c5)
    have hg6 := grown_set hg5 0 (.slice a5 nl c5)
    have ht6 := ht5.other kF5 (by decide) 0 (.slice a5 nl c5)
    generalize w5.setCell ⟨F, 0, none⟩ (.slice a5 nl c5) = W6 at kP6 q1 q2 kF6 hs6 hg6 ht6 ⊢
    have x1 : W6.cell? ⟨F, 1, none⟩ = some (.int .i64 E) := by rw [Lib.cell_of_heap kF6]; rfl
    have y1 := Lib.frozen_of_heap kF6 1
    clear HCC AFT2 AL BDR BAL P1 P2 KF1 KP1 HB1 f0 p1 p2 x0 y0 z1 z2 hsl1 hsl2 hs5 hb5 kF5 kP5 hg5 hwr
    have hwr2 : IntKind.i64.wrap ((pl : Int) + n) = (pl : Int) + n := by rw [IntKind.wrap_i64]; omega
    clear hHeld
    go_wp2
    have kF7 : (W6.setCell ⟨F, 1, none⟩ (.int .i64 ((pl : Int) + n))).heap[F]? = some (.cells #[.slice a5 nl c5, .int .i64 ((pl : Int) + n), .int .i64 S] 68) := blk_set kF6 _
    have kP7 : (W6.setCell ⟨F, 1, none⟩ (.int .i64 ((pl : Int) + n))).heap[P]? = some (.cells #[.int .i64 hd', .slice a1 m1 c1, .slice a2 n c2] 55) := by
      simp only [World.setCell, Array.getElem?_modify]
      rw [if_neg hne]; exact kP6
    have hs7 := hs6.other kF6 (fil_texts a5 nl c5 E S) 1 (.int .i64 ((pl : Int) + n))
    have ht7 := ht6.other kF6 (by decide) 1 (.int .i64 ((pl : Int) + n))
    have hg7 := grown_set hg6 1 (.int .i64 ((pl : Int) + n))
    generalize W6.setCell ⟨F, 1, none⟩ (.int .i64 ((pl : Int) + n)) = W7 at kF7 kP7 hs7 hg7 ht7 ⊢
    have x2 : W7.cell? ⟨F, 2, none⟩ = some (.int .i64 S) := by rw [Lib.cell_of_heap kF7]; rfl
    have y2 := Lib.frozen_of_heap kF7 2
    have z1 : W7.cell? ⟨P, 1, none⟩ = some (.slice a1 m1 c1) := by rw [Lib.cell_of_heap kP7]; rfl
    have z2 : W7.cell? ⟨P, 2, none⟩ = some (.slice a2 n c2) := by rw [Lib.cell_of_heap kP7]; rfl
    have hwr3 : IntKind.i64.wrap ((n : Int) - m1) = (n : Int) - m1 := by rw [IntKind.wrap_i64]; omega
    have hwr4 : IntKind.i64.wrap (S + ((n : Int) - m1)) = S + ((n : Int) - m1) := by rw [IntKind.wrap_i64]; omega
    have kF8 : (W7.drew.setCell ⟨F, 2, none⟩ (.int .i64 (S + ((n : Int) - m1)))).heap[F]? = some (.cells #[.slice a5 nl c5, .int .i64 ((pl : Int) + n), .int .i64 (S + ((n : Int) - m1))] 68) := blk_set (w := W7.drew) kF7 _
    have hs8 := Strs.other (w := W7.drew) (show Strs W7.drew a5 N from hs7) kF7 (fil_texts a5 nl c5 ((pl : Int) + n) S) 2 (.int .i64 (S + ((n : Int) - m1)))
    have hg8 := grown_set (w' := W7.drew) (show w.grownBy W7.drew (some F) from ⟨hg7.os, hg7.tape, hg7.output, hg7.size, hg7.block⟩) 2 (.int .i64 (S + ((n : Int) - m1)))
    have HT8 : Hid (TypS (W7.drew.setCell ⟨F, 2, none⟩ (.int .i64 (S + ((n : Int) - m1)))) a5) := TypS.other (w := W7.drew) (show TypS W7.drew a5 from ht7) kF7 (by decide) 2 (.int .i64 (S + ((n : Int) - m1)))
    have HF8 : Hid ((W7.drew.setCell ⟨F, 2, none⟩ (.int .i64 (S + ((n : Int) - m1)))).heap[F]? = some (.cells #[.slice a5 nl c5, .int .i64 ((pl : Int) + n), .int .i64 (S + ((n : Int) - m1))] 68)) := kF8
    have HS8 : Hid (Strs (W7.drew.setCell ⟨F, 2, none⟩ (.int .i64 (S + ((n : Int) - m1)))) a5 N) := hs8
    have HG8 : Hid (w.grownBy (W7.drew.setCell ⟨F, 2, none⟩ (.int .i64 (S + ((n : Int) - m1)))) (some F)) := hg8
    clear kF7 kP7 hs7 hg7 ht7 ht6 ht5 kF6 kP6 hs6 hg6 q1 q2 x1 y1 hwr2 kF8 hs8 hg8
    go_region
    refine bodyPost_end (v := .tuple #[]) (by simp [results, Tryd.results44, go_sem]) rfl ⟨⟨_, rfl⟩, ?_, HG8.out⟩
    refine ⟨a5, c5, ?_, HS8.out, by rw [HNL.out]; exact hc5, fun _ => .inr HT8.out⟩
    rw [HNL.out]; exact HF8.out

end Go.Proofs.YtkelcjfblekhpabDoor
