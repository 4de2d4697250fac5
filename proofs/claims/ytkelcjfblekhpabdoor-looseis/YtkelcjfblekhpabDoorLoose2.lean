/-
  Walk of apply.Loose: hunks done as near as may be, each, and what is left.
-/
import Derived.Test.YtkelcjfblekhpabDoorLoose
import Derived.Deep.RegionHeld3
import Derived.Deep.RegionLaw

namespace Go.Proofs.YtkelcjfblekhpabDoor
open Go.RowKit Dist

set_option maxRecDepth 100000 in
set_option maxHeartbeats 8000000 in
theorem loose_main (a la : Option Addr) (xs : List ByteArray) (l : List Hk) (ca cl fuzz far : Nat) (w : World) (ha : Strs w a xs) (hl : Hks w la l) (hca : xs.length ≤ ca) (hf1 : lcF xs l fuzz far = 0) :
    Calls Tryd.prog 12 #[.slice a xs.length ca, .slice la l.length cl, .int .i64 fuzz, .int .i64 far] w fun e w' => ∃ a' c' b' cb g' cg, e = .returned (.tuple #[.slice a' (lrun fuzz far xs l l.length).A.length c', .slice b' (lrun fuzz far xs l l.length).L.length cb, .slice g' (lrun fuzz far xs l l.length).W.length cg, .nilIface]) ∧ Below w.heap.size w w' ∧ Strs w' a' (lrun fuzz far xs l l.length).A ∧ Hks w' b' (lrun fuzz far xs l l.length).L ∧ Ints w' g' (lrun fuzz far xs l l.length).W := by
  obtain ⟨z1, z2, _, hfz, _, hfr⟩ := lcF_zero hf1
  obtain ⟨hgood, hl60, hone⟩ := hf_good z2
  have hx60 := lsf_len z1
  have hck := checkLoose a la xs l ca cl fuzz far w ha hl (by unfold maxLen; omega) (by unfold maxLen; omega) (fun h hh => by have := (sf_zero (hone h hh).1).1; unfold maxLen; omega)
  rw [hf1, errV_zero] at hck
  have HOK : Hid (∀ k, k ≤ l.length → OkS (fun x => lf x.data.toList = 0) far xs k (lrun fuzz far xs l k)) := fun k hk =>
    run_ok hx60 (fun x hx => (lsf_zero z1).2 _ (List.mem_map.2 ⟨x, hx, rfl⟩)) (fun h hh => ⟨fun m hm => (sf_zero (hone h hh).1).2 m hm, (hone h hh).2.1⟩) fuzz far k hk
  have HL0 : Hid ((lrun fuzz far xs l 0) = ⟨xs, 0, 0, [], []⟩) := rfl
  have HSTEP : Hid (∀ k, lrun fuzz far xs l (k + 1) = stL fuzz far (lrun fuzz far xs l k) (l.getD k (0, 0, []))) := fun k => rfl
  obtain ⟨i0, hi0, hz0, hz1, hz2⟩ := info_parts Tryd.infoHunk
  obtain ⟨j0, hj0, hy0, hy1, hy2⟩ := info_parts Tryd.infoInt
  obtain ⟨m, hm⟩ : ∃ m, xs.length = m := ⟨_, rfl⟩
  obtain ⟨n, hn⟩ : ∃ n, l.length = n := ⟨_, rfl⟩
  rw [hm] at hck hx60 hca
  rw [hn] at hck hl60 HOK
  rw [hm, hn]
  have HM : Hid (xs.length = m) := hm
  have HN : Hid (l.length = n) := hn
  have HA : Hid (Strs w a xs) := ha
  have HL : Hid (Hks w la l) := hl
  have HONE : Hid (∀ x ∈ l, sf x.2.2 = 0 ∧ 0 < chg x.2.2 ∧ 0 ≤ x.1 ∧ x.1 ≤ 60) := hone
  have hfz' : fuzz ≤ 3 := by omega
  have hfr' : far ≤ 60 := by omega
  clear ha hl hgood hone hf1 z1 z2 hm hn hfz hfr
  go_enter Tryd.func12, Tryd.ntmps12
  go_wp2_with (go_at_call 29; refine hck.mono ?_)
  rintro e w0 ⟨rfl, hb0⟩
  have HB0 : Hid (Below w.heap.size w w0) := hb0
  have hbF := below_alloc w0 (.cells #[.slice a m ca, .int .i64 0, .int .i64 0] 68)
  have kF := heap_alloc_new w0 (.cells #[.slice a m ca, .int .i64 0, .int .i64 0] 68)
  have hF0 : Fil (w0.alloc (.cells #[.slice a m ca, .int .i64 0, .int .i64 0] 68)) w0.heap.size xs 0 0 := ⟨a, ca, by rw [HM.out]; exact kF, (HA.out.below hb0).below hbF, by rw [HM.out]; exact hca, fun h0 => .inl fun b off sp e => by
    obtain ⟨b', off', e2, hc⟩ := (HA.out.below hb0) 0 h0
    rw [e] at e2
    simp only [Option.some.injEq, Addr.mk.injEq] at e2
    rw [e2.1]
    exact World.block_lt_of_cell? w0 _ hc⟩
  obtain ⟨F, hF⟩ : ∃ F, w0.heap.size = F := ⟨_, rfl⟩
  have HF : Hid (w0.heap.size = F) := hF
  rw [hF] at hF0 hbF
  have HF0 : Hid (Fil (w0.alloc (.cells #[.slice a m ca, .int .i64 0, .int .i64 0] 68)) F xs 0 0) := hF0
  have HBF : Hid (Below F w0 (w0.alloc (.cells #[.slice a m ca, .int .i64 0, .int .i64 0] 68))) := hbF
  have HLA : Hid (Hks w0 la l) := HL.out.below hb0
  clear hck hb0 hbF kF hF0 hF HA HL
  go_wp2
  rw [HF.out]
  go_loopw [9, 10, 14, 15, 16, 29] (fun v u _ _ _ i w1 => ∃ k : Nat, k ≤ n ∧ i = .int .i64 k ∧ Below F w0 w1 ∧ Fil w1 F (lrun fuzz far xs l k).A (lrun fuzz far xs l k).E (lrun fuzz far xs l k).S ∧ LOwn w1 (F + 1) v (lrun fuzz far xs l k).L ∧ w1.ownsRow (F + 1) 3 1 u (lrun fuzz far xs l k).W.length ((lrun fuzz far xs l k).W.map (Value.int .i64))) (fun _ _ _ _ _ i _ => n - (intOf i).toNat)
  case atStart => exact ⟨0, Nat.zero_le _, rfl, HBF.out, HF0.out, LOwn.zero _ _, World.ownsRow_nil _ _ _ _⟩
  case round =>
    obtain ⟨k, hk, rfl, hbl, hfil, hown, how⟩ := hrel
    have hzF : F + 1 ≤ wr.heap.size := hfil.lt
    by_cases hlt : k < n
    · have hkl : k < l.length := by rw [HN.out]; exact hlt
      have hl := HLA.out
      obtain ⟨b, off, am, cm, rfl, hc1, hc2, hc3, hmk, hcap⟩ := hl k hkl
      clear hl
      have hb' : Below w0.heap.size w0 wr := by rw [HF.out]; exact hbl
      replace hc1 := cell_later hb' hc1
      replace hc2 := cell_later hb' hc2
      replace hc3 := cell_later hb' hc3
      have hmk0 := hmk
      replace hmk := hmk.below hb'
      obtain ⟨o1, o2, o3, o4⟩ := HONE.out _ (hk_mem hkl)
      have hok := HOK.out k hk
      have HST := HSTEP.out k
      obtain ⟨s, hs⟩ : ∃ s, lrun fuzz far xs l k = s := ⟨_, rfl⟩
      rw [hs] at hok HST hfil hown how
      have HSK : Hid (lrun fuzz far xs l k = s) := hs
      obtain ⟨H, hH⟩ : ∃ H, l.getD k (0, 0, []) = H := ⟨_, rfl⟩
      have HHK : Hid (l.getD k (0, 0, []) = H) := hH
      rw [hH] at hc1 hc2 hc3 hmk hmk0 hcap o1 o2 o3 o4 HST
      clear hH hs
      obtain ⟨o, p, ms⟩ := H
      dsimp only at hc1 hc2 hc3 hmk hmk0 hcap o1 o2 o3 o4
      have hml := (sf_zero o1).1
      have hms := (sf_zero o1).2
      have hpos : 0 < ms.length := by obtain ⟨c, hc, _⟩ := chg_ex o2; omega
      obtain ⟨bm, om, rfl, _⟩ := hmk.at hpos
      obtain ⟨q, hq⟩ : ∃ q, ms.length = q := ⟨_, rfl⟩
      have HQ : Hid (ms.length = q) := hq
      have hblW := below_alloc wr (.cells #[.int .i64 o, .int .i64 p, .slice (some ⟨bm, om, none⟩) q cm] 48)
      have kU := heap_alloc_new wr (.cells #[.int .i64 o, .int .i64 p, .slice (some ⟨bm, om, none⟩) q cm] 48)
      have hdo := doS F s.A s.E s.S o p bm om ms cm fuzz far _ (hfil.below hblW) (hmk.below hblW) hcap o1 o2 o3 o4 hfz' hfr' hok.len hok.e0 hok.e1 (by have := hok.sz; have := hok.len; rw [HM.out] at *; omega) (by have := hok.sz; have := hok.len; rw [HM.out] at *; omega)
      rw [hq] at hdo hc3
      have HUB : Hid (∀ x, u9.ownBlock = some x → x < wr.heap.size) := fun x hx => by
        obtain ⟨_, h1, _⟩ := hown
        exact (h1.lt x hx).2
      have HMT : Hid (∀ x ∈ ms, x.2.size ≤ 80) := fun x hx => by have := (lf_zero (hms x hx).2).2; rw [Lib.size_eq]; exact this
      have HML : Hid (ms.length ≤ 120) := hml
      have HOWN : Hid (LOwn (wr.alloc (.cells #[.int .i64 o, .int .i64 p, .slice (some ⟨bm, om, none⟩) q cm] 48)) (F + 1) u9 s.L) := hown.below hblW
      have HOW : Hid ((wr.alloc (.cells #[.int .i64 o, .int .i64 p, .slice (some ⟨bm, om, none⟩) q cm] 48)).ownsRow (F + 1) 3 1 u10 s.W.length (s.W.map (Value.int .i64))) := how.alloc _
      have HFIL : Hid (Fil (wr.alloc (.cells #[.int .i64 o, .int .i64 p, .slice (some ⟨bm, om, none⟩) q cm] 48)) F s.A s.E s.S) := hfil.below hblW
      have HBW : Hid (Below F w0 (wr.alloc (.cells #[.int .i64 o, .int .i64 p, .slice (some ⟨bm, om, none⟩) q cm] 48))) := hbl.trans (hblW.mono (by omega))
      have KU : Hid ((wr.alloc (.cells #[.int .i64 o, .int .i64 p, .slice (some ⟨bm, om, none⟩) q cm] 48)).heap[wr.heap.size]? = some (.cells #[.int .i64 o, .int .i64 p, .slice (some ⟨bm, om, none⟩) q cm] 48)) := kU
      have HST2 : Hid (lrun fuzz far xs l (k + 1) = stL fuzz far s (o, p, ms)) := HST
      have HOKS : Hid (OkS (fun x => lf x.data.toList = 0) far xs k s) := hok
      have HWL : Hid (s.W.length = k) := hok.wl
      have hwl : s.W.length ≤ 60 := by have := hok.wl; omega
      have hll : s.L.length ≤ k := hok.ll
      have HMK0 : Hid (Mks w0 (some ⟨bm, om, none⟩) ms) := hmk0
      clear hmk hmk0 hcap o1 o2 o3 o4 hblW kU hfil hown how hbl hok HST hb' hq hpos hkl hml hms
      go_wp2_with (go_at_call 30; refine hdo.mono ?_)
      rintro e w2 ⟨hg, hcase⟩
      have hsW : (wr.alloc (.cells #[.int .i64 o, .int .i64 p, .slice (some ⟨bm, om, none⟩) q cm] 48)).heap.size = wr.heap.size + 1 := by simp
      have kU2 : w2.heap[wr.heap.size]? = some (.cells #[.int .i64 o, .int .i64 p, .slice (some ⟨bm, om, none⟩) q cm] 48) := (hg.block _ (by rw [hsW]; omega) (by simp; omega)).trans KU.out
      have hL2 := HOWN.out.kept hg (HFIL.out.apart (by decide)) (HFIL.out.apart (by decide))
      have hW2 := own_kept HOW.out hg (HFIL.out.apart (by decide))
      have hb2 := HBW.out.grown hg (by rw [hsW]; omega) (fun k hk => by have := Option.some.inj hk; omega)
      clear hdo HOWN HOW HFIL HBW KU
      rcases hcase with ⟨hd, rfl, hF2⟩ | ⟨f, d, hd, rfl, hF2⟩
      · have HD : Hid (doH s.A s.E s.S (o, p, ms) fuzz far = none) := hd
        clear hd
        go_wp2_with fail
        have hst := HST2.out.trans (stL_none HD.out)
        have hlU : wr.heap.size < w2.heap.size := by have := hg.size; rw [hsW] at this; omega
        have hdr : Below w2.heap.size w2 w2.drew := ⟨rfl, rfl, rfl, Nat.le_refl _, fun _ _ => rfl⟩
        have hM2 := (HMK0.out.below (by rw [HF.out]; exact hb2)).below hdr
        have hcp0 := copyOf (some ⟨bm, om, none⟩) ms cm w2.drew hM2 HML.out HMT.out
        rw [HQ.out] at hcp0
        have hcp : Calls Tryd.prog 31 #[.slice (some ⟨bm, om, none⟩) q cm] w2.drew (fun e w' => e = .returned (.slice (some ⟨w2.heap.size, 0, none⟩) q q) ∧ Below w2.heap.size w2.drew w' ∧ MRow w' w2.heap.size q (fun _ => True) (fun j => ms.getD j (0, ByteArray.empty))) := hcp0
        have CEL : Hid (∀ w5 : World, w5.heap[wr.heap.size]? = some (.cells #[.int .i64 o, .int .i64 p, .slice (some ⟨bm, om, none⟩) q cm] 48) → w5.cell? ⟨wr.heap.size, 0, none⟩ = some (.int .i64 o) ∧ w5.cell? ⟨wr.heap.size, 1, none⟩ = some (.int .i64 p) ∧ w5.cell? ⟨wr.heap.size, 2, none⟩ = some (.slice (some ⟨bm, om, none⟩) q cm)) := fun w5 h => ⟨by rw [Lib.cell_of_heap h]; rfl, by rw [Lib.cell_of_heap h]; rfl, by rw [Lib.cell_of_heap h]; rfl⟩
        have KU2 : Hid (w2.heap[wr.heap.size]? = some (.cells #[.int .i64 o, .int .i64 p, .slice (some ⟨bm, om, none⟩) q cm] 48)) := kU2
        have HF2 : Hid (Fil w2 F s.A s.E s.S) := hF2
        have HL2 : Hid (LOwn w2 (F + 1) u9 s.L) := hL2
        have HW2 : Hid (w2.ownsRow (F + 1) 3 1 u10 s.W.length (s.W.map (Value.int .i64))) := hW2
        have HB2 : Hid (Below F w0 w2) := hb2
        have HDR : Hid (Below w2.heap.size w2 w2.drew) := hdr
        have HSTT : Hid (lrun fuzz far xs l (k + 1) = ⟨s.A, s.E, s.S, s.L ++ [(o, p, ms)], s.W ++ [-1000]⟩) := hst
        have hzF2 : F + 1 ≤ w2.heap.size := hF2.lt
        clear hF2 hL2 hW2 hb2 kU2 hcp0 hM2 hdr hst hc1 hc2 hc3 hg hsW
        refine wp_region_held_drew (S := fun w' => w'.cell? ⟨wr.heap.size, 0, none⟩ = some (.int .i64 o) ∧ w'.cell? ⟨wr.heap.size, 1, none⟩ = some (.int .i64 p) ∧ w'.cell? ⟨wr.heap.size, 2, none⟩ = some (.slice (some ⟨bm, om, none⟩) q cm)) (by kernel_rfl) ?_ (fun hHeld => ?_)
        · exact CEL.out _ KU2.out
        refine wpAnyH_take (i := 0) (v := ?_) rfl (by kernel_rfl) (by kernel_rfl) (by kernel_rfl) (fun _ _ _ h => h) (Or.inl ⟨by rfl, ?_⟩) (by assumption) ?_
        rotate_left
        · intro w' hSw
          (try dsimp only at hSw)
          go_simp
          try with_reducible rfl
        simp only [Act.put, List.getElem_toArray, List.getElem_cons_zero, List.setIfInBounds_toArray, List.set_cons_zero, List.set_cons_succ]
        refine wpAnyH_take (i := 1) (v := ?_) rfl (by kernel_rfl) (by kernel_rfl) (by kernel_rfl) (fun _ _ _ h => h) (Or.inl ⟨by rfl, ?_⟩) (by assumption) ?_
        rotate_left
        · intro w' hSw
          (try dsimp only at hSw)
          go_simp
          try with_reducible rfl
        simp only [Act.put, List.getElem_toArray, List.getElem_cons_zero, List.getElem_cons_succ, List.setIfInBounds_toArray, List.set_cons_zero, List.set_cons_succ]
        refine wpAnyH_take (i := 2) (v := ?_) rfl (by kernel_rfl) (by kernel_rfl) (by kernel_rfl) (fun _ _ _ h => h) (Or.inl ⟨by rfl, ?_⟩) (by assumption) ?_
        rotate_left
        · intro w' hSw
          (try dsimp only at hSw)
          go_simp
          try with_reducible rfl
        simp only [Act.put, List.getElem_toArray, List.getElem_cons_zero, List.getElem_cons_succ, List.setIfInBounds_toArray, List.set_cons_zero, List.set_cons_succ]
        refine wpAnyH_take (i := 3) (v := ?_) rfl (by kernel_rfl) (by kernel_rfl) (by kernel_rfl) (fun _ _ _ h => h) (Or.inl ⟨by rfl, ?_⟩) (by assumption) ?_
        rotate_left
        · intro w' hSw
          (try dsimp only at hSw)
          go_simp
          try with_reducible rfl
        simp only [Act.put, List.getElem_toArray, List.getElem_cons_zero, List.getElem_cons_succ, List.setIfInBounds_toArray, List.set_cons_zero, List.set_cons_succ]
        refine wpAnyH_take (i := 4) (v := ?_) rfl (by kernel_rfl) (by kernel_rfl) (by kernel_rfl) (fun _ _ _ h => h) (Or.inl ⟨by rfl, ?_⟩) (by assumption) ?_
        rotate_left
        · intro w' hSw
          (try dsimp only at hSw)
          go_simp
          try with_reducible rfl
        simp only [Act.put, List.getElem_toArray, List.getElem_cons_zero, List.getElem_cons_succ, List.setIfInBounds_toArray, List.set_cons_zero, List.set_cons_succ]
        refine wpAnyH_take (i := 5) (v := ?_) rfl (by kernel_rfl) (by kernel_rfl) (by kernel_rfl) (fun _ _ _ h => h) (Or.inl ⟨by rfl, ?_⟩) (by assumption) ?_
        rotate_left
        · intro w' hSw
          (try dsimp only at hSw)
          go_simp
          try with_reducible rfl
        simp only [Act.put, List.getElem_toArray, List.getElem_cons_zero, List.getElem_cons_succ, List.setIfInBounds_toArray, List.set_cons_zero, List.set_cons_succ]
        refine wpAnyH_take (i := 6) (v := ?_) rfl (by kernel_rfl) (by kernel_rfl) (by kernel_rfl) (fun _ _ _ h => h) (Or.inl ⟨by rfl, ?_⟩) (by assumption) ?_
        rotate_left
        · intro w' hSw
          (try dsimp only at hSw)
          go_simp
          try with_reducible rfl
        simp only [Act.put, List.getElem_toArray, List.getElem_cons_zero, List.getElem_cons_succ, List.setIfInBounds_toArray, List.set_cons_zero, List.set_cons_succ]
        refine wpAnyH_ready (rs := [7]) (by kernel_rfl) (by simp) ?_
        refine AllReadyH.cons rfl (fun K hK => ?_) AllReadyH.nil
        go_simp
        refine hcp.mono ?_
        rintro e w5 ⟨rfl, hb5, hrow5⟩
        have hb25 : Below w2.heap.size w2 w5 := HDR.out.trans hb5
        have kU5 := blk_below hb25 hlU KU2.out
        go_wp2_with fail
        refine hK.out _ _ ?_ (fun hHeld => ?_)
        · exact CEL.out _ kU5
        clear hK K
        refine wpAnyH_take (i := 8) (v := ?_) rfl (by kernel_rfl) (by kernel_rfl) (by kernel_rfl) (fun _ _ _ h => h) (Or.inl ⟨by rfl, ?_⟩) (by assumption) ?_
        rotate_left
        · intro w' hSw
          (try dsimp only at hSw)
          go_simp
          try with_reducible rfl
        simp only [Act.put, List.getElem_toArray, List.getElem_cons_zero, List.getElem_cons_succ, List.setIfInBounds_toArray, List.set_cons_zero, List.set_cons_succ]
        have hty5 : ∃ (cs : Array Value) (fr : Nat × Nat), w5.heap[w2.heap.size]? = some (.cells cs 64 fr) := by
          obtain ⟨cs, h, _⟩ := hrow5
          exact ⟨cs, _, h⟩
        have hmk5 : Mks w5 (some ⟨w2.heap.size, 0, none⟩) ms := by
          have h := hrow5
          rw [← HQ.out] at h
          exact h.mks fun j _ => ⟨trivial, rfl⟩
        have hba := below_alloc w5 (.cells #[.int .i64 o, .int .i64 p, .slice (some ⟨w2.heap.size, 0, none⟩) q q] 48)
        have hb6 := hb25.trans (hba.mono hb25.size)
        have kU6 := blk_below hb6 hlU KU2.out
        have HB6 : Hid (Below w2.heap.size w2 (w5.alloc (.cells #[.int .i64 o, .int .i64 p, .slice (some ⟨w2.heap.size, 0, none⟩) q q] 48))) := hb6
        have KU6 : Hid ((w5.alloc (.cells #[.int .i64 o, .int .i64 p, .slice (some ⟨w2.heap.size, 0, none⟩) q q] 48)).heap[wr.heap.size]? = some (.cells #[.int .i64 o, .int .i64 p, .slice (some ⟨bm, om, none⟩) q cm] 48)) := kU6
        have HMK6 : Hid (Mks (w5.alloc (.cells #[.int .i64 o, .int .i64 p, .slice (some ⟨w2.heap.size, 0, none⟩) q q] 48)) (some ⟨w2.heap.size, 0, none⟩) ms) := hmk5.below hba
        have HTY6 : Hid (∃ (cs : Array Value) (fr : Nat × Nat), (w5.alloc (.cells #[.int .i64 o, .int .i64 p, .slice (some ⟨w2.heap.size, 0, none⟩) q q] 48)).heap[w2.heap.size]? = some (.cells cs 64 fr)) := by
          obtain ⟨cs, fr, h⟩ := hty5
          refine ⟨cs, fr, blk_below hba ?_ h⟩
          by_cases e : w2.heap.size < w5.heap.size
          · exact e
          · rw [Array.getElem?_eq_none (by omega)] at h; cases h
        have hL6 := HL2.out.below hb6
        obtain ⟨xs6, hown6, hat6⟩ := hL6
        have HAT6 := hat6
        have HOWN6 : Hid ((w5.alloc (.cells #[.int .i64 o, .int .i64 p, .slice (some ⟨w2.heap.size, 0, none⟩) q q] 48)).ownsRow (F + 1) 48 3 u9 s.L.length xs6) := hown6
        have HZ6 : Hid ((w5.alloc (.cells #[.int .i64 o, .int .i64 p, .slice (some ⟨w2.heap.size, 0, none⟩) q q] 48)).heap.size = w5.heap.size + 1) := by
          show (w5.alloc (.cells #[.int .i64 o, .int .i64 p, .slice (some ⟨w2.heap.size, 0, none⟩) q q] 48)).heap.size = w5.heap.size + 1
          simp
        have hz5 : w2.heap.size ≤ w5.heap.size := hb25.size
        have HNEW : Hid (∀ j u, ([.int .i64 o, .int .i64 p, .slice (some ⟨w2.heap.size, 0, none⟩) q q] : List Value)[j]? = some u → (w5.alloc (.cells #[.int .i64 o, .int .i64 p, .slice (some ⟨w2.heap.size, 0, none⟩) q q] 48)).cell? ((⟨w5.heap.size, 0, none⟩ : Addr).add j) = some u) := cell_three_new w5 _ _ _ _
        clear hba hb6 kU6 hty5 hmk5 hown6 hat6 hb5 hrow5 hb25 hcp
        refine wpAnyH_ready (rs := [9]) (by kernel_rfl) (by simp) ?_
        refine AllReadyH.cons rfl (fun K hK => ?_) AllReadyH.nil
        go_simp
        refine hK.out _ _ ?_ (fun hHeld => ?_)
        · exact CEL.out _ KU6.out
        clear hK K
        refine wpAnyH_ready (rs := [10]) (by kernel_rfl) (by simp) ?_
        refine AllReadyH.cons rfl (fun K hK => ?_) AllReadyH.nil
        refine step_append_lies _ (by rfl) _ _ 23 (by rfl) (F + 1) 48 i0 (.agg #[.int .i64 0, .int .i64 0, .slice none 0 0]) 3 40 Tryd.underlying23 hi0 hz0 hz1 hz2 rfl (by decide) _ _ _ (by rfl) HOWN6.out ⟨w5.heap.size, 0, none⟩ 1 1 [.int .i64 o, .int .i64 p, .slice (some ⟨w2.heap.size, 0, none⟩) q q] (by rfl) rfl HNEW.out (fun x hx => by simp at hx; rcases hx with rfl | rfl | rfl <;> rfl) (by decide) (by unfold maxLen; omega) (by omega) (by rw [HZ6.out]; omega) (w5.heap.size + 1) HZ6.out ?_
        intro g8 c8 w8 hown8 hgrow8 hat8 hlt8
        have kU8 : w8.heap[wr.heap.size]? = some (.cells #[.int .i64 o, .int .i64 p, .slice (some ⟨bm, om, none⟩) q cm] 48) := (hgrow8.block _ (by rw [HZ6.out]; omega) (fun e => by have := HUB.out _ e.symm; omega)).trans KU6.out
        refine hK.out _ _ ?_ (fun hHeld => ?_)
        · exact CEL.out _ kU8
        clear hK K
        simp only [Act.put, List.getElem_toArray, List.getElem_cons_zero, List.getElem_cons_succ, List.setIfInBounds_toArray, List.set_cons_zero, List.set_cons_succ]
        refine wpAnyH_take (i := 11) (v := ?_) rfl (by kernel_rfl) (by kernel_rfl) (by kernel_rfl) (fun _ _ _ h => h) (Or.inl ⟨by rfl, ?_⟩) (by assumption) ?_
        rotate_left
        · intro w' hSw
          (try dsimp only at hSw)
          go_simp
          try with_reducible rfl
        simp only [Act.put, List.getElem_toArray, List.getElem_cons_zero, List.getElem_cons_succ, List.setIfInBounds_toArray, List.set_cons_zero, List.set_cons_succ]
        refine wpAnyH_done (by kernel_rfl) ?_ _
        have hF8 := (HF2.out.below HB6.out).kept hgrow8 (own_apart HOWN6.out (by decide)) (own_apart HOWN6.out (by decide)) (fun j hj => by have := (HOWN6.out.lt j hj).1; omega)
        have hW8 := own_kept (own_later HW2.out HB6.out) hgrow8 (own_apart HOWN6.out (by decide))
        have hb8 := (HB2.out.trans (HB6.out.mono (by omega))).grown hgrow8 (by rw [HZ6.out]; omega) (fun j hj => by have := (HOWN6.out.lt j hj).1; omega)
        have hL8 := LOwn.snoc (o := o) (p := p) (ms := ms) (g := w2.heap.size) (cap := q) HOWN6.out HAT6 (by rw [HQ.out]; exact hown8) hgrow8 HTY6.out HMK6.out (by rw [HQ.out]; exact Nat.le_refl _)
        have hst := HSTT.out
        clear hHeld hown8 hgrow8 HB6 KU6 HMK6 HTY6 HAT6 HOWN6 HZ6 HNEW kU8 kU5 hat8 hlt8
        have hWa := hW8.alloc (.cells #[.int .i64 (-1000)] 3)
        have hba := below_alloc w8 (.cells #[.int .i64 (-1000)] 3)
        have FILA : Hid (Fil (w8.alloc (.cells #[.int .i64 (-1000)] 3)) F _ _ _) := hF8.below hba
        have LOWA : Hid (LOwn (w8.alloc (.cells #[.int .i64 (-1000)] 3)) (F + 1) _ _) := hL8.below hba
        have hzA : F + 1 ≤ w8.heap.size := hF8.lt
        have BELA : Hid (Below F w0 (w8.alloc (.cells #[.int .i64 (-1000)] 3))) := hb8.trans (hba.mono (by omega))
        have STEP : Hid (lrun fuzz far xs l (k + 1) = _) := hst
        clear hba hW8 hb8 hF8 hL8
        go_wp2_with (at_builtin; refine wpList_append_own_at _ rfl _ _ 37 rfl (F + 1) 3 j0 (.int .i64 0) 1 8 Tryd.underlying37 hj0 hy0 hy1 hy2 rfl (by decide) _ _ _ rfl hWa ⟨w8.heap.size, 0, none⟩ 1 1 [.int .i64 (-1000)] rfl rfl (cell_one_new _ _ _) (fun x hx => by simp at hx; subst hx; rfl) (by unfold maxLen; omega) (by omega) (by simp; omega) ?_; intro v' w9 hown' hgrow9 hnil9 hat9)
        go_roundw
        case rel =>
          refine ⟨k + 1, by omega, by go_num, ?_, ?_, ?_, ?_⟩
          · exact BELA.out.grown hgrow9 (by simp; omega) (fun j hj => by have := (hWa.lt j hj).1; omega)
          · rw [STEP.out]
            exact FILA.out.kept hgrow9 (own_apart hWa (by decide)) (own_apart hWa (by decide)) (fun j hj => by have := (hWa.lt j hj).1; omega)
          · rw [STEP.out]
            exact LOWA.out.kept hgrow9 (own_apart hWa (by decide)) (own_apart hWa (by decide))
          · rw [STEP.out]
            show w9.ownsRow (F + 1) 3 1 v' (s.W ++ [(-1000)]).length ((s.W ++ [(-1000)]).map (Value.int .i64))
            rw [List.length_append, List.map_append]; exact hown'
        case measure => simp [intOf]; omega
      · have HD : Hid (doH s.A s.E s.S (o, p, ms) fuzz far = some (f, d)) := hd
        have hst := HST2.out.trans (stL_some hd)
        clear hd hc1 hc2 hc3 kU2
        have hWa := hW2.alloc (.cells #[.int .i64 d] 3)
        have hba := below_alloc w2 (.cells #[.int .i64 d] 3)
        have FILA : Hid (Fil (w2.alloc (.cells #[.int .i64 d] 3)) F _ _ _) := hF2.below hba
        have LOWA : Hid (LOwn (w2.alloc (.cells #[.int .i64 d] 3)) (F + 1) _ _) := hL2.below hba
        have hzA : F + 1 ≤ w2.heap.size := hF2.lt
        have BELA : Hid (Below F w0 (w2.alloc (.cells #[.int .i64 d] 3))) := hb2.trans (hba.mono (by omega))
        have STEP : Hid (lrun fuzz far xs l (k + 1) = _) := hst
        clear hba hW2 hb2 hF2 hL2
        go_wp2_with (at_builtin; refine wpList_append_own_at _ rfl _ _ 37 rfl (F + 1) 3 j0 (.int .i64 0) 1 8 Tryd.underlying37 hj0 hy0 hy1 hy2 rfl (by decide) _ _ _ rfl hWa ⟨w2.heap.size, 0, none⟩ 1 1 [.int .i64 d] rfl rfl (cell_one_new _ _ _) (fun x hx => by simp at hx; subst hx; rfl) (by unfold maxLen; omega) (by omega) (by simp; omega) ?_; intro v' w9 hown' hgrow9 hnil9 hat9)
        go_roundw
        case rel =>
          refine ⟨k + 1, by omega, by go_num, ?_, ?_, ?_, ?_⟩
          · exact BELA.out.grown hgrow9 (by simp; omega) (fun j hj => by have := (hWa.lt j hj).1; omega)
          · rw [STEP.out]
            exact FILA.out.kept hgrow9 (own_apart hWa (by decide)) (own_apart hWa (by decide)) (fun j hj => by have := (hWa.lt j hj).1; omega)
          · rw [STEP.out]
            exact LOWA.out.kept hgrow9 (own_apart hWa (by decide)) (own_apart hWa (by decide))
          · rw [STEP.out]
            show w9.ownsRow (F + 1) 3 1 v' (s.W ++ [d]).length ((s.W ++ [d]).map (Value.int .i64))
            rw [List.length_append, List.map_append]; exact hown'
        case measure => simp [intOf]; omega
    · obtain rfl : k = n := by omega
      have hok := HOK.out k (Nat.le_refl _)
      obtain ⟨s, hs⟩ : ∃ s, lrun fuzz far xs l k = s := ⟨_, rfl⟩
      rw [hs] at hok hfil hown how
      have HSK : Hid (lrun fuzz far xs l k = s) := hs
      have hlen := hok.len
      have hq := hok.q
      obtain ⟨b9, cb9, rfl, hk9⟩ := hown.hks
      obtain ⟨g9, cg9, rfl, hi9⟩ := ints_of_own how
      obtain ⟨a9, ca9, kF9, hs9, _, _⟩ := hfil
      have hcp := copyLines a9 s.A ca9 wr hs9 hlen (fun x hx => by have := (lf_zero (hq x hx)).2; rw [Lib.size_eq]; exact this)
      have f0 : wr.cell? ⟨F, 0, none⟩ = some (.slice a9 s.A.length ca9) := by rw [Lib.cell_of_heap kF9]; rfl
      obtain ⟨x1, hx1⟩ : ∃ x, s.A.length = x := ⟨_, rfl⟩
      obtain ⟨x2, hx2⟩ : ∃ x, s.L.length = x := ⟨_, rfl⟩
      obtain ⟨x3, hx3⟩ : ∃ x, s.W.length = x := ⟨_, rfl⟩
      rw [hx1] at hcp f0
      rw [hx2, hx3]
      have HX1 : Hid (s.A.length = x1) := hx1
      have HX2 : Hid (s.L.length = x2) := hx2
      have HX3 : Hid (s.W.length = x3) := hx3
      have HK9 : Hid (Hks wr b9 s.L) := hk9
      have HI9 : Hid (Ints wr g9 s.W) := hi9
      have HBZ : Hid (Below F w0 wr) := hbl
      clear hok hq hlen hs kF9 hs9 hx1 hx2 hx3 hk9 hi9 how hown hbl hlt hk HOK
      go_wp2_with (go_at_call 24; refine hcp.mono ?_)
      rintro e w5 ⟨rfl, hb5, hs5⟩
      have hbw : Below w.heap.size w w5 := HB0.out.trans ((HBZ.out.trans (hb5.mono (by omega))).mono (by have := HB0.out.size; have := HF.out; omega))
      have hk5 := HK9.out.below hb5
      have hi5 := HI9.out.below hb5
      clear hcp
      go_wp2
      refine bodyPost_ret (v := .tuple #[.slice (some ⟨wr.heap.size, 0, none⟩) x1 x1, .slice b9 x2 cb9, .slice g9 x3 cg9, .nilIface]) (by simp [results, Tryd.results12, go_sem]) rfl ⟨some ⟨wr.heap.size, 0, none⟩, x1, b9, cb9, g9, cg9, ?_, hbw, ?_, ?_, ?_⟩
      · rw [HSK.out, HX1.out, HX2.out, HX3.out]
      · rw [HSK.out]; exact hs5
      · rw [HSK.out]; exact hk5
      · rw [HSK.out]; exact hi5

end Go.Proofs.YtkelcjfblekhpabDoor
