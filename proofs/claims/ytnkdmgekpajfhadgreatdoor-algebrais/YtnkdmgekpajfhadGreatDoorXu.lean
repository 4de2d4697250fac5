/-
  Walk of patch.Diff: what is between two trees. Walk of patch.Diff at two trees that cannot be compared. The fault that an error tells: none, one by itself, the first one of those that were joined.
-/
import Derived.Test.YtnkdmgekpajfhadGreatDoorXbe
import Derived.Test.YtnkdmgekpajfhadGreatDoorXbd
import Derived.Test.YtnkdmgekpajfhadGreatDoorXo
import Derived.Deep.RegionWith
import Derived.Deep.RegionHeld3
import Derived.Deep.DrawnRows
import Derived.Deep.AppendLies

namespace Go.Proofs.YtnkdmgekpajfhadGreatDoor
open Go.RowKit Dist

attribute [local go_sem] Go.wp_at_zero Go.wp_at_succ

theorem dfG_wipe {n f : Nat} {x : Fl} {A M : List Fl} (h : iaB (x :: A) M = true) : dfG n (f + 1) (x :: A) M = (3, x.1, whl x.2 45) :: dfG n f A M := by
  cases M with
  | nil => rfl
  | cons y M =>
    replace h : bl x.1 y.1 = true := h
    rw [dfG, if_pos h]
theorem dfG_make {n f : Nat} {y : Fl} {A M : List Fl} (h : iaB A (y :: M) = false) (h2 : iaB (y :: M) A = true) : dfG n (f + 1) A (y :: M) = (2, y.1, whl y.2 43) :: dfG n f A M := by
  cases A with
  | nil => rfl
  | cons x A =>
    replace h : bl x.1 y.1 = false := h
    replace h2 : bl y.1 x.1 = true := h2
    rw [dfG, if_neg (by rw [h]; simp), if_pos h2]
theorem dfG_both {n f : Nat} {x y : Fl} {A M : List Fl} (h : iaB (x :: A) (y :: M) = false) (h2 : iaB (y :: M) (x :: A) = false) : dfG n (f + 1) (x :: A) (y :: M) = if x.2 = y.2 then dfG n f A M else (1, x.1, cut (scr x.2 y.2) n) :: dfG n f A M := by
  replace h : bl x.1 y.1 = false := h
  replace h2 : bl y.1 x.1 = false := h2
  rw [dfG, if_neg (by rw [h]; simp), if_neg (by rw [h2]; simp)]

/-- How far two trees have been gone through: what was found, what is to come. -/
structure Dst (l m : List Fl) (n : Nat) (A M : List Fl) (L : List Ch) : Prop where
  same : ∃ f, A.length + M.length ≤ f ∧ L ++ dfG n f A M = dfG n (l.length + m.length) l m
  okA : ∀ x ∈ A, fOne x = 0
  okM : ∀ x ∈ M, fOne x = 0
  len : L.length + A.length + M.length ≤ 16

theorem Dst.start {l m : List Fl} {n : Nat} (hl : (tf l).2 = 0) (hm : (tf m).2 = 0) : Dst l m n l m [] := by
  obtain ⟨a1, _, a3⟩ := tf_zero hl
  obtain ⟨b1, _, b3⟩ := tf_zero hm
  exact ⟨⟨_, Nat.le_refl _, rfl⟩, a3, b3, by rw [List.length_nil]; omega⟩
theorem Dst.wipe {l m : List Fl} {n : Nat} {x : Fl} {A M : List Fl} {L : List Ch} (h : Dst l m n (x :: A) M L) (hi : iaB (x :: A) M = true) : Dst l m n A M (L ++ [(3, x.1, cut (scr x.2 []) n)]) := by
  obtain ⟨f, hf, hs⟩ := h.same
  obtain ⟨g, rfl⟩ : ∃ g, f = g + 1 := ⟨f - 1, by rw [List.length_cons] at hf; omega⟩
  have hlen := h.len
  rw [List.length_cons] at hf hlen
  refine ⟨⟨g, by omega, ?_⟩, fun y hy => h.okA y (List.mem_cons_of_mem _ hy), h.okM, by rw [List.length_append, List.length_singleton]; omega⟩
  rw [← hs, dfG_wipe hi, cut_wipe, List.append_assoc]; rfl
theorem Dst.make {l m : List Fl} {n : Nat} {y : Fl} {A M : List Fl} {L : List Ch} (h : Dst l m n A (y :: M) L) (hi : iaB A (y :: M) = false) (h2 : iaB (y :: M) A = true) : Dst l m n A M (L ++ [(2, y.1, cut (scr [] y.2) n)]) := by
  obtain ⟨f, hf, hs⟩ := h.same
  obtain ⟨g, rfl⟩ : ∃ g, f = g + 1 := ⟨f - 1, by rw [List.length_cons] at hf; omega⟩
  have hlen := h.len
  rw [List.length_cons] at hf hlen
  refine ⟨⟨g, by omega, ?_⟩, h.okA, fun x hx => h.okM x (List.mem_cons_of_mem _ hx), by rw [List.length_append, List.length_singleton]; omega⟩
  rw [← hs, dfG_make hi h2, cut_make, List.append_assoc]; rfl
theorem Dst.edit {l m : List Fl} {n : Nat} {x y : Fl} {A M : List Fl} {L : List Ch} (h : Dst l m n (x :: A) (y :: M) L) (hi : iaB (x :: A) (y :: M) = false) (h2 : iaB (y :: M) (x :: A) = false) (hne : x.2 ≠ y.2) : Dst l m n A M (L ++ [(1, x.1, cut (scr x.2 y.2) n)]) := by
  obtain ⟨f, hf, hs⟩ := h.same
  obtain ⟨g, rfl⟩ : ∃ g, f = g + 1 := ⟨f - 1, by rw [List.length_cons] at hf; omega⟩
  have hlen := h.len
  rw [List.length_cons, List.length_cons] at hf hlen
  refine ⟨⟨g, by omega, ?_⟩, fun z hz => h.okA z (List.mem_cons_of_mem _ hz), fun z hz => h.okM z (List.mem_cons_of_mem _ hz), by rw [List.length_append, List.length_singleton]; omega⟩
  rw [← hs, dfG_both hi h2, if_neg hne, List.append_assoc]; rfl
theorem Dst.keep {l m : List Fl} {n : Nat} {x y : Fl} {A M : List Fl} {L : List Ch} (h : Dst l m n (x :: A) (y :: M) L) (hi : iaB (x :: A) (y :: M) = false) (h2 : iaB (y :: M) (x :: A) = false) (he : x.2 = y.2) : Dst l m n A M L := by
  obtain ⟨f, hf, hs⟩ := h.same
  obtain ⟨g, rfl⟩ : ∃ g, f = g + 1 := ⟨f - 1, by rw [List.length_cons] at hf; omega⟩
  have hlen := h.len
  rw [List.length_cons, List.length_cons] at hf hlen
  refine ⟨⟨g, by omega, ?_⟩, fun z hz => h.okA z (List.mem_cons_of_mem _ hz), fun z hz => h.okM z (List.mem_cons_of_mem _ hz), by omega⟩
  rw [← hs, dfG_both hi h2, if_pos he]
theorem Dst.done {l m : List Fl} {n : Nat} {L : List Ch} (h : Dst l m n [] [] L) : L = dfG n (l.length + m.length) l m := by
  obtain ⟨f, _, hs⟩ := h.same
  rw [← hs]
  cases f <;> simp [dfG]

def lenV : Value → Nat
  | .slice _ n _ => n
  | _ => 0

theorem fls_tail {w : World} {a : Option Addr} {x : Fl} {A : List Fl} {c : Nat} (h : Fls w a (x :: A)) (hc : (x :: A).length ≤ c) : Fls w (fa a c 1) A := by
  have := h.rest hc 1
  simpa using this

/-- Files that lie below stand. -/
theorem Fls.grown {w w2 w5 : World} {a : Option Addr} {l : List Fl} {r : Option Nat} (h : Fls w a l) (hb : Below w.heap.size w w2) (hg : w2.grownBy w5 r) (hr : ∀ y, r = some y → w.heap.size ≤ y) : Fls w5 a l :=
  h.below ⟨hg.os.trans hb.os, hg.tape.trans hb.tape, hg.output.trans hb.output, Nat.le_trans hb.size hg.size, fun k hk => (hg.block k (Nat.lt_of_lt_of_le hk hb.size) (fun e => by have := hr k e.symm; omega)).trans (hb.block k hk)⟩

set_option maxRecDepth 100000 in
set_option maxHeartbeats 8000000 in
theorem diff_ok (aa ab : Option Addr) (l m : List Fl) (ca cb n : Nat) (w : World) (ha : Fls w aa l) (hb : Fls w ab m) (hca : l.length ≤ ca) (hcb : m.length ≤ cb) (hl : (tf l).2 = 0) (hm : (tf m).2 = 0) (hn : n ≤ 1000) :
    Calls Tryz.prog 44 #[.slice aa l.length ca, .slice ab m.length cb, .int .i64 n] w fun e w' => ∃ a' c', e = .returned (.tuple #[.slice a' (dfP l m n).length c', .nilIface]) ∧ Below w.heap.size w w' ∧ Chs w' a' (dfP l m n) ∧ (dfP l m n).length ≤ c' := by
  obtain ⟨i0, hi0, hz0, hz1, hz2⟩ := info_parts Tryz.infoChange
  obtain ⟨l8, _, lok⟩ := tf_zero hl
  obtain ⟨m8, _, mok⟩ := tf_zero hm
  have hck := checkDiffOf aa ab l m ca cb n w ha hb (by unfold maxLen; omega) (fun x hx => by have := (fOne_small (lok x hx)).2.1; unfold maxLen; omega) (by unfold maxLen; omega) (fun x hx => by have := (fOne_small (mok x hx)).2.1; unfold maxLen; omega)
  have hnz : nz (dfs l m n) = [] := by
    unfold dfs
    rw [hl, hm, if_neg (by omega)]
    rfl
  have hst := Dst.start (n := n) hl hm
  have HGP : Hid (dfG n (l.length + m.length) l m = dfP l m n) := dfG_dfP hl hm hn
  obtain ⟨G, hG⟩ : ∃ G, dfP l m n = G := ⟨_, rfl⟩
  rw [hG] at HGP ⊢
  obtain ⟨nl, hnl⟩ : ∃ x, l.length = x := ⟨_, rfl⟩
  obtain ⟨nm, hnm⟩ : ∃ x, m.length = x := ⟨_, rfl⟩
  have HNL : Hid (l.length = nl) := hnl
  have HNM : Hid (m.length = nm) := hnm
  have HNZ : Hid (nz (dfs l m n) = []) := hnz
  have HST : Hid (Dst l m n l m []) := hst
  have HA : Hid (Fls w aa l) := ha
  have HBB : Hid (Fls w ab m) := hb
  have HCA : Hid (l.length ≤ ca) := hca
  have HCB : Hid (m.length ≤ cb) := hcb
  rw [hnl, hnm] at hck
  rw [hnl, hnm]
  clear ha hb hca hcb hl hm l8 lok m8 mok hnz hst hG hnl hnm
  go_enter Tryz.func44, Tryz.ntmps44
  go_wp2_with (go_at_call 66; refine hck.mono ?_; rintro e w0 ⟨hb0, g1, _⟩; obtain rfl := g1 HNZ.out; clear g1)
  have HA0 : Hid (Fls w0 aa l) := HA.out.below hb0
  have HBB0 : Hid (Fls w0 ab m) := HBB.out.below hb0
  have HB00 : Hid (Below w.heap.size w w0) := hb0
  clear hck hb0 HA HBB
  obtain ⟨B, hB⟩ : ∃ B, w0.heap.size = B := ⟨_, rfl⟩
  have HB : Hid (w0.heap.size = B) := hB
  clear hB
  go_wp2
  go_loopw [0, 1, 9] (fun v0 v1 v9 w3 => ∃ (A M : List Fl) (L : List Ch) (a1 a2 : Option Addr) (c1 c2 : Nat), v0 = .slice a1 A.length c1 ∧ v1 = .slice a2 M.length c2 ∧ A.length ≤ c1 ∧ M.length ≤ c2 ∧ Below B w0 w3 ∧ Fls w0 a1 A ∧ Fls w0 a2 M ∧ DOwn w3 B v9 L ∧ Dst l m n A M L) (fun v0 v1 _ _ => lenV v0 + lenV v1)
  case atStart => exact ⟨l, m, [], aa, ab, ca, cb, by rw [HNL.out], by rw [HNM.out], HCA.out, HCB.out, Below.refl _ _, HA0.out, HBB0.out, DOwn.zero _ _, HST.out⟩
  case round =>
    obtain ⟨A, M, L, a1, a2, c1, c2, rfl, rfl, hc1, hc2, hbl, hfa, hfm, hdo, hds⟩ := hrel
    have HBL : Hid (Below B w0 wr) := hbl
    have HDO : Hid (DOwn wr B u9 L) := hdo
    have HDS : Hid (Dst l m n A M L) := hds
    have HSZ : Hid (B ≤ wr.heap.size) := by show B ≤ wr.heap.size; have := hbl.size; have := HB.out; omega
    have HLL : Hid (L.length ≤ 16) := by show L.length ≤ 16; have := hds.len; omega
    have HFA : Hid (Fls w0 a1 A) := hfa
    have HFM : Hid (Fls w0 a2 M) := hfm
    have hbw : Below w0.heap.size w0 wr := by rw [HB.out]; exact hbl
    have HAH1 : Hid (Calls Tryz.prog 67 #[.slice a1 A.length c1, .slice a2 M.length c2] wr fun e w' => e = .returned (.bool (iaB A M)) ∧ Below wr.heap.size wr w') := isAheadOf a1 a2 A M c1 c2 wr (hfa.below hbw) (hfm.below hbw)
    have HAH2 : Hid (∀ w', Below wr.heap.size wr w' → Calls Tryz.prog 67 #[.slice a2 M.length c2, .slice a1 A.length c1] w' fun e w'' => e = .returned (.bool (iaB M A)) ∧ Below w'.heap.size w' w'') := fun w' h => isAheadOf a2 a1 M A c2 c1 w' ((hfm.below hbw).below h) ((hfa.below hbw).below h)
    clear hbl hdo hds hfa hfm hbw
    by_cases hi : iaB A M = true
    · by_cases hA : A = []
      · subst hA
        obtain rfl : M = [] := by
          cases M with
          | nil => rfl
          | cons y M => cases hi
        have hLe := HDS.out.done
        rw [HGP.out] at hLe
        obtain ⟨av, cv, hv, hch, hcv⟩ := HDO.out.chs
        subst hv
        have HCH : Hid (Chs wr av L) := hch
        have HCV : Hid (L.length ≤ cv) := hcv
        have HBX : Hid (Below w.heap.size w wr) := HB00.out.trans (HBL.out.mono (by have := HB.out; have := HB00.out.size; omega))
        rw [List.length_nil]
        clear hch hcv HAH1 HAH2
        go_wp2
        go_ret2
        rw [← hLe]
        exact ⟨av, cv, rfl, HBX.out, HCH.out, HCV.out⟩
      · obtain ⟨x, A', rfl⟩ : ∃ x A', A = x :: A' := by
          cases A with
          | nil => exact absurd rfl hA
          | cons x A' => exact ⟨x, A', rfl⟩
        have hfx := HFA.out
        obtain ⟨b1, o1, hax⟩ := hfx.addr (i := 0) (by simp)
        subst hax
        obtain ⟨am, cm, x1, x2, xs0, xcm⟩ := hfx.at (i := 0) (by simp)
        rw [Nat.zero_mul, Nat.add_zero] at x1 x2
        replace x1 : w0.cell? ⟨b1, o1, none⟩ = some (.string x.1) := x1
        replace x2 : w0.cell? ⟨b1, o1 + 1, none⟩ = some (.slice am x.2.length cm) := x2
        replace xs0 : Strs w0 am x.2 := xs0
        have xok := HDS.out.okA x (by simp)
        obtain ⟨xp, xl⟩ := fOne_zero xok
        have xp20 := (fOne_small xok).1
        have xb : b1 < B := by rw [← HB.out]; exact World.block_lt_of_cell? _ _ x1
        have hcx := hc1
        have HCH : Hid (∀ w', Below B w0 w' → Calls Tryz.prog 68 #[.int .i64 3, .string x.1, .slice am x.2.length cm, .slice none 0 0, .int .i64 n] w' fun e w'' => ∃ vh, e = .returned (.agg #[.int .i64 3, .string x.1, vh]) ∧ Below w'.heap.size w' w'' ∧ HOwn w'' w'.heap.size vh (cut (scr x.2 []) n)) := fun w' h => changeOf 3 x.1 am none x.2 [] cm 0 n w' (xs0.below (by rw [HB.out]; exact h)) (fun i hi => absurd hi (Nat.not_lt_zero _)) (ff_of xl rfl) hn xp20
        have HDS2 : Hid (Dst l m n A' M (L ++ [(3, x.1, cut (scr x.2 []) n)])) := HDS.out.wipe hi
        have HT : Hid (Fls w0 (fa (some ⟨b1, o1, none⟩) c1 1) A') := fls_tail HFA.out hc1
        have hs1 := fun w => run_files_from (some ⟨b1, o1, none⟩) (x :: A').length c1 1 (by simp) w 1 rfl
        have HCC : Hid (A'.length ≤ c1 - 1) := by show A'.length ≤ c1 - 1; rw [List.length_cons] at hcx; omega
        obtain ⟨px, hpx⟩ : ∃ q, x.1 = q := ⟨_, rfl⟩
        obtain ⟨nx, hnx⟩ : ∃ q, x.2.length = q := ⟨_, rfl⟩
        obtain ⟨C, hC⟩ : ∃ C, cut (scr x.2 []) n = C := ⟨_, rfl⟩
        rw [hpx] at x1 HCH HDS2
        rw [hnx] at x2 HCH
        rw [hC] at HCH HDS2
        have KS0 : Hid (∀ w', Below B w0 w' → w'.cell? ⟨b1, o1, none⟩ = some (.string px) ∧ w'.cell? ⟨b1, o1 + 1, none⟩ = some (.slice am nx cm)) := fun w' h => ⟨cell_later (by rw [HB.out]; exact h) x1, cell_later (by rw [HB.out]; exact h) x2⟩
        obtain ⟨nA, hnA⟩ : ∃ k, (x :: A').length = k := ⟨_, rfl⟩
        obtain ⟨nB, hnB⟩ : ∃ k, A'.length = k := ⟨_, rfl⟩
        have HnB : Hid (A'.length = nB) := hnB
        have enA : nA - 1 = nB := by rw [← hnA, ← hnB]; rfl
        have gnA : (0 : Int) < nA := by rw [← hnA, List.length_cons]; omega
        have LnA : Hid (nB < nA) := by show nB < nA; rw [← hnA, ← hnB, List.length_cons]; omega
        obtain ⟨nM, hnM⟩ : ∃ k, M.length = k := ⟨_, rfl⟩
        have HNM2 : Hid (M.length = nM) := hnM
        have hah := HAH1.out
        rw [hi, hnA, hnM] at hah
        rw [hnA, enA] at hs1
        rw [hnA, hnM]
        clear hfx x1 x2 xs0 xcm xok xp xl xp20 hpx hnx hC hnA hnB hnM hcx HFA HAH1 HAH2 enA
        go_wp2_with (go_at_call 67; refine hah.mono ?_; rintro e w1 ⟨rfl, hbw1⟩)
        clear hah
        have HDO : Hid (DOwn w1 B u9 L) := HDO.out.below hbw1
        have HBL : Hid (Below B w0 w1) := HBL.out.trans (hbw1.mono HSZ.out)
        have HSZ : Hid (B ≤ w1.heap.size) := by show B ≤ w1.heap.size; have := hbw1.size; have := HSZ.out; omega
        have KS : Hid (∀ w', Below w1.drew.heap.size w1.drew w' → w'.cell? ⟨b1, o1, none⟩ = some (.string px) ∧ w'.cell? ⟨b1, o1 + 1, none⟩ = some (.slice am nx cm)) := fun w' h => KS0.out w' (HBL.out.trans (((show Below w1.heap.size w1 w1.drew from ⟨rfl, rfl, rfl, Nat.le_refl _, fun _ _ => rfl⟩).trans h).mono HSZ.out))
        have KS2 : Hid (∀ w2 o, Below w1.heap.size w1 w2 → (w2.alloc o).cell? ⟨b1, o1, none⟩ = some (.string px) ∧ (w2.alloc o).cell? ⟨b1, o1 + 1, none⟩ = some (.slice am nx cm)) := fun w2 o h => KS0.out _ (HBL.out.trans ((h.trans ((below_alloc w2 o).mono h.size)).mono HSZ.out))
        have KS3 : Hid (∀ w2 o W5, Below w1.heap.size w1 w2 → (w2.alloc o).grownBy W5 u9.ownBlock → W5.cell? ⟨b1, o1, none⟩ = some (.string px) ∧ W5.cell? ⟨b1, o1 + 1, none⟩ = some (.slice am nx cm)) := fun w2 o W5 h hg => by
          obtain ⟨z1, z2⟩ := KS2.out w2 o h
          have nb1 : some b1 ≠ u9.ownBlock := fun e => by
            obtain ⟨xs1, h1, _⟩ := HDO.out
            have := (h1.lt b1 e.symm).1
            omega
          exact ⟨hg.cell z1 nb1, hg.cell z2 nb1⟩
        have hch := HCH.out w1.drew (below_drawn HBL.out)
        clear hbw1 HCH
        go_wp2
        refine wp_region_held_drew (S := fun w' => w'.cell? ⟨b1, o1, none⟩ = some (.string px) ∧ w'.cell? ⟨b1, o1 + 1, none⟩ = some (.slice am nx cm)) (by kernel_rfl) ?_ (fun hHeld => ?_)
        · exact KS.out _ (Below.refl _ _)
        refine wpAnyH_take (i := 0) (v := ?_) rfl (by kernel_rfl) (by kernel_rfl) (by kernel_rfl) (fun _ _ _ h => h) (Or.inl ⟨by rfl, ?_⟩) (by assumption) ?_
        rotate_left
        · intro w' hSw
          (try dsimp only at hSw)
          go_simp
          try with_reducible rfl
        simp only [Act.put, List.getElem_toArray, List.getElem_cons_zero, List.setIfInBounds_toArray, List.set_cons_zero, List.set_cons_succ]
        refine wpAnyH_take (i := 1) (v := ?_) rfl (by kernel_rfl) (by kernel_rfl) (by kernel_rfl) (fun _ _ _ h => h) (Or.inl ⟨by rfl, ?_⟩) (by assumption) ?_
        rotate_left
        · intro w' hSw
          (try dsimp only at hSw)
          go_simp
          try with_reducible rfl
        simp only [Act.put, List.getElem_toArray, List.getElem_cons_zero, List.getElem_cons_succ, List.setIfInBounds_toArray, List.set_cons_zero, List.set_cons_succ]
        refine wpAnyH_take (i := 2) (v := ?_) rfl (by kernel_rfl) (by kernel_rfl) (by kernel_rfl) (fun _ _ _ h => h) (Or.inl ⟨by rfl, ?_⟩) (by assumption) ?_
        rotate_left
        · intro w' hSw
          (try dsimp only at hSw)
          go_simp
          try first | (rw [if_pos (by omega)]) | (with_reducible rfl)
        simp only [Act.put, List.getElem_toArray, List.getElem_cons_zero, List.getElem_cons_succ, List.setIfInBounds_toArray, List.set_cons_zero, List.set_cons_succ]
        refine wpAnyH_take (i := 3) (v := ?_) rfl (by kernel_rfl) (by kernel_rfl) (by kernel_rfl) (fun _ _ _ h => h) (Or.inl ⟨by rfl, ?_⟩) (by assumption) ?_
        rotate_left
        · intro w' hSw
          (try dsimp only at hSw)
          go_simp
          try with_reducible rfl
        simp only [Act.put, List.getElem_toArray, List.getElem_cons_zero, List.getElem_cons_succ, List.setIfInBounds_toArray, List.set_cons_zero, List.set_cons_succ]
        refine wpAnyH_take (i := 4) (v := ?_) rfl (by kernel_rfl) (by kernel_rfl) (by kernel_rfl) (fun _ _ _ h => h) (Or.inl ⟨by rfl, ?_⟩) (by assumption) ?_
        rotate_left
        · intro w' hSw
          (try dsimp only at hSw)
          go_simp
          try with_reducible rfl
        simp only [Act.put, List.getElem_toArray, List.getElem_cons_zero, List.getElem_cons_succ, List.setIfInBounds_toArray, List.set_cons_zero, List.set_cons_succ]
        refine wpAnyH_take (i := 5) (v := ?_) rfl (by kernel_rfl) (by kernel_rfl) (by kernel_rfl) (fun _ _ _ h => h) (Or.inl ⟨by rfl, ?_⟩) (by assumption) ?_
        rotate_left
        · intro w' hSw
          (try dsimp only at hSw)
          go_simp
          try with_reducible rfl
        simp only [Act.put, List.getElem_toArray, List.getElem_cons_zero, List.getElem_cons_succ, List.setIfInBounds_toArray, List.set_cons_zero, List.set_cons_succ]
        refine wpAnyH_take (i := 6) (v := ?_) rfl (by kernel_rfl) (by kernel_rfl) (by kernel_rfl) (fun _ _ _ h => h) (Or.inl ⟨by rfl, ?_⟩) (by assumption) ?_
        rotate_left
        · intro w' hSw
          (try dsimp only at hSw)
          go_simp
          try first | (rw [if_pos (by omega)]) | (with_reducible rfl)
        simp only [Act.put, List.getElem_toArray, List.getElem_cons_zero, List.getElem_cons_succ, List.setIfInBounds_toArray, List.set_cons_zero, List.set_cons_succ]
        refine wpAnyH_take (i := 7) (v := ?_) rfl (by kernel_rfl) (by kernel_rfl) (by kernel_rfl) (fun _ _ _ h => h) (Or.inl ⟨by rfl, ?_⟩) (by assumption) ?_
        rotate_left
        · intro w' hSw
          (try dsimp only at hSw)
          go_simp
          try with_reducible rfl
        simp only [Act.put, List.getElem_toArray, List.getElem_cons_zero, List.getElem_cons_succ, List.setIfInBounds_toArray, List.set_cons_zero, List.set_cons_succ]
        refine wpAnyH_take (i := 8) (v := ?_) rfl (by kernel_rfl) (by kernel_rfl) (by kernel_rfl) (fun _ _ _ h => h) (Or.inl ⟨by rfl, ?_⟩) (by assumption) ?_
        rotate_left
        · intro w' hSw
          (try dsimp only at hSw)
          go_simp
          try with_reducible rfl
        simp only [Act.put, List.getElem_toArray, List.getElem_cons_zero, List.getElem_cons_succ, List.setIfInBounds_toArray, List.set_cons_zero, List.set_cons_succ]
        refine wpAnyH_take (i := 9) (v := ?_) rfl (by kernel_rfl) (by kernel_rfl) (by kernel_rfl) (fun _ _ _ h => h) (Or.inl ⟨by rfl, ?_⟩) (by assumption) ?_
        rotate_left
        · intro w' hSw
          (try dsimp only at hSw)
          go_simp
          try with_reducible rfl
        simp only [Act.put, List.getElem_toArray, List.getElem_cons_zero, List.getElem_cons_succ, List.setIfInBounds_toArray, List.set_cons_zero, List.set_cons_succ]
        refine wpAnyH_ready (rs := [10]) (by kernel_rfl) (by simp) ?_
        refine AllReadyH.cons rfl (fun K hK => ?_) AllReadyH.nil
        go_simp
        go_at_call 68; refine hch.mono ?_; rintro e w2 ⟨vh, rfl, hb2, ho2⟩
        go_wp2_with fail
        refine hK.out _ _ ?_ (fun hHeld => ?_)
        · exact KS.out _ hb2
        clear hK K
        obtain ⟨av, cv, rfl, hks2, hcv⟩ := ho2.room
        have hbw2 : Below w1.heap.size w1 w2 := (show Below w1.heap.size w1 w1.drew from ⟨rfl, rfl, rfl, Nat.le_refl _, fun _ _ => rfl⟩).trans hb2
        obtain ⟨nC, hnC⟩ : ∃ x, (C).length = x := ⟨_, rfl⟩
        rw [hnC] at ho2
        have HO2 : Hid (HOwn w2 w1.drew.heap.size (.slice av nC cv) (C)) := ho2
        have HCV : Hid ((C).length ≤ cv) := hcv
        have HNC : Hid ((C).length = nC) := hnC
        have HBW : Hid (Below w1.heap.size w1 w2) := hbw2
        obtain ⟨xs, hown, hat⟩ := (HDO.out.below hbw2).below (below_alloc w2 (.cells #[.int .i64 3, .string px, .slice av nC cv] 40))
        have HAT := hat
        have HBX : Hid (Below B w0 (w2.alloc (.cells #[.int .i64 3, .string px, .slice av nC cv] 40))) := (HBL.out.trans (hbw2.mono HSZ.out)).alloc (by have := hbw2.size; have := HSZ.out; omega) _
        have HLB : Hid (∀ y, u9.ownBlock = some y → B ≤ y ∧ y < w1.heap.size) := fun y hy => by
          obtain ⟨xs1, h1, _⟩ := HDO.out
          exact h1.lt y hy
        have hBw : B ≤ w2.heap.size := by have := hbw2.size; have := HSZ.out; omega
        rw [hnC]
        clear hat ho2 hks2 hcv hnC hbw2
        refine wpAnyH_ready (rs := [11]) (by kernel_rfl) (by simp) ?_
        refine AllReadyH.cons rfl (fun K hK => ?_) AllReadyH.nil
        go_simp
        refine hK.out _ _ ?_ (fun hHeld => ?_)
        · exact KS2.out _ _ HBW.out
        clear hK K
        refine wpAnyH_ready (rs := [12]) (by kernel_rfl) (by simp) ?_
        refine AllReadyH.cons rfl (fun K hK => ?_) AllReadyH.nil
        refine step_append_lies _ (by rfl) _ _ 22 (by rfl) B 40 i0 (.agg #[.int .i64 0, .string ByteArray.empty, .slice none 0 0]) 3 48 Tryz.underlying22 hi0 hz0 hz1 hz2 rfl (by decide) _ _ _ (by rfl) hown ⟨w2.heap.size, 0, none⟩ 1 1 [.int .i64 3, .string px, .slice av nC cv] (by rfl) rfl (cell_three_new _ _ _ _ _) (fun x hx => by simp at hx; rcases hx with rfl | rfl | rfl <;> rfl) (by decide) (by have := HLL.out; unfold maxLen; omega) (by have := HLL.out; omega) (by simp; omega) (w2.heap.size + 1) (by simp) ?_; intro g5 c5 W5 hown5 hgrow5 hat5 hlt5
        refine hK.out _ _ ?_ (fun hHeld => ?_)
        · exact KS3.out _ _ _ HBW.out hgrow5
        clear hK K
        simp only [Act.put, List.getElem_toArray, List.getElem_cons_zero, List.getElem_cons_succ, List.setIfInBounds_toArray, List.set_cons_zero, List.set_cons_succ]
        refine wpAnyH_take (i := 13) (v := ?_) rfl (by kernel_rfl) (by kernel_rfl) (by kernel_rfl) (fun _ _ _ h => h) (Or.inl ⟨by rfl, ?_⟩) (by assumption) ?_
        rotate_left
        · intro w' hSw
          (try dsimp only at hSw)
          go_simp
          try with_reducible rfl
        simp only [Act.put, List.getElem_toArray, List.getElem_cons_zero, List.getElem_cons_succ, List.setIfInBounds_toArray, List.set_cons_zero, List.set_cons_succ]
        refine wpAnyH_done (by kernel_rfl) ?_ _
        have hb5 : Below B w0 W5 := HBX.out.grown hgrow5 (by simp; omega) (fun j hj => (HLB.out j hj).1)
        have hat6 : (Value.slice (some ⟨g5, 0, none⟩) (L.length + 1) c5).ownBlock = u9.ownBlock ∨ (Value.slice (some ⟨g5, 0, none⟩) (L.length + 1) c5).ownBlock = some (w2.alloc (.cells #[.int .i64 3, .string px, .slice av nC cv] 40)).heap.size := by
          rcases hat5 with h | h
          · exact .inl h.symm
          · refine .inr ?_
            rw [h]; simp [Value.ownBlock]
        have hdo5 : DOwn W5 B (.slice (some ⟨g5, 0, none⟩) (L.length + 1) c5) (L ++ [(3, px, C)]) := by
          refine DOwn.snoc (ah := av) (ch := cv) hown HAT (by rw [HNC.out]; exact hown5) hgrow5 hat6 HCV.out (fun w9 hg9 => ?_)
          have hg8 : Gr w2 w9 u9.ownBlock := hg9.of_below (below_alloc w2 _)
          have h9 := HO2.out.gr hg8 (fun r hr => by have := (HLB.out r hr).2; have : w1.drew.heap.size = w1.heap.size := rfl; omega)
          obtain ⟨a9, c9, e9, k9, _⟩ := h9.room
          simp only [Value.slice.injEq] at e9
          rw [e9.1]
          exact k9
        have HD5 : Hid (DOwn W5 B (.slice (some ⟨g5, 0, none⟩) (L.length + 1) c5) (L ++ [(3, px, C)])) := hdo5
        have HB5 : Hid (Below B w0 W5) := hb5
        clear hdo5 hb5 hat6 hat5 hgrow5 hown5 hown HAT HO2 HCV HNC HBW HBX HLB hlt5 KS KS2 KS3 KS0 hch hHeld
        go_wp2
        go_roundw
        case rel => exact ⟨A', M, L ++ [(3, px, C)], fa (some ⟨b1, o1, none⟩) c1 1, a2, c1 - 1, c2, by rw [HnB.out], by rw [HNM2.out], HCC.out, hc2, HB5.out, HT.out, HFM.out, HD5.out, HDS2.out⟩
        case measure => have := LnA.out; simp [lenV]; omega
    · replace hi : iaB A M = false := by simpa using hi
      obtain ⟨y, M', rfl⟩ : ∃ y M', M = y :: M' := by
        cases M with
        | nil => cases A <;> cases hi
        | cons y M' => exact ⟨y, M', rfl⟩
      by_cases h2 : iaB (y :: M') A = true
      · have hfx := HFM.out
        obtain ⟨b1, o1, hax⟩ := hfx.addr (i := 0) (by simp)
        subst hax
        obtain ⟨am, cm, x1, x2, xs0, xcm⟩ := hfx.at (i := 0) (by simp)
        rw [Nat.zero_mul, Nat.add_zero] at x1 x2
        replace x1 : w0.cell? ⟨b1, o1, none⟩ = some (.string y.1) := x1
        replace x2 : w0.cell? ⟨b1, o1 + 1, none⟩ = some (.slice am y.2.length cm) := x2
        replace xs0 : Strs w0 am y.2 := xs0
        have xok := HDS.out.okM y (by simp)
        obtain ⟨xp, xl⟩ := fOne_zero xok
        have xp20 := (fOne_small xok).1
        have xb : b1 < B := by rw [← HB.out]; exact World.block_lt_of_cell? _ _ x1
        have hcx := hc2
        have HCH : Hid (∀ w', Below B w0 w' → Calls Tryz.prog 68 #[.int .i64 2, .string y.1, .slice none 0 0, .slice am y.2.length cm, .int .i64 n] w' fun e w'' => ∃ vh, e = .returned (.agg #[.int .i64 2, .string y.1, vh]) ∧ Below w'.heap.size w' w'' ∧ HOwn w'' w'.heap.size vh (cut (scr [] y.2) n)) := fun w' h => changeOf 2 y.1 none am [] y.2 0 cm n w' (fun i hi => absurd hi (Nat.not_lt_zero _)) (xs0.below (by rw [HB.out]; exact h)) (ff_of rfl xl) hn xp20
        have HDS2 : Hid (Dst l m n A M' (L ++ [(2, y.1, cut (scr [] y.2) n)])) := HDS.out.make hi h2
        have HT : Hid (Fls w0 (fa (some ⟨b1, o1, none⟩) c2 1) M') := fls_tail HFM.out hc2
        have hs1 := fun w => run_files_from (some ⟨b1, o1, none⟩) (y :: M').length c2 1 (by simp) w 1 rfl
        have HCC : Hid (M'.length ≤ c2 - 1) := by show M'.length ≤ c2 - 1; rw [List.length_cons] at hcx; omega
        obtain ⟨px, hpx⟩ : ∃ q, y.1 = q := ⟨_, rfl⟩
        obtain ⟨nx, hnx⟩ : ∃ q, y.2.length = q := ⟨_, rfl⟩
        obtain ⟨C, hC⟩ : ∃ C, cut (scr [] y.2) n = C := ⟨_, rfl⟩
        rw [hpx] at x1 HCH HDS2
        rw [hnx] at x2 HCH
        rw [hC] at HCH HDS2
        have KS0 : Hid (∀ w', Below B w0 w' → w'.cell? ⟨b1, o1, none⟩ = some (.string px) ∧ w'.cell? ⟨b1, o1 + 1, none⟩ = some (.slice am nx cm)) := fun w' h => ⟨cell_later (by rw [HB.out]; exact h) x1, cell_later (by rw [HB.out]; exact h) x2⟩
        obtain ⟨nA, hnA⟩ : ∃ k, (y :: M').length = k := ⟨_, rfl⟩
        obtain ⟨nB, hnB⟩ : ∃ k, M'.length = k := ⟨_, rfl⟩
        have HnB : Hid (M'.length = nB) := hnB
        have enA : nA - 1 = nB := by rw [← hnA, ← hnB]; rfl
        have gnA : (0 : Int) < nA := by rw [← hnA, List.length_cons]; omega
        have LnA : Hid (nB < nA) := by show nB < nA; rw [← hnA, ← hnB, List.length_cons]; omega
        obtain ⟨nM, hnM⟩ : ∃ k, A.length = k := ⟨_, rfl⟩
        have HNM2 : Hid (A.length = nM) := hnM
        have hah := HAH1.out
        rw [hi, hnA, hnM] at hah
        rw [h2, hnA, hnM] at HAH2
        rw [hnA, enA] at hs1
        rw [hnA, hnM]
        clear hfx x1 x2 xs0 xcm xok xp xl xp20 hpx hnx hC hnA hnB hnM hcx HFM HAH1 enA
        rcases Nat.eq_zero_or_pos nM with hz | hz
        case' inl =>
          subst hz
          go_wp2_with (go_at_call 67; refine hah.mono ?_)
        case' inr =>
          have hq : (0 : Int) < (nM : Int) := by omega
          clear hz
          go_wp2_with (go_at_call 67; refine hah.mono ?_)
        all_goals
          rintro e wq ⟨rfl, hbwq⟩
          have hah2 := HAH2.out wq hbwq
          clear hah HAH2
          go_wp2_with (go_at_call 67; refine hah2.mono ?_; rintro e w1 ⟨rfl, hbw1⟩)
          replace hbw1 := hbwq.trans (hbw1.mono hbwq.size)
          clear hah2 hbwq
          have HDO : Hid (DOwn w1 B u9 L) := HDO.out.below hbw1
          have HBL : Hid (Below B w0 w1) := HBL.out.trans (hbw1.mono HSZ.out)
          have HSZ : Hid (B ≤ w1.heap.size) := by show B ≤ w1.heap.size; have := hbw1.size; have := HSZ.out; omega
          have KS : Hid (∀ w', Below w1.drew.heap.size w1.drew w' → w'.cell? ⟨b1, o1, none⟩ = some (.string px) ∧ w'.cell? ⟨b1, o1 + 1, none⟩ = some (.slice am nx cm)) := fun w' h => KS0.out w' (HBL.out.trans (((show Below w1.heap.size w1 w1.drew from ⟨rfl, rfl, rfl, Nat.le_refl _, fun _ _ => rfl⟩).trans h).mono HSZ.out))
          have KS2 : Hid (∀ w2 o, Below w1.heap.size w1 w2 → (w2.alloc o).cell? ⟨b1, o1, none⟩ = some (.string px) ∧ (w2.alloc o).cell? ⟨b1, o1 + 1, none⟩ = some (.slice am nx cm)) := fun w2 o h => KS0.out _ (HBL.out.trans ((h.trans ((below_alloc w2 o).mono h.size)).mono HSZ.out))
          have KS3 : Hid (∀ w2 o W5, Below w1.heap.size w1 w2 → (w2.alloc o).grownBy W5 u9.ownBlock → W5.cell? ⟨b1, o1, none⟩ = some (.string px) ∧ W5.cell? ⟨b1, o1 + 1, none⟩ = some (.slice am nx cm)) := fun w2 o W5 h hg => by
            obtain ⟨z1, z2⟩ := KS2.out w2 o h
            have nb1 : some b1 ≠ u9.ownBlock := fun e => by
              obtain ⟨xs1, h1, _⟩ := HDO.out
              have := (h1.lt b1 e.symm).1
              omega
            exact ⟨hg.cell z1 nb1, hg.cell z2 nb1⟩
          have hch := HCH.out w1.drew (below_drawn HBL.out)
          clear hbw1 HCH
          go_wp2
          refine wp_region_held_drew (S := fun w' => w'.cell? ⟨b1, o1, none⟩ = some (.string px) ∧ w'.cell? ⟨b1, o1 + 1, none⟩ = some (.slice am nx cm)) (by kernel_rfl) ?_ (fun hHeld => ?_)
          · exact KS.out _ (Below.refl _ _)
          refine wpAnyH_take (i := 0) (v := ?_) rfl (by kernel_rfl) (by kernel_rfl) (by kernel_rfl) (fun _ _ _ h => h) (Or.inl ⟨by rfl, ?_⟩) (by assumption) ?_
          rotate_left
          · intro w' hSw
            (try dsimp only at hSw)
            go_simp
            try with_reducible rfl
          simp only [Act.put, List.getElem_toArray, List.getElem_cons_zero, List.setIfInBounds_toArray, List.set_cons_zero, List.set_cons_succ]
          refine wpAnyH_take (i := 1) (v := ?_) rfl (by kernel_rfl) (by kernel_rfl) (by kernel_rfl) (fun _ _ _ h => h) (Or.inl ⟨by rfl, ?_⟩) (by assumption) ?_
          rotate_left
          · intro w' hSw
            (try dsimp only at hSw)
            go_simp
            try with_reducible rfl
          simp only [Act.put, List.getElem_toArray, List.getElem_cons_zero, List.getElem_cons_succ, List.setIfInBounds_toArray, List.set_cons_zero, List.set_cons_succ]
          refine wpAnyH_take (i := 2) (v := ?_) rfl (by kernel_rfl) (by kernel_rfl) (by kernel_rfl) (fun _ _ _ h => h) (Or.inl ⟨by rfl, ?_⟩) (by assumption) ?_
          rotate_left
          · intro w' hSw
            (try dsimp only at hSw)
            go_simp
            try first | (rw [if_pos (by omega)]) | (with_reducible rfl)
          simp only [Act.put, List.getElem_toArray, List.getElem_cons_zero, List.getElem_cons_succ, List.setIfInBounds_toArray, List.set_cons_zero, List.set_cons_succ]
          refine wpAnyH_take (i := 3) (v := ?_) rfl (by kernel_rfl) (by kernel_rfl) (by kernel_rfl) (fun _ _ _ h => h) (Or.inl ⟨by rfl, ?_⟩) (by assumption) ?_
          rotate_left
          · intro w' hSw
            (try dsimp only at hSw)
            go_simp
            try with_reducible rfl
          simp only [Act.put, List.getElem_toArray, List.getElem_cons_zero, List.getElem_cons_succ, List.setIfInBounds_toArray, List.set_cons_zero, List.set_cons_succ]
          refine wpAnyH_take (i := 4) (v := ?_) rfl (by kernel_rfl) (by kernel_rfl) (by kernel_rfl) (fun _ _ _ h => h) (Or.inl ⟨by rfl, ?_⟩) (by assumption) ?_
          rotate_left
          · intro w' hSw
            (try dsimp only at hSw)
            go_simp
            try with_reducible rfl
          simp only [Act.put, List.getElem_toArray, List.getElem_cons_zero, List.getElem_cons_succ, List.setIfInBounds_toArray, List.set_cons_zero, List.set_cons_succ]
          refine wpAnyH_take (i := 5) (v := ?_) rfl (by kernel_rfl) (by kernel_rfl) (by kernel_rfl) (fun _ _ _ h => h) (Or.inl ⟨by rfl, ?_⟩) (by assumption) ?_
          rotate_left
          · intro w' hSw
            (try dsimp only at hSw)
            go_simp
            try with_reducible rfl
          simp only [Act.put, List.getElem_toArray, List.getElem_cons_zero, List.getElem_cons_succ, List.setIfInBounds_toArray, List.set_cons_zero, List.set_cons_succ]
          refine wpAnyH_take (i := 6) (v := ?_) rfl (by kernel_rfl) (by kernel_rfl) (by kernel_rfl) (fun _ _ _ h => h) (Or.inl ⟨by rfl, ?_⟩) (by assumption) ?_
          rotate_left
          · intro w' hSw
            (try dsimp only at hSw)
            go_simp
            try first | (rw [if_pos (by omega)]) | (with_reducible rfl)
          simp only [Act.put, List.getElem_toArray, List.getElem_cons_zero, List.getElem_cons_succ, List.setIfInBounds_toArray, List.set_cons_zero, List.set_cons_succ]
          refine wpAnyH_take (i := 7) (v := ?_) rfl (by kernel_rfl) (by kernel_rfl) (by kernel_rfl) (fun _ _ _ h => h) (Or.inl ⟨by rfl, ?_⟩) (by assumption) ?_
          rotate_left
          · intro w' hSw
            (try dsimp only at hSw)
            go_simp
            try with_reducible rfl
          simp only [Act.put, List.getElem_toArray, List.getElem_cons_zero, List.getElem_cons_succ, List.setIfInBounds_toArray, List.set_cons_zero, List.set_cons_succ]
          refine wpAnyH_take (i := 8) (v := ?_) rfl (by kernel_rfl) (by kernel_rfl) (by kernel_rfl) (fun _ _ _ h => h) (Or.inl ⟨by rfl, ?_⟩) (by assumption) ?_
          rotate_left
          · intro w' hSw
            (try dsimp only at hSw)
            go_simp
            try with_reducible rfl
          simp only [Act.put, List.getElem_toArray, List.getElem_cons_zero, List.getElem_cons_succ, List.setIfInBounds_toArray, List.set_cons_zero, List.set_cons_succ]
          refine wpAnyH_take (i := 9) (v := ?_) rfl (by kernel_rfl) (by kernel_rfl) (by kernel_rfl) (fun _ _ _ h => h) (Or.inl ⟨by rfl, ?_⟩) (by assumption) ?_
          rotate_left
          · intro w' hSw
            (try dsimp only at hSw)
            go_simp
            try with_reducible rfl
          simp only [Act.put, List.getElem_toArray, List.getElem_cons_zero, List.getElem_cons_succ, List.setIfInBounds_toArray, List.set_cons_zero, List.set_cons_succ]
          refine wpAnyH_ready (rs := [10]) (by kernel_rfl) (by simp) ?_
          refine AllReadyH.cons rfl (fun K hK => ?_) AllReadyH.nil
          go_simp
          go_at_call 68; refine hch.mono ?_; rintro e w2 ⟨vh, rfl, hb2, ho2⟩
          go_wp2_with fail
          refine hK.out _ _ ?_ (fun hHeld => ?_)
          · exact KS.out _ hb2
          clear hK K
          obtain ⟨av, cv, rfl, hks2, hcv⟩ := ho2.room
          have hbw2 : Below w1.heap.size w1 w2 := (show Below w1.heap.size w1 w1.drew from ⟨rfl, rfl, rfl, Nat.le_refl _, fun _ _ => rfl⟩).trans hb2
          obtain ⟨nC, hnC⟩ : ∃ x, (C).length = x := ⟨_, rfl⟩
          rw [hnC] at ho2
          have HO2 : Hid (HOwn w2 w1.drew.heap.size (.slice av nC cv) (C)) := ho2
          have HCV : Hid ((C).length ≤ cv) := hcv
          have HNC : Hid ((C).length = nC) := hnC
          have HBW : Hid (Below w1.heap.size w1 w2) := hbw2
          obtain ⟨xs, hown, hat⟩ := (HDO.out.below hbw2).below (below_alloc w2 (.cells #[.int .i64 2, .string px, .slice av nC cv] 40))
          have HAT := hat
          have HBX : Hid (Below B w0 (w2.alloc (.cells #[.int .i64 2, .string px, .slice av nC cv] 40))) := (HBL.out.trans (hbw2.mono HSZ.out)).alloc (by have := hbw2.size; have := HSZ.out; omega) _
          have HLB : Hid (∀ y, u9.ownBlock = some y → B ≤ y ∧ y < w1.heap.size) := fun y hy => by
            obtain ⟨xs1, h1, _⟩ := HDO.out
            exact h1.lt y hy
          have hBw : B ≤ w2.heap.size := by have := hbw2.size; have := HSZ.out; omega
          rw [hnC]
          clear hat ho2 hks2 hcv hnC hbw2
          refine wpAnyH_ready (rs := [11]) (by kernel_rfl) (by simp) ?_
          refine AllReadyH.cons rfl (fun K hK => ?_) AllReadyH.nil
          go_simp
          refine hK.out _ _ ?_ (fun hHeld => ?_)
          · exact KS2.out _ _ HBW.out
          clear hK K
          refine wpAnyH_ready (rs := [12]) (by kernel_rfl) (by simp) ?_
          refine AllReadyH.cons rfl (fun K hK => ?_) AllReadyH.nil
          refine step_append_lies _ (by rfl) _ _ 22 (by rfl) B 40 i0 (.agg #[.int .i64 0, .string ByteArray.empty, .slice none 0 0]) 3 48 Tryz.underlying22 hi0 hz0 hz1 hz2 rfl (by decide) _ _ _ (by rfl) hown ⟨w2.heap.size, 0, none⟩ 1 1 [.int .i64 2, .string px, .slice av nC cv] (by rfl) rfl (cell_three_new _ _ _ _ _) (fun x hx => by simp at hx; rcases hx with rfl | rfl | rfl <;> rfl) (by decide) (by have := HLL.out; unfold maxLen; omega) (by have := HLL.out; omega) (by simp; omega) (w2.heap.size + 1) (by simp) ?_; intro g5 c5 W5 hown5 hgrow5 hat5 hlt5
          refine hK.out _ _ ?_ (fun hHeld => ?_)
          · exact KS3.out _ _ _ HBW.out hgrow5
          clear hK K
          simp only [Act.put, List.getElem_toArray, List.getElem_cons_zero, List.getElem_cons_succ, List.setIfInBounds_toArray, List.set_cons_zero, List.set_cons_succ]
          refine wpAnyH_take (i := 13) (v := ?_) rfl (by kernel_rfl) (by kernel_rfl) (by kernel_rfl) (fun _ _ _ h => h) (Or.inl ⟨by rfl, ?_⟩) (by assumption) ?_
          rotate_left
          · intro w' hSw
            (try dsimp only at hSw)
            go_simp
            try with_reducible rfl
          simp only [Act.put, List.getElem_toArray, List.getElem_cons_zero, List.getElem_cons_succ, List.setIfInBounds_toArray, List.set_cons_zero, List.set_cons_succ]
          refine wpAnyH_done (by kernel_rfl) ?_ _
          have hb5 : Below B w0 W5 := HBX.out.grown hgrow5 (by simp; omega) (fun j hj => (HLB.out j hj).1)
          have hat6 : (Value.slice (some ⟨g5, 0, none⟩) (L.length + 1) c5).ownBlock = u9.ownBlock ∨ (Value.slice (some ⟨g5, 0, none⟩) (L.length + 1) c5).ownBlock = some (w2.alloc (.cells #[.int .i64 2, .string px, .slice av nC cv] 40)).heap.size := by
            rcases hat5 with h | h
            · exact .inl h.symm
            · refine .inr ?_
              rw [h]; simp [Value.ownBlock]
          have hdo5 : DOwn W5 B (.slice (some ⟨g5, 0, none⟩) (L.length + 1) c5) (L ++ [(2, px, C)]) := by
            refine DOwn.snoc (ah := av) (ch := cv) hown HAT (by rw [HNC.out]; exact hown5) hgrow5 hat6 HCV.out (fun w9 hg9 => ?_)
            have hg8 : Gr w2 w9 u9.ownBlock := hg9.of_below (below_alloc w2 _)
            have h9 := HO2.out.gr hg8 (fun r hr => by have := (HLB.out r hr).2; have : w1.drew.heap.size = w1.heap.size := rfl; omega)
            obtain ⟨a9, c9, e9, k9, _⟩ := h9.room
            simp only [Value.slice.injEq] at e9
            rw [e9.1]
            exact k9
          have HD5 : Hid (DOwn W5 B (.slice (some ⟨g5, 0, none⟩) (L.length + 1) c5) (L ++ [(2, px, C)])) := hdo5
          have HB5 : Hid (Below B w0 W5) := hb5
          clear hdo5 hb5 hat6 hat5 hgrow5 hown5 hown HAT HO2 HCV HNC HBW HBX HLB hlt5 KS KS2 KS3 KS0 hch hHeld
          go_wp2
          go_roundw
          case rel => exact ⟨A, M', L ++ [(2, px, C)], a1, fa (some ⟨b1, o1, none⟩) c2 1, c1, c2 - 1, by rw [HNM2.out], by rw [HnB.out], hc1, HCC.out, HB5.out, HFA.out, HT.out, HD5.out, HDS2.out⟩
          case measure => have := LnA.out; simp [lenV]; omega
      · replace h2 : iaB (y :: M') A = false := by simpa using h2
        obtain ⟨x, A', rfl⟩ : ∃ x A', A = x :: A' := by
          cases A with
          | nil => cases h2
          | cons x A' => exact ⟨x, A', rfl⟩
        have hfx := HFA.out
        obtain ⟨b1, o1, hax⟩ := hfx.addr (i := 0) (by simp)
        subst hax
        obtain ⟨am, cm, x1, x2, xs0, xcm⟩ := hfx.at (i := 0) (by simp)
        rw [Nat.zero_mul, Nat.add_zero] at x1 x2
        replace x1 : w0.cell? ⟨b1, o1, none⟩ = some (.string x.1) := x1
        replace x2 : w0.cell? ⟨b1, o1 + 1, none⟩ = some (.slice am x.2.length cm) := x2
        replace xs0 : Strs w0 am x.2 := xs0
        have xok := HDS.out.okA x (by simp)
        obtain ⟨xp, xl⟩ := fOne_zero xok
        have xp20 := (fOne_small xok).1
        have xb : b1 < B := by rw [← HB.out]; exact World.block_lt_of_cell? _ _ x1
        have hfy := HFM.out
        obtain ⟨b2, o2, hay⟩ := hfy.addr (i := 0) (by simp)
        subst hay
        obtain ⟨an, cn, y1, y2, ys0, ycm⟩ := hfy.at (i := 0) (by simp)
        rw [Nat.zero_mul, Nat.add_zero] at y1 y2
        replace y1 : w0.cell? ⟨b2, o2, none⟩ = some (.string y.1) := y1
        replace y2 : w0.cell? ⟨b2, o2 + 1, none⟩ = some (.slice an y.2.length cn) := y2
        replace ys0 : Strs w0 an y.2 := ys0
        have yok := HDS.out.okM y (by simp)
        obtain ⟨yp, yl⟩ := fOne_zero yok
        have yp20 := (fOne_small yok).1
        have yb : b2 < B := by rw [← HB.out]; exact World.block_lt_of_cell? _ _ y1
        have HCH : Hid (∀ w', Below B w0 w' → Calls Tryz.prog 68 #[.int .i64 1, .string x.1, .slice am x.2.length cm, .slice an y.2.length cn, .int .i64 n] w' fun e w'' => ∃ vh, e = .returned (.agg #[.int .i64 1, .string x.1, vh]) ∧ Below w'.heap.size w' w'' ∧ HOwn w'' w'.heap.size vh (cut (scr x.2 y.2) n)) := fun w' h => changeOf 1 x.1 am an x.2 y.2 cm cn n w' (xs0.below (by rw [HB.out]; exact h)) (ys0.below (by rw [HB.out]; exact h)) (ff_of xl yl) hn xp20
        have HEQ : Hid (∀ w', Below B w0 w' → Calls Tryz.prog 69 #[.slice am x.2.length cm, .slice an y.2.length cn] w' fun e w'' => e = .returned (.bool (decide (x.2 = y.2))) ∧ Below w'.heap.size w' w'') := fun w' h => equalS am an x.2 y.2 cm cn w' (xs0.below (by rw [HB.out]; exact h)) (ys0.below (by rw [HB.out]; exact h)) (by have := (fOne_small xok).2.1; unfold maxLen; omega)
        have HDS2 : Hid (x.2 ≠ y.2 → Dst l m n A' M' (L ++ [(1, x.1, cut (scr x.2 y.2) n)])) := fun h => HDS.out.edit hi h2 h
        have HDS3 : Hid (x.2 = y.2 → Dst l m n A' M' L) := fun h => HDS.out.keep hi h2 h
        have HT : Hid (Fls w0 (fa (some ⟨b1, o1, none⟩) c1 1) A') := fls_tail HFA.out hc1
        have HT2 : Hid (Fls w0 (fa (some ⟨b2, o2, none⟩) c2 1) M') := fls_tail HFM.out hc2
        have hs1 := fun w => run_files_from (some ⟨b1, o1, none⟩) (x :: A').length c1 1 (by simp) w 1 rfl
        have hs2 := fun w => run_files_from (some ⟨b2, o2, none⟩) (y :: M').length c2 1 (by simp) w 1 rfl
        have HCC : Hid (A'.length ≤ c1 - 1 ∧ M'.length ≤ c2 - 1) := by show A'.length ≤ c1 - 1 ∧ M'.length ≤ c2 - 1; rw [List.length_cons] at hc1 hc2; omega
        obtain ⟨px, hpx⟩ : ∃ q, x.1 = q := ⟨_, rfl⟩
        obtain ⟨nx, hnx⟩ : ∃ q, x.2.length = q := ⟨_, rfl⟩
        obtain ⟨ny, hny⟩ : ∃ q, y.2.length = q := ⟨_, rfl⟩
        obtain ⟨C, hC⟩ : ∃ C, cut (scr x.2 y.2) n = C := ⟨_, rfl⟩
        rw [hpx] at x1 HCH HDS2
        rw [hnx] at x2 HCH HEQ
        rw [hny] at y2 HCH HEQ
        rw [hC] at HCH HDS2
        have KS0 : Hid (∀ w', Below B w0 w' → w'.cell? ⟨b1, o1, none⟩ = some (.string px) ∧ w'.cell? ⟨b1, o1 + 1, none⟩ = some (.slice am nx cm) ∧ w'.cell? ⟨b2, o2 + 1, none⟩ = some (.slice an ny cn)) := fun w' h => ⟨cell_later (by rw [HB.out]; exact h) x1, cell_later (by rw [HB.out]; exact h) x2, cell_later (by rw [HB.out]; exact h) y2⟩
        obtain ⟨nA, hnA⟩ : ∃ k, (x :: A').length = k := ⟨_, rfl⟩
        obtain ⟨nB, hnB⟩ : ∃ k, A'.length = k := ⟨_, rfl⟩
        have HnB : Hid (A'.length = nB) := hnB
        have enA : nA - 1 = nB := by rw [← hnA, ← hnB]; rfl
        have gnA : (0 : Int) < nA := by rw [← hnA, List.length_cons]; omega
        have LnA : Hid (nB < nA) := by show nB < nA; rw [← hnA, ← hnB, List.length_cons]; omega
        obtain ⟨nM, hnM⟩ : ∃ k, (y :: M').length = k := ⟨_, rfl⟩
        obtain ⟨nN, hnN⟩ : ∃ k, M'.length = k := ⟨_, rfl⟩
        have HnN : Hid (M'.length = nN) := hnN
        have enM : nM - 1 = nN := by rw [← hnM, ← hnN]; rfl
        have gnM : (0 : Int) < nM := by rw [← hnM, List.length_cons]; omega
        have LnM : Hid (nN < nM) := by show nN < nM; rw [← hnM, ← hnN, List.length_cons]; omega
        have hah := HAH1.out
        rw [hi, hnA, hnM] at hah
        rw [h2, hnA, hnM] at HAH2
        rw [hnA, enA] at hs1
        rw [hnM, enM] at hs2
        rw [hnA, hnM]
        clear hfx x1 x2 xs0 xcm xok xp xl xp20 hfy y1 y2 ys0 ycm yok yp yl yp20 hpx hnx hny hC hnA hnB hnM hnN HFA HFM HAH1 enA enM
        go_wp2_with (go_at_call 67; refine hah.mono ?_)
        rintro e wq ⟨rfl, hbwq⟩
        have hah2 := HAH2.out wq hbwq
        clear hah HAH2
        go_wp2_with (go_at_call 67; refine hah2.mono ?_; rintro e wz ⟨rfl, hbwz⟩)
        replace hbwz := hbwq.trans (hbwz.mono hbwq.size)
        have hbw1 : Below wr.heap.size wr wz.drew := hbwz.trans ((show Below wz.heap.size wz wz.drew from ⟨rfl, rfl, rfl, Nat.le_refl _, fun _ _ => rfl⟩).mono hbwz.size)
        have hbd : Below B w0 wz.drew := HBL.out.trans (hbw1.mono HSZ.out)
        have heq := HEQ.out wz.drew hbd
        have KZ : Hid (∀ w', Below wz.drew.heap.size wz.drew w' → w'.cell? ⟨b1, o1, none⟩ = some (.string px) ∧ w'.cell? ⟨b1, o1 + 1, none⟩ = some (.slice am nx cm) ∧ w'.cell? ⟨b2, o2 + 1, none⟩ = some (.slice an ny cn)) := fun w' h => KS0.out _ (hbd.trans (h.mono (by have := hbd.size; have := HB.out; omega)))
        obtain ⟨r, hr⟩ : ∃ r, decide (x.2 = y.2) = r := ⟨_, rfl⟩
        rw [hr] at heq
        have HR : Hid (decide (x.2 = y.2) = r) := hr
        clear hah2 hbwq hbwz hbd HEQ hr
        go_wp2
        refine wp_region_held_drew (S := fun w' => w'.cell? ⟨b1, o1, none⟩ = some (.string px) ∧ w'.cell? ⟨b1, o1 + 1, none⟩ = some (.slice am nx cm) ∧ w'.cell? ⟨b2, o2 + 1, none⟩ = some (.slice an ny cn)) (by kernel_rfl) ?_ (fun hHeld => ?_)
        · exact KZ.out _ (Below.refl _ _)
        refine wpAnyH_take (i := 0) (v := ?_) rfl (by kernel_rfl) (by kernel_rfl) (by kernel_rfl) (fun _ _ _ h => h) (Or.inl ⟨by rfl, ?_⟩) (by assumption) ?_
        rotate_left
        · intro w' hSw
          (try dsimp only at hSw)
          go_simp
          try with_reducible rfl
        simp only [Act.put, List.getElem_toArray, List.getElem_cons_zero, List.setIfInBounds_toArray, List.set_cons_zero, List.set_cons_succ]
        refine wpAnyH_take (i := 1) (v := ?_) rfl (by kernel_rfl) (by kernel_rfl) (by kernel_rfl) (fun _ _ _ h => h) (Or.inl ⟨by rfl, ?_⟩) (by assumption) ?_
        rotate_left
        · intro w' hSw
          (try dsimp only at hSw)
          go_simp
          try first | (rw [if_pos (by omega)]) | (with_reducible rfl)
        simp only [Act.put, List.getElem_toArray, List.getElem_cons_zero, List.getElem_cons_succ, List.setIfInBounds_toArray, List.set_cons_zero, List.set_cons_succ]
        refine wpAnyH_take (i := 2) (v := ?_) rfl (by kernel_rfl) (by kernel_rfl) (by kernel_rfl) (fun _ _ _ h => h) (Or.inl ⟨by rfl, ?_⟩) (by assumption) ?_
        rotate_left
        · intro w' hSw
          (try dsimp only at hSw)
          go_simp
          try with_reducible rfl
        simp only [Act.put, List.getElem_toArray, List.getElem_cons_zero, List.getElem_cons_succ, List.setIfInBounds_toArray, List.set_cons_zero, List.set_cons_succ]
        refine wpAnyH_take (i := 3) (v := ?_) rfl (by kernel_rfl) (by kernel_rfl) (by kernel_rfl) (fun _ _ _ h => h) (Or.inl ⟨by rfl, ?_⟩) (by assumption) ?_
        rotate_left
        · intro w' hSw
          (try dsimp only at hSw)
          go_simp
          try with_reducible rfl
        simp only [Act.put, List.getElem_toArray, List.getElem_cons_zero, List.getElem_cons_succ, List.setIfInBounds_toArray, List.set_cons_zero, List.set_cons_succ]
        refine wpAnyH_take (i := 4) (v := ?_) rfl (by kernel_rfl) (by kernel_rfl) (by kernel_rfl) (fun _ _ _ h => h) (Or.inl ⟨by rfl, ?_⟩) (by assumption) ?_
        rotate_left
        · intro w' hSw
          (try dsimp only at hSw)
          go_simp
          try with_reducible rfl
        simp only [Act.put, List.getElem_toArray, List.getElem_cons_zero, List.getElem_cons_succ, List.setIfInBounds_toArray, List.set_cons_zero, List.set_cons_succ]
        refine wpAnyH_take (i := 5) (v := ?_) rfl (by kernel_rfl) (by kernel_rfl) (by kernel_rfl) (fun _ _ _ h => h) (Or.inl ⟨by rfl, ?_⟩) (by assumption) ?_
        rotate_left
        · intro w' hSw
          (try dsimp only at hSw)
          go_simp
          try first | (rw [if_pos (by omega)]) | (with_reducible rfl)
        simp only [Act.put, List.getElem_toArray, List.getElem_cons_zero, List.getElem_cons_succ, List.setIfInBounds_toArray, List.set_cons_zero, List.set_cons_succ]
        refine wpAnyH_take (i := 6) (v := ?_) rfl (by kernel_rfl) (by kernel_rfl) (by kernel_rfl) (fun _ _ _ h => h) (Or.inl ⟨by rfl, ?_⟩) (by assumption) ?_
        rotate_left
        · intro w' hSw
          (try dsimp only at hSw)
          go_simp
          try with_reducible rfl
        simp only [Act.put, List.getElem_toArray, List.getElem_cons_zero, List.getElem_cons_succ, List.setIfInBounds_toArray, List.set_cons_zero, List.set_cons_succ]
        refine wpAnyH_take (i := 7) (v := ?_) rfl (by kernel_rfl) (by kernel_rfl) (by kernel_rfl) (fun _ _ _ h => h) (Or.inl ⟨by rfl, ?_⟩) (by assumption) ?_
        rotate_left
        · intro w' hSw
          (try dsimp only at hSw)
          go_simp
          try with_reducible rfl
        simp only [Act.put, List.getElem_toArray, List.getElem_cons_zero, List.getElem_cons_succ, List.setIfInBounds_toArray, List.set_cons_zero, List.set_cons_succ]
        refine wpAnyH_ready (rs := [8]) (by kernel_rfl) (by simp) ?_
        refine AllReadyH.cons rfl (fun K hK => ?_) AllReadyH.nil
        go_simp
        go_at_call 69; refine heq.mono ?_; rintro e w1 ⟨rfl, hbe⟩
        go_wp2_with fail
        refine hK.out _ _ ?_ (fun hHeld => ?_)
        · exact KZ.out _ hbe
        clear hK K
        refine wpAnyH_take (i := 9) (v := ?_) rfl (by kernel_rfl) (by kernel_rfl) (by kernel_rfl) (fun _ _ _ h => h) (Or.inl ⟨by rfl, ?_⟩) (by assumption) ?_
        rotate_left
        · intro w' hSw
          (try dsimp only at hSw)
          go_simp
          try with_reducible rfl
        simp only [Act.put, List.getElem_toArray, List.getElem_cons_zero, List.getElem_cons_succ, List.setIfInBounds_toArray, List.set_cons_zero, List.set_cons_succ]
        refine wpAnyH_done (by kernel_rfl) ?_ _
        replace hbw1 := hbw1.trans (hbe.mono hbw1.size)
        clear KZ heq hHeld hbe
        have HDO : Hid (DOwn w1 B u9 L) := HDO.out.below hbw1
        have HBL : Hid (Below B w0 w1) := HBL.out.trans (hbw1.mono HSZ.out)
        have HSZ : Hid (B ≤ w1.heap.size) := by show B ≤ w1.heap.size; have := hbw1.size; have := HSZ.out; omega
        have KS : Hid (∀ w', Below w1.drew.heap.size w1.drew w' → w'.cell? ⟨b1, o1, none⟩ = some (.string px) ∧ w'.cell? ⟨b1, o1 + 1, none⟩ = some (.slice am nx cm) ∧ w'.cell? ⟨b2, o2 + 1, none⟩ = some (.slice an ny cn)) := fun w' h => KS0.out w' (HBL.out.trans (((show Below w1.heap.size w1 w1.drew from ⟨rfl, rfl, rfl, Nat.le_refl _, fun _ _ => rfl⟩).trans h).mono HSZ.out))
        have KS2 : Hid (∀ w2 o, Below w1.heap.size w1 w2 → (w2.alloc o).cell? ⟨b1, o1, none⟩ = some (.string px) ∧ (w2.alloc o).cell? ⟨b1, o1 + 1, none⟩ = some (.slice am nx cm) ∧ (w2.alloc o).cell? ⟨b2, o2 + 1, none⟩ = some (.slice an ny cn)) := fun w2 o h => KS0.out _ (HBL.out.trans ((h.trans ((below_alloc w2 o).mono h.size)).mono HSZ.out))
        have KS3 : Hid (∀ w2 o W5, Below w1.heap.size w1 w2 → (w2.alloc o).grownBy W5 u9.ownBlock → W5.cell? ⟨b1, o1, none⟩ = some (.string px) ∧ W5.cell? ⟨b1, o1 + 1, none⟩ = some (.slice am nx cm) ∧ W5.cell? ⟨b2, o2 + 1, none⟩ = some (.slice an ny cn)) := fun w2 o W5 h hg => by
          obtain ⟨z1, z2, z3⟩ := KS2.out w2 o h
          have nb1 : some b1 ≠ u9.ownBlock := fun e => by
            obtain ⟨xs1, h1, _⟩ := HDO.out
            have := (h1.lt b1 e.symm).1
            omega
          have nb2 : some b2 ≠ u9.ownBlock := fun e => by
            obtain ⟨xs1, h1, _⟩ := HDO.out
            have := (h1.lt b2 e.symm).1
            omega
          exact ⟨hg.cell z1 nb1, hg.cell z2 nb1, hg.cell z3 nb2⟩
        cases r
        · have HNE : Hid (x.2 ≠ y.2) := of_decide_eq_false HR.out
          have HDS4 : Hid (Dst l m n A' M' (L ++ [(1, px, C)])) := HDS2.out HNE.out
          have hch := HCH.out w1.drew (below_drawn HBL.out)
          clear hbw1 HCH
          go_wp2
          refine wp_region_held_drew (S := fun w' => w'.cell? ⟨b1, o1, none⟩ = some (.string px) ∧ w'.cell? ⟨b1, o1 + 1, none⟩ = some (.slice am nx cm) ∧ w'.cell? ⟨b2, o2 + 1, none⟩ = some (.slice an ny cn)) (by kernel_rfl) ?_ (fun hHeld => ?_)
          · exact KS.out _ (Below.refl _ _)
          refine wpAnyH_take (i := 0) (v := ?_) rfl (by kernel_rfl) (by kernel_rfl) (by kernel_rfl) (fun _ _ _ h => h) (Or.inl ⟨by rfl, ?_⟩) (by assumption) ?_
          rotate_left
          · intro w' hSw
            (try dsimp only at hSw)
            go_simp
            try with_reducible rfl
          simp only [Act.put, List.getElem_toArray, List.getElem_cons_zero, List.setIfInBounds_toArray, List.set_cons_zero, List.set_cons_succ]
          refine wpAnyH_take (i := 1) (v := ?_) rfl (by kernel_rfl) (by kernel_rfl) (by kernel_rfl) (fun _ _ _ h => h) (Or.inl ⟨by rfl, ?_⟩) (by assumption) ?_
          rotate_left
          · intro w' hSw
            (try dsimp only at hSw)
            go_simp
            try with_reducible rfl
          simp only [Act.put, List.getElem_toArray, List.getElem_cons_zero, List.getElem_cons_succ, List.setIfInBounds_toArray, List.set_cons_zero, List.set_cons_succ]
          refine wpAnyH_take (i := 2) (v := ?_) rfl (by kernel_rfl) (by kernel_rfl) (by kernel_rfl) (fun _ _ _ h => h) (Or.inl ⟨by rfl, ?_⟩) (by assumption) ?_
          rotate_left
          · intro w' hSw
            (try dsimp only at hSw)
            go_simp
            try first | (rw [if_pos (by omega)]) | (with_reducible rfl)
          simp only [Act.put, List.getElem_toArray, List.getElem_cons_zero, List.getElem_cons_succ, List.setIfInBounds_toArray, List.set_cons_zero, List.set_cons_succ]
          refine wpAnyH_take (i := 3) (v := ?_) rfl (by kernel_rfl) (by kernel_rfl) (by kernel_rfl) (fun _ _ _ h => h) (Or.inl ⟨by rfl, ?_⟩) (by assumption) ?_
          rotate_left
          · intro w' hSw
            (try dsimp only at hSw)
            go_simp
            try with_reducible rfl
          simp only [Act.put, List.getElem_toArray, List.getElem_cons_zero, List.getElem_cons_succ, List.setIfInBounds_toArray, List.set_cons_zero, List.set_cons_succ]
          refine wpAnyH_take (i := 4) (v := ?_) rfl (by kernel_rfl) (by kernel_rfl) (by kernel_rfl) (fun _ _ _ h => h) (Or.inl ⟨by rfl, ?_⟩) (by assumption) ?_
          rotate_left
          · intro w' hSw
            (try dsimp only at hSw)
            go_simp
            try with_reducible rfl
          simp only [Act.put, List.getElem_toArray, List.getElem_cons_zero, List.getElem_cons_succ, List.setIfInBounds_toArray, List.set_cons_zero, List.set_cons_succ]
          refine wpAnyH_take (i := 5) (v := ?_) rfl (by kernel_rfl) (by kernel_rfl) (by kernel_rfl) (fun _ _ _ h => h) (Or.inl ⟨by rfl, ?_⟩) (by assumption) ?_
          rotate_left
          · intro w' hSw
            (try dsimp only at hSw)
            go_simp
            try with_reducible rfl
          simp only [Act.put, List.getElem_toArray, List.getElem_cons_zero, List.getElem_cons_succ, List.setIfInBounds_toArray, List.set_cons_zero, List.set_cons_succ]
          refine wpAnyH_take (i := 6) (v := ?_) rfl (by kernel_rfl) (by kernel_rfl) (by kernel_rfl) (fun _ _ _ h => h) (Or.inl ⟨by rfl, ?_⟩) (by assumption) ?_
          rotate_left
          · intro w' hSw
            (try dsimp only at hSw)
            go_simp
            try first | (rw [if_pos (by omega)]) | (with_reducible rfl)
          simp only [Act.put, List.getElem_toArray, List.getElem_cons_zero, List.getElem_cons_succ, List.setIfInBounds_toArray, List.set_cons_zero, List.set_cons_succ]
          refine wpAnyH_take (i := 7) (v := ?_) rfl (by kernel_rfl) (by kernel_rfl) (by kernel_rfl) (fun _ _ _ h => h) (Or.inl ⟨by rfl, ?_⟩) (by assumption) ?_
          rotate_left
          · intro w' hSw
            (try dsimp only at hSw)
            go_simp
            try with_reducible rfl
          simp only [Act.put, List.getElem_toArray, List.getElem_cons_zero, List.getElem_cons_succ, List.setIfInBounds_toArray, List.set_cons_zero, List.set_cons_succ]
          refine wpAnyH_take (i := 8) (v := ?_) rfl (by kernel_rfl) (by kernel_rfl) (by kernel_rfl) (fun _ _ _ h => h) (Or.inl ⟨by rfl, ?_⟩) (by assumption) ?_
          rotate_left
          · intro w' hSw
            (try dsimp only at hSw)
            go_simp
            try with_reducible rfl
          simp only [Act.put, List.getElem_toArray, List.getElem_cons_zero, List.getElem_cons_succ, List.setIfInBounds_toArray, List.set_cons_zero, List.set_cons_succ]
          refine wpAnyH_take (i := 9) (v := ?_) rfl (by kernel_rfl) (by kernel_rfl) (by kernel_rfl) (fun _ _ _ h => h) (Or.inl ⟨by rfl, ?_⟩) (by assumption) ?_
          rotate_left
          · intro w' hSw
            (try dsimp only at hSw)
            go_simp
            try with_reducible rfl
          simp only [Act.put, List.getElem_toArray, List.getElem_cons_zero, List.getElem_cons_succ, List.setIfInBounds_toArray, List.set_cons_zero, List.set_cons_succ]
          refine wpAnyH_take (i := 10) (v := ?_) rfl (by kernel_rfl) (by kernel_rfl) (by kernel_rfl) (fun _ _ _ h => h) (Or.inl ⟨by rfl, ?_⟩) (by assumption) ?_
          rotate_left
          · intro w' hSw
            (try dsimp only at hSw)
            go_simp
            try first | (rw [if_pos (by omega)]) | (with_reducible rfl)
          simp only [Act.put, List.getElem_toArray, List.getElem_cons_zero, List.getElem_cons_succ, List.setIfInBounds_toArray, List.set_cons_zero, List.set_cons_succ]
          refine wpAnyH_take (i := 11) (v := ?_) rfl (by kernel_rfl) (by kernel_rfl) (by kernel_rfl) (fun _ _ _ h => h) (Or.inl ⟨by rfl, ?_⟩) (by assumption) ?_
          rotate_left
          · intro w' hSw
            (try dsimp only at hSw)
            go_simp
            try with_reducible rfl
          simp only [Act.put, List.getElem_toArray, List.getElem_cons_zero, List.getElem_cons_succ, List.setIfInBounds_toArray, List.set_cons_zero, List.set_cons_succ]
          refine wpAnyH_take (i := 12) (v := ?_) rfl (by kernel_rfl) (by kernel_rfl) (by kernel_rfl) (fun _ _ _ h => h) (Or.inl ⟨by rfl, ?_⟩) (by assumption) ?_
          rotate_left
          · intro w' hSw
            (try dsimp only at hSw)
            go_simp
            try with_reducible rfl
          simp only [Act.put, List.getElem_toArray, List.getElem_cons_zero, List.getElem_cons_succ, List.setIfInBounds_toArray, List.set_cons_zero, List.set_cons_succ]
          refine wpAnyH_take (i := 13) (v := ?_) rfl (by kernel_rfl) (by kernel_rfl) (by kernel_rfl) (fun _ _ _ h => h) (Or.inl ⟨by rfl, ?_⟩) (by assumption) ?_
          rotate_left
          · intro w' hSw
            (try dsimp only at hSw)
            go_simp
            try with_reducible rfl
          simp only [Act.put, List.getElem_toArray, List.getElem_cons_zero, List.getElem_cons_succ, List.setIfInBounds_toArray, List.set_cons_zero, List.set_cons_succ]
          refine wpAnyH_ready (rs := [14]) (by kernel_rfl) (by simp) ?_
          refine AllReadyH.cons rfl (fun K hK => ?_) AllReadyH.nil
          go_simp
          go_at_call 68; refine hch.mono ?_; rintro e w2 ⟨vh, rfl, hb2, ho2⟩
          go_wp2_with fail
          refine hK.out _ _ ?_ (fun hHeld => ?_)
          · exact KS.out _ hb2
          clear hK K
          obtain ⟨av, cv, rfl, hks2, hcv⟩ := ho2.room
          have hbw2 : Below w1.heap.size w1 w2 := (show Below w1.heap.size w1 w1.drew from ⟨rfl, rfl, rfl, Nat.le_refl _, fun _ _ => rfl⟩).trans hb2
          obtain ⟨nC, hnC⟩ : ∃ x, (C).length = x := ⟨_, rfl⟩
          rw [hnC] at ho2
          have HO2 : Hid (HOwn w2 w1.drew.heap.size (.slice av nC cv) (C)) := ho2
          have HCV : Hid ((C).length ≤ cv) := hcv
          have HNC : Hid ((C).length = nC) := hnC
          have HBW : Hid (Below w1.heap.size w1 w2) := hbw2
          obtain ⟨xs, hown, hat⟩ := (HDO.out.below hbw2).below (below_alloc w2 (.cells #[.int .i64 1, .string px, .slice av nC cv] 40))
          have HAT := hat
          have HBX : Hid (Below B w0 (w2.alloc (.cells #[.int .i64 1, .string px, .slice av nC cv] 40))) := (HBL.out.trans (hbw2.mono HSZ.out)).alloc (by have := hbw2.size; have := HSZ.out; omega) _
          have HLB : Hid (∀ y, u9.ownBlock = some y → B ≤ y ∧ y < w1.heap.size) := fun y hy => by
            obtain ⟨xs1, h1, _⟩ := HDO.out
            exact h1.lt y hy
          have hBw : B ≤ w2.heap.size := by have := hbw2.size; have := HSZ.out; omega
          rw [hnC]
          clear hat ho2 hks2 hcv hnC hbw2
          refine wpAnyH_ready (rs := [15]) (by kernel_rfl) (by simp) ?_
          refine AllReadyH.cons rfl (fun K hK => ?_) AllReadyH.nil
          go_simp
          refine hK.out _ _ ?_ (fun hHeld => ?_)
          · exact KS2.out _ _ HBW.out
          clear hK K
          refine wpAnyH_ready (rs := [16]) (by kernel_rfl) (by simp) ?_
          refine AllReadyH.cons rfl (fun K hK => ?_) AllReadyH.nil
          refine step_append_lies _ (by rfl) _ _ 22 (by rfl) B 40 i0 (.agg #[.int .i64 0, .string ByteArray.empty, .slice none 0 0]) 3 48 Tryz.underlying22 hi0 hz0 hz1 hz2 rfl (by decide) _ _ _ (by rfl) hown ⟨w2.heap.size, 0, none⟩ 1 1 [.int .i64 1, .string px, .slice av nC cv] (by rfl) rfl (cell_three_new _ _ _ _ _) (fun x hx => by simp at hx; rcases hx with rfl | rfl | rfl <;> rfl) (by decide) (by have := HLL.out; unfold maxLen; omega) (by have := HLL.out; omega) (by simp; omega) (w2.heap.size + 1) (by simp) ?_; intro g5 c5 W5 hown5 hgrow5 hat5 hlt5
          refine hK.out _ _ ?_ (fun hHeld => ?_)
          · exact KS3.out _ _ _ HBW.out hgrow5
          clear hK K
          simp only [Act.put, List.getElem_toArray, List.getElem_cons_zero, List.getElem_cons_succ, List.setIfInBounds_toArray, List.set_cons_zero, List.set_cons_succ]
          refine wpAnyH_take (i := 17) (v := ?_) rfl (by kernel_rfl) (by kernel_rfl) (by kernel_rfl) (fun _ _ _ h => h) (Or.inl ⟨by rfl, ?_⟩) (by assumption) ?_
          rotate_left
          · intro w' hSw
            (try dsimp only at hSw)
            go_simp
            try with_reducible rfl
          simp only [Act.put, List.getElem_toArray, List.getElem_cons_zero, List.getElem_cons_succ, List.setIfInBounds_toArray, List.set_cons_zero, List.set_cons_succ]
          refine wpAnyH_done (by kernel_rfl) ?_ _
          have hb5 : Below B w0 W5 := HBX.out.grown hgrow5 (by simp; omega) (fun j hj => (HLB.out j hj).1)
          have hat6 : (Value.slice (some ⟨g5, 0, none⟩) (L.length + 1) c5).ownBlock = u9.ownBlock ∨ (Value.slice (some ⟨g5, 0, none⟩) (L.length + 1) c5).ownBlock = some (w2.alloc (.cells #[.int .i64 1, .string px, .slice av nC cv] 40)).heap.size := by
            rcases hat5 with h | h
            · exact .inl h.symm
            · refine .inr ?_
              rw [h]; simp [Value.ownBlock]
          have hdo5 : DOwn W5 B (.slice (some ⟨g5, 0, none⟩) (L.length + 1) c5) (L ++ [(1, px, C)]) := by
            refine DOwn.snoc (ah := av) (ch := cv) hown HAT (by rw [HNC.out]; exact hown5) hgrow5 hat6 HCV.out (fun w9 hg9 => ?_)
            have hg8 : Gr w2 w9 u9.ownBlock := hg9.of_below (below_alloc w2 _)
            have h9 := HO2.out.gr hg8 (fun r hr => by have := (HLB.out r hr).2; have : w1.drew.heap.size = w1.heap.size := rfl; omega)
            obtain ⟨a9, c9, e9, k9, _⟩ := h9.room
            simp only [Value.slice.injEq] at e9
            rw [e9.1]
            exact k9
          have HD5 : Hid (DOwn W5 B (.slice (some ⟨g5, 0, none⟩) (L.length + 1) c5) (L ++ [(1, px, C)])) := hdo5
          have HB5 : Hid (Below B w0 W5) := hb5
          clear hdo5 hb5 hat6 hat5 hgrow5 hown5 hown HAT HO2 HCV HNC HBW HBX HLB hlt5 KS KS2 KS3 KS0 hch hHeld
          go_wp2
          go_quiet (fail)
          go_wp2
          have HD6 := HD5.out.below (show Below W5.heap.size W5 W5.drew from ⟨rfl, rfl, rfl, Nat.le_refl _, fun _ _ => rfl⟩)
          go_roundw
          case rel => exact ⟨A', M', L ++ [(1, px, C)], fa (some ⟨b1, o1, none⟩) c1 1, fa (some ⟨b2, o2, none⟩) c2 1, c1 - 1, c2 - 1, by rw [HnB.out], by rw [HnN.out], HCC.out.1, HCC.out.2, below_drawn HB5.out, HT.out, HT2.out, HD6, HDS4.out⟩
          case measure => have := LnA.out; have := LnM.out; simp [lenV]; omega
        · have HDS4 : Hid (Dst l m n A' M' L) := HDS3.out (of_decide_eq_true HR.out)
          clear hbw1 HCH KS KS2 KS3 KS0
          go_wp2
          go_quiet (fail)
          go_wp2
          have HD6 := HDO.out.below (show Below w1.heap.size w1 w1.drew from ⟨rfl, rfl, rfl, Nat.le_refl _, fun _ _ => rfl⟩)
          go_roundw
          case rel => exact ⟨A', M', L, fa (some ⟨b1, o1, none⟩) c1 1, fa (some ⟨b2, o2, none⟩) c2 1, c1 - 1, c2 - 1, by rw [HnB.out], by rw [HnN.out], HCC.out.1, HCC.out.2, below_drawn HBL.out, HT.out, HT2.out, HD6, HDS4.out⟩
          case measure => have := LnA.out; have := LnM.out; simp [lenV]; omega

end Go.Proofs.YtnkdmgekpajfhadGreatDoor

namespace Go.Proofs.YtnkdmgekpajfhadGreatDoor
open Go.RowKit Dist

/-- A fault among three numbers, or none. -/
theorem nz_dfs {a b : List Fl} {n : Int} : nz (dfs a b n) = [] ↔ (tf a).2 = 0 ∧ (tf b).2 = 0 ∧ 0 ≤ n ∧ n ≤ 1000 := by
  unfold nz dfs
  rw [List.filter_eq_nil_iff]
  constructor
  · intro h
    have h1 := h (tf a).2 (by simp)
    have h2 := h (tf b).2 (by simp)
    have h3 := h (if n < 0 ∨ 1000 < n then 1 else 0) (by simp)
    simp at h1 h2
    refine ⟨h1, h2, ?_⟩
    by_cases e : n < 0 ∨ 1000 < n
    · rw [if_pos e] at h3; simp at h3
    · omega
  · rintro ⟨h1, h2, h3, h4⟩ x hx
    rw [h1, h2, if_neg (by omega)] at hx
    simp at hx
    simp [hx]

set_option maxHeartbeats 1000000 in
theorem diff_bad (aa ab : Option Addr) (l m : List Fl) (ca cb : Nat) (n : Int) (w : World) (ha : Fls w aa l) (hb : Fls w ab m) (h1 : l.length ≤ maxLen) (h2 : ∀ x ∈ l, x.2.length ≤ maxLen) (h3 : m.length ≤ maxLen) (h4 : ∀ x ∈ m, x.2.length ≤ maxLen) (hne : nz (dfs l m n) ≠ []) :
    Calls Tryz.prog 44 #[.slice aa l.length ca, .slice ab m.length cb, .int .i64 n] w fun e w' => ∃ J v B, e = .returned (.tuple #[.slice none 0 0, .iface 205 (.pointer (some ⟨J, 0, none⟩))]) ∧ Below w.heap.size w w' ∧ w'.cell? ⟨J, 0, none⟩ = some v ∧ w'.ownsRow B 28 1 v (nz (dfs l m n)).length ((nz (dfs l m n)).map errV) := by
  have hck := checkDiffOf aa ab l m ca cb n w ha hb h1 h2 h3 h4
  obtain ⟨D, hD⟩ : ∃ D, nz (dfs l m n) = D := ⟨_, rfl⟩
  obtain ⟨nl, hnl⟩ : ∃ x, l.length = x := ⟨_, rfl⟩
  obtain ⟨nm, hnm⟩ : ∃ x, m.length = x := ⟨_, rfl⟩
  rw [hD, hnl, hnm] at hck
  rw [hD] at hne
  rw [hD, hnl, hnm]
  have HNE : Hid (D ≠ []) := hne
  clear ha hb h1 h2 h3 h4 hne hD hnl hnm
  go_enter Tryz.func44, Tryz.ntmps44
  go_wp2_with (go_at_call 66; refine hck.mono ?_; rintro e w0 ⟨hb0, _, g1⟩; obtain ⟨J, v, B, rfl, q1, q2⟩ := g1 HNE.out; clear g1)
  have Q1 : Hid (w0.cell? ⟨J, 0, none⟩ = some v) := q1
  have Q2 : Hid (w0.ownsRow B 28 1 v D.length (D.map errV)) := q2
  clear hck q1 q2
  go_wp2
  go_ret2
  exact ⟨J, v, B, rfl, hb0, Q1.out, Q2.out⟩

end Go.Proofs.YtnkdmgekpajfhadGreatDoor

namespace Go.Proofs.YtnkdmgekpajfhadGreatDoor
open Go.RowKit Dist

/-- The first fault that keeps two trees from being compared. -/
def df1 (a b : List Fl) (n : Int) : Int := if (tf a).2 ≠ 0 then (tf a).2 else if (tf b).2 ≠ 0 then (tf b).2 else if n < 0 ∨ 1000 < n then 1 else 0

theorem nz_first {a b : List Fl} {n : Int} (h : nz (dfs a b n) ≠ []) : df1 a b n ≠ 0 ∧ ∃ r, nz (dfs a b n) = df1 a b n :: r := by
  unfold df1
  unfold nz dfs at h ⊢
  by_cases h1 : (tf a).2 = 0
  · rw [if_neg (fun e => e h1)]
    by_cases h2 : (tf b).2 = 0
    · rw [if_neg (fun e => e h2)]
      by_cases h3 : n < 0 ∨ 1000 < n
      · rw [if_pos h3]
        refine ⟨by decide, [], ?_⟩
        simp [h1, h2]
      · rw [if_neg h3] at h
        simp [h1, h2] at h
    · rw [if_pos h2]
      refine ⟨h2, List.filter (fun f => decide (f ≠ 0)) [if n < 0 ∨ 1000 < n then 1 else 0], ?_⟩
      rw [List.filter_cons_of_neg (by simp [h1]), List.filter_cons_of_pos (by simp [h2])]
  · rw [if_pos h1]
    refine ⟨h1, List.filter (fun f => decide (f ≠ 0)) [(tf b).2, if n < 0 ∨ 1000 < n then 1 else 0], ?_⟩
    rw [List.filter_cons_of_pos (by simp [h1])]

/-- The first of what was joined, where it lies. -/
theorem join_cells {w : World} {B : Nat} {v : Value} {f : Int} {r : List Int} (hf : f ≠ 0) (h : w.ownsRow B 28 1 v (f :: r).length ((f :: r).map errV)) : ∃ g m c, v = .slice (some ⟨g, 0, none⟩) m c ∧ 0 < m ∧ w.cell? ⟨g, 0, none⟩ = some (.iface 23 (.int .i64 f)) := by
  rcases h.2 with ⟨_, h0⟩ | ⟨g, cap, cur, rfl, _, hh, _, _, _, ht⟩
  · simp at h0
  · refine ⟨g, _, cap, rfl, by simp, ?_⟩
    have hc : w.cell? ⟨g, 0, none⟩ = ((f :: r).map errV)[0]? := by
      rw [Lib.cell_of_heap hh, ← Array.getElem?_toList, ← ht, List.getElem?_take, if_pos (by simp)]
    rw [hc]
    simp [errV_not hf]

/-- An error that tells a fault. -/
def Erd (w : World) (v : Value) (f : Int) : Prop := (f = 0 ∧ v = .nilIface) ∨ (f ≠ 0 ∧ v = .iface 23 (.int .i64 f)) ∨ (f ≠ 0 ∧ ∃ J g k c, v = .iface 205 (.pointer (some ⟨J, 0, none⟩)) ∧ w.cell? ⟨J, 0, none⟩ = some (.slice (some ⟨g, 0, none⟩) k c) ∧ 0 < k ∧ w.cell? ⟨g, 0, none⟩ = some (.iface 23 (.int .i64 f)))
theorem Erd.zero (w : World) : Erd w .nilIface 0 := .inl ⟨rfl, rfl⟩
theorem Erd.err (w : World) (f : Int) : Erd w (errV f) f := by
  by_cases h : f = 0
  · subst h; exact .inl ⟨rfl, rfl⟩
  · exact .inr (.inl ⟨h, errV_not h⟩)
theorem Erd.below {w w' : World} {v : Value} {f : Int} (h : Erd w v f) (hb : Below w.heap.size w w') : Erd w' v f := by
  rcases h with h | h | ⟨h, J, g, k, c, e, h1, h2, h3⟩
  · exact .inl h
  · exact .inr (.inl h)
  · exact .inr (.inr ⟨h, J, g, k, c, e, cell_later hb h1, h2, cell_later hb h3⟩)

end Go.Proofs.YtnkdmgekpajfhadGreatDoor
