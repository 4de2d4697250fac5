/-
  Walks of tree.Get and tree.Drop: the lines of a path; the tree without it.
-/
import Derived.Test.YtlmibninfpebiacDoorCop
import Derived.Test.YtlmibninfpebiacDoorFnd

namespace Go.Proofs.YtlmibninfpebiacDoor
open Go.RowKit

set_option maxRecDepth 100000 in
set_option maxHeartbeats 1000000 in
theorem getOf (a : Option Addr) (l : List Fl) (ca : Nat) (p : ByteArray) (w : World) (ha : Fls w a l) (hm : l.length ≤ maxLen) (hms : ∀ x ∈ l, x.2.length ≤ maxLen) :
    Calls Tryd.prog 11 #[.slice a l.length ca, .string p] w fun e w' => ∃ g c, e = .returned (.tuple #[.slice g (gl l p).length c, errV (gf l p)]) ∧ Strs w' g (gl l p) ∧ Below w.heap.size w w' := by
  have hfi := findOf a l ca p w ha hm hms
  by_cases h : gf l p = 0
  · obtain ⟨h1, h2, h3⟩ := gf_zero h
    obtain ⟨t1, t2, t3⟩ := tf_zero h1
    obtain ⟨_, hlt, _, _⟩ := t2.drop_more h3
    obtain ⟨_, s2, s3⟩ := fOne_small (t3 _ (mem_getDf hlt))
    rw [h, errV_zero, fi_of h] at hfi
    rw [gl_of h, h, errV_zero]
    obtain ⟨b, off, rfl⟩ := ha.addr hlt
    obtain ⟨am, cm, _, hc2, hst, _⟩ := ha.at hlt
    have HCP := fun w (h : Strs w am (l.getD (pl l p) fz).2) => copied am (l.getD (pl l p) fz).2 cm w h s2 s3
    have HST : Hid (Strs w am (l.getD (pl l p) fz).2) := hst
    obtain ⟨ss, hss⟩ : ∃ ss, (l.getD (pl l p) fz).2 = ss := ⟨_, rfl⟩
    obtain ⟨n, hn⟩ : ∃ n, l.length = n := ⟨_, rfl⟩
    obtain ⟨k, hk⟩ : ∃ k, pl l p = k := ⟨_, rfl⟩
    rw [hss] at hc2 HCP HST ⊢
    rw [hk] at hfi hc2 hlt
    rw [hn] at hfi hlt ⊢
    obtain ⟨q, hq⟩ : ∃ q, ss.length = q := ⟨_, rfl⟩
    rw [hq] at hc2 HCP ⊢
    have hkn : (k : Int) < n := by omega
    clear ha hm hms hst h h1 h2 h3 t1 t2 t3 s2 s3 hss hn hk hq
    go_enter Tryd.func11, Tryd.ntmps11
    go_wp2_with (go_at_call 20; refine hfi.mono ?_)
    rintro e w1 ⟨rfl, hb1⟩
    replace hc2 := cell_later hb1 hc2
    have hcp := HCP w1 (HST.out.below hb1)
    clear hfi HCP
    go_wp2_with (go_at_call 21; refine hcp.mono ?_)
    rintro e w2 ⟨rfl, hb2, hs2⟩
    have hb2 := hb1.trans (hb2.mono hb1.size)
    clear hcp hb1
    go_wp2
    go_ret2
    exact ⟨_, _, rfl, hs2, hb2⟩
  · rw [fi_not h, errV_not h] at hfi
    rw [gl_not h, errV_not h]
    obtain ⟨n, hn⟩ : ∃ n, l.length = n := ⟨_, rfl⟩
    obtain ⟨f, hf⟩ : ∃ f, gf l p = f := ⟨_, rfl⟩
    rw [hn, hf] at hfi
    rw [hn, hf]
    clear ha hm hms h hn hf
    go_enter Tryd.func11, Tryd.ntmps11
    go_wp2_with (go_at_call 20; refine hfi.mono ?_)
    rintro e w1 ⟨rfl, hb1⟩
    clear hfi
    go_wp2
    go_ret2
    exact ⟨none, 0, rfl, fun i hi => absurd hi (Nat.not_lt_zero _), hb1⟩

theorem fts_two (w : World) (a b : Option Addr) (xs ys : List Fl) (ca cb : Nat) (t : TypeId) (ha : Fls w a xs) (hb : Fls w b ys) : Fts (w.alloc (.cells #[.slice a xs.length ca, .slice b ys.length cb] t)) (some ⟨w.heap.size, 0, none⟩) [xs, ys] := by
  intro i hi
  have hblk := heap_alloc_new w (.cells #[.slice a xs.length ca, .slice b ys.length cb] t)
  have hbl := below_alloc w (.cells #[.slice a xs.length ca, .slice b ys.length cb] t)
  match i, hi with
  | 0, _ => exact ⟨_, 0, a, ca, rfl, by rw [Lib.cell_of_heap hblk]; rfl, ha.below hbl⟩
  | 1, _ => exact ⟨_, 0, b, cb, rfl, by rw [Lib.cell_of_heap hblk]; rfl, hb.below hbl⟩

theorem fts_three (w : World) (a b d : Option Addr) (xs ys zs : List Fl) (ca cb cd : Nat) (t : TypeId) (ha : Fls w a xs) (hb : Fls w b ys) (hd : Fls w d zs) : Fts (w.alloc (.cells #[.slice a xs.length ca, .slice b ys.length cb, .slice d zs.length cd] t)) (some ⟨w.heap.size, 0, none⟩) [xs, ys, zs] := by
  intro i hi
  have hblk := heap_alloc_new w (.cells #[.slice a xs.length ca, .slice b ys.length cb, .slice d zs.length cd] t)
  have hbl := below_alloc w (.cells #[.slice a xs.length ca, .slice b ys.length cb, .slice d zs.length cd] t)
  match i, hi with
  | 0, _ => exact ⟨_, 0, a, ca, rfl, by rw [Lib.cell_of_heap hblk]; rfl, ha.below hbl⟩
  | 1, _ => exact ⟨_, 0, b, cb, rfl, by rw [Lib.cell_of_heap hblk]; rfl, hb.below hbl⟩
  | 2, _ => exact ⟨_, 0, d, cd, rfl, by rw [Lib.cell_of_heap hblk]; rfl, hd.below hbl⟩

set_option maxRecDepth 100000 in
set_option maxHeartbeats 4000000 in
theorem dropOf (a : Option Addr) (l : List Fl) (ca : Nat) (p : ByteArray) (w : World) (ha : Fls w a l) (hca : l.length ≤ ca) (hm : l.length ≤ maxLen) (hms : ∀ x ∈ l, x.2.length ≤ maxLen) :
    Calls Tryd.prog 13 #[.slice a l.length ca, .string p] w fun e w' => ∃ g c, e = .returned (.tuple #[.slice g (dl l p).length c, errV (gf l p)]) ∧ Fls w' g (dl l p) ∧ (dl l p).length ≤ c ∧ Below w.heap.size w w' := by
  have hfi := findOf a l ca p w ha hm hms
  by_cases h : gf l p = 0
  · obtain ⟨h1, h2, h3⟩ := gf_zero h
    obtain ⟨t1, t2, t3⟩ := tf_zero h1
    obtain ⟨hdr, hlt, _, _⟩ := t2.drop_more h3
    have htk := t2.take p
    have hsm := dl_small (l := l) (p := p)
    rw [dl_of h] at hsm
    rw [h, errV_zero, fi_of h] at hfi
    rw [dl_of h, h, errV_zero]
    have hfl : [l.take (pl l p), l.drop (pl l p + 1)].flatten = dropM l p := by rw [htk, hdr]; unfold dropM; simp
    have HCP := fun w a' c (h : Fls w a' (dropM l p)) => copyFiles a' (dropM l p) c w h (by have := hsm.1; omega) (fun x hx => fOne_small (hsm.2 x hx))
    have HFR := fun w (h : Fls w a l) => h.front hca (pl l p)
    have HRE := fun w (h : Fls w a l) => h.rest hca (pl l p + 1)
    have hl1 : (l.take (pl l p)).length = pl l p := by rw [List.length_take]; omega
    have hl2 : (l.drop (pl l p + 1)).length = l.length - (pl l p + 1) := List.length_drop
    have HCC := fun (w1 : World) (h : Fls w1.drew a l) => concatF _ _ 2 _ (fts_two w1.drew (fa a ca 0) (fa a ca (pl l p + 1)) _ _ ca (ca - (pl l p + 1)) 22 (HFR _ h) (HRE _ h)) (by rw [hfl]; have := hsm.1; omega) (by simp)
    simp only [hfl, hl1, hl2] at HCC
    have hs1 := fun w => run_files_to a l.length ca (pl l p) (by omega) w (pl l p) rfl
    have hs2 := fun w => run_files_from a l.length ca (pl l p + 1) (by omega) w ((pl l p : Int) + 1) (by omega)
    have HA : Hid (Fls w a l) := ha
    obtain ⟨D, hD⟩ : ∃ D, dropM l p = D := ⟨_, rfl⟩
    obtain ⟨n, hn⟩ : ∃ n, l.length = n := ⟨_, rfl⟩
    obtain ⟨k, hk⟩ : ∃ k, pl l p = k := ⟨_, rfl⟩
    rw [hD] at HCP HCC ⊢
    rw [hk] at hfi HCC hs1 hs2 hlt
    rw [hn] at hfi HCC hs1 hs2 hlt ⊢
    obtain ⟨d, hd⟩ : ∃ d, D.length = d := ⟨_, rfl⟩
    rw [hd] at HCP HCC ⊢
    have hkn : (k : Int) < n := by omega
    have hkl : (k : Int) ≤ 1000 := by omega
    clear ha hm hms h h1 h2 h3 t1 t2 t3 hdr htk hsm hfl HFR HRE hl1 hl2 hD hn hk hd
    go_enter Tryd.func13, Tryd.ntmps13
    go_wp2_with (go_at_call 20; refine hfi.mono ?_)
    rintro e w1 ⟨rfl, hb1⟩
    have hdr : Below w1.heap.size w1 w1.drew := ⟨rfl, rfl, rfl, Nat.le_refl _, fun _ _ => rfl⟩
    have hcc := HCC w1 ((HA.out.below hb1).below hdr)
    have hbd := below_alloc w1.drew (.cells #[.slice (fa a ca 0) k ca, .slice (fa a ca (k + 1)) (n - (k + 1)) (ca - (k + 1))] 22)
    have HBB : Hid (∀ w2, Below (w1.drew.alloc (.cells #[.slice (fa a ca 0) k ca, .slice (fa a ca (k + 1)) (n - (k + 1)) (ca - (k + 1))] 22)).heap.size (w1.drew.alloc (.cells #[.slice (fa a ca 0) k ca, .slice (fa a ca (k + 1)) (n - (k + 1)) (ca - (k + 1))] 22)) w2 → Below w.heap.size w w2) := fun w2 h => hb1.trans ((hdr.trans (hbd.trans (h.mono hbd.size))).mono hb1.size)
    clear hfi HCC hdr hbd
    go_wp2
    have hwr : IntKind.i64.wrap ((k : Int) + 1) = (k : Int) + 1 := by rw [IntKind.wrap_i64]; omega
    go_region_with (first
      | (go_at_call 23; refine hcc.mono ?_; rintro e w2 ⟨a2, c2, rfl, hf2, hb2⟩; have hcp := HCP w2 a2 c2 hf2; replace hb2 := HBB.out _ hb2)
      | (go_at_call 22; refine hcp.mono ?_; rintro e w3 ⟨rfl, hb3, hf3⟩; have hb4 := hb2.trans (hb3.mono hb2.size)))
    all_goals
      clear hcc hcp HCP HBB hs1 hs2
      go_wp2
      go_ret2
      exact ⟨_, _, rfl, hf3, Nat.le_refl _, hb4⟩
  · rw [fi_not h, errV_not h] at hfi
    rw [dl_not h, errV_not h]
    obtain ⟨n, hn⟩ : ∃ n, l.length = n := ⟨_, rfl⟩
    obtain ⟨f, hf⟩ : ∃ f, gf l p = f := ⟨_, rfl⟩
    rw [hn, hf] at hfi
    rw [hn, hf]
    clear ha hm hms h hn hf hca
    go_enter Tryd.func13, Tryd.ntmps13
    go_wp2_with (go_at_call 20; refine hfi.mono ?_)
    rintro e w1 ⟨rfl, hb1⟩
    clear hfi
    go_wp2
    go_ret2
    exact ⟨none, 0, rfl, Fls.nil _ _, Nat.le_refl _, hb1⟩

end Go.Proofs.YtlmibninfpebiacDoor
