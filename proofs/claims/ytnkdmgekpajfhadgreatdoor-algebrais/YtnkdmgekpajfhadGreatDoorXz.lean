/-
  Plain mathematics: two hunks the other way round. Walks of algebra.checkAlone and algebra.place: the fault of a hunk by itself; a hunk with its marks at another place. Walk of algebra.alone: a patch of one change, with other hunks.
-/
import Derived.Test.YtnkdmgekpajfhadGreatDoorPa0
import Derived.Test.YtnkdmgekpajfhadGreatDoorXy
import Derived.Test.YtnkdmgekpajfhadGreatDoorXp
import Derived.Test.YtnkdmgekpajfhadGreatDoorXm
import Derived.Deep.RegionWith
import Derived.Deep.RegionHeld3
import Derived.Deep.DrawnRows

namespace Go.Proofs.YtnkdmgekpajfhadGreatDoor.Dist

def hz : Hk := (0, 0, [])
/-- A hunk that is moved. -/
def shf (h : Hk) (d : Int) : Hk := (h.1 + d, h.2.1 + d, h.2.2)
def ahd (h k : Hk) : Bool := decide (k.1 + ob k.2.2 ≤ h.2.1)
def bhd (h k : Hk) : Bool := decide (h.2.1 + nb h.2.2 ≤ k.1)
/-- Both, one of them moved. -/
def swP (h k : Hk) : Hk × Hk := if ahd h k = true then (shf h ((nb k.2.2 : Int) - ob k.2.2), k) else (h, shf k ((ob h.2.2 : Int) - nb h.2.2))
/-- The fault of a swap; what it answers. -/
def swF (h k : Hk) : Int :=
  if (hf [h]).2 ≠ 0 then (hf [h]).2 else if (hf [k]).2 ≠ 0 then (hf [k]).2 else if ahd h k = bhd h k then 6
  else if (hf [(swP h k).1]).2 ≠ 0 then (hf [(swP h k).1]).2 else (hf [(swP h k).2]).2
def swO (h k : Hk) : Hk × Hk := if swF h k = 0 then ((swP h k).2, (swP h k).1) else (hz, hz)

end Go.Proofs.YtnkdmgekpajfhadGreatDoor.Dist

namespace Go.Proofs.YtnkdmgekpajfhadGreatDoor
open Go.RowKit Dist

/-- A hunk at another place, if it can stand there. -/
def Dist.plO (t : Int) (ms : List (Int × ByteArray)) : Hk := if (hf [(t, t, ms)]).2 = 0 then (t, t, ms) else hz
theorem Dist.plO_ok {t : Int} {ms : List (Int × ByteArray)} (h : (hf [(t, t, ms)]).2 = 0) : plO t ms = (t, t, ms) := by unfold plO; rw [if_pos h]
theorem Dist.plO_bad {t : Int} {ms : List (Int × ByteArray)} (h : (hf [(t, t, ms)]).2 ≠ 0) : plO t ms = hz := by unfold plO; rw [if_neg h]

theorem Mks.set_ne {w : World} {b : Nat} {ms : List (Int × ByteArray)} (h : Mks w (some ⟨b, 0, none⟩) ms) {g : Nat} (hg : g ≠ b) (i : Nat) (v : Value) : Mks (w.setCell ⟨g, i, none⟩ v) (some ⟨b, 0, none⟩) ms := by
  intro k hk
  obtain ⟨b', off, e, h1, h2⟩ := h k hk
  simp only [Option.some.injEq, Addr.mk.injEq] at e
  obtain ⟨rfl, rfl, _⟩ := e
  have hc : ∀ j x, w.cell? ⟨b, j, none⟩ = some x → (w.setCell ⟨g, i, none⟩ v).cell? ⟨b, j, none⟩ = some x := fun j x hx => by
    have e : (w.setCell ⟨g, i, none⟩ v).heap[b]? = w.heap[b]? := by
      simp only [World.setCell, Array.getElem?_modify]
      rw [if_neg hg]
    exact (World.cell?_of_block e).trans hx
  exact ⟨b, 0, rfl, hc _ _ h1, hc _ _ h2⟩
theorem Mks.gr3 {w : World} {b : Nat} {ms : List (Int × ByteArray)} (h : Mks w (some ⟨b, 0, none⟩) ms) {g : Nat} (hg : g ≠ b) (x y z : Value) : Mks (((w.setCell ⟨g, 0, none⟩ x).setCell ⟨g, 1, none⟩ y).setCell ⟨g, 2, none⟩ z) (some ⟨b, 0, none⟩) ms :=
  ((h.set_ne hg 0 x).set_ne hg 1 y).set_ne hg 2 z

/-- Memory that a call has made, or none. -/
def Fsh (N : Nat) (x : Option Addr) : Prop := x = none ∨ ∃ g, x = some ⟨g, 0, none⟩ ∧ N ≤ g
theorem Fsh.mono {N M : Nat} {x : Option Addr} (h : Fsh N x) (hm : M ≤ N) : Fsh M x := by
  rcases h with h | ⟨g, h, hg⟩
  · exact .inl h
  · exact .inr ⟨g, h, Nat.le_trans hm hg⟩
theorem Mks.fsh {w w2 : World} {x : Option Addr} {ms : List (Int × ByteArray)} {N : Nat} {r : Option Nat} (h : Mks w x ms) (hx : Fsh N x) (hg : Gr w w2 r) (hr : ∀ g, r = some g → g < N) : Mks w2 x ms := by
  rcases hx with rfl | ⟨g, rfl, hn⟩
  · intro i hi
    obtain ⟨_, _, e, _⟩ := h i hi
    cases e
  · exact h.gr hg (fun e => by have := hr g e; omega)
theorem gr_three (w : World) (g : Nat) (x y z : Value) : Gr w (((w.setCell ⟨g, 0, none⟩ x).setCell ⟨g, 1, none⟩ y).setCell ⟨g, 2, none⟩ z) (some g) := by
  refine ⟨by simp, fun k _ hne => ?_⟩
  have hg : g ≠ k := fun e => hne (by rw [e])
  simp only [World.setCell, Array.getElem?_modify]
  rw [if_neg hg, if_neg hg, if_neg hg]

set_option maxHeartbeats 400000 in
theorem checkAloneOf (o p : Int) (a : Option Addr) (ms : List (Int × ByteArray)) (ca : Nat) (w : World) (ha : Mks w a ms) (hm : ms.length ≤ maxLen) (hc : ms.length ≤ ca) :
    Calls Tryz.prog 72 #[.agg #[.int .i64 o, .int .i64 p, .slice a ms.length ca]] w fun e w' => e = .returned (errV (hf [(o, p, ms)]).2) ∧ Below w.heap.size w w' := by
  have hb0 := below_alloc w (.cells #[.int .i64 o, .int .i64 p, .slice a ms.length ca] 57)
  have hb00 := below_alloc (w.alloc (.cells #[.int .i64 o, .int .i64 p, .slice a ms.length ca] 57)) (.cells #[.int .i64 o, .int .i64 p, .slice a ms.length ca] 57)
  have hbb := hb0.trans (hb00.mono hb0.size)
  have hh := heap_alloc_new (w.alloc (.cells #[.int .i64 o, .int .i64 p, .slice a ms.length ca] 57)) (.cells #[.int .i64 o, .int .i64 p, .slice a ms.length ca] 57)
  rw [World.size_alloc] at hh
  have hck := hunkCheck (some ⟨w.heap.size + 1, 0, none⟩) [(o, p, ms)] 1 _ (hks_block hh (ha.below hbb) hc) (by unfold maxLen; simp) (fun x hx => by rw [List.mem_singleton] at hx; rw [hx]; exact hm)
  change Calls _ _ #[.slice (some ⟨w.heap.size + 1, 0, none⟩) 1 1] _ _ at hck
  have HBB : Hid (Below w.heap.size w ((w.alloc (.cells #[.int .i64 o, .int .i64 p, .slice a ms.length ca] 57)).alloc (.cells #[.int .i64 o, .int .i64 p, .slice a ms.length ca] 57))) := hbb
  obtain ⟨i, hi⟩ : ∃ i, (hf [(o, p, ms)]).1 = i := ⟨_, rfl⟩
  obtain ⟨f, hf⟩ : ∃ i, (hf [(o, p, ms)]).2 = i := ⟨_, rfl⟩
  obtain ⟨n, hn⟩ : ∃ n, ms.length = n := ⟨_, rfl⟩
  rw [hi, hf, hn] at hck
  rw [hn] at HBB
  rw [hf, hn]
  clear hb0 hb00 hbb hh ha hm hc hi hf hn
  go_enter Tryz.func72, Tryz.ntmps72
  go_wp2_with (go_at_call 52; refine hck.mono ?_)
  rintro e w1 ⟨rfl, hb1⟩
  have hb1 := HBB.out.trans (hb1.mono HBB.out.size)
  clear hck
  go_wp2
  go_ret
  exact ⟨rfl, hb1⟩

set_option maxRecDepth 100000 in
set_option maxHeartbeats 1000000 in
theorem placeOf (o p : Int) (a : Option Addr) (ms : List (Int × ByteArray)) (ca : Nat) (t : Int) (w : World) (ha : Mks w a ms) (hs : sf ms = 0) :
    Calls Tryz.prog 47 #[.agg #[.int .i64 o, .int .i64 p, .slice a ms.length ca], .int .i64 t] w fun e w' => ∃ x c, e = .returned (.tuple #[.agg #[.int .i64 (plO t ms).1, .int .i64 (plO t ms).2.1, .slice x (plO t ms).2.2.length c], errV (hf [(t, t, ms)]).2]) ∧ Mks w' x (plO t ms).2.2 ∧ (plO t ms).2.2.length ≤ c ∧ Fsh w.heap.size x ∧ Below w.heap.size w w' := by
  obtain ⟨hm, hgood⟩ := sf_zero hs
  have ht : ∀ m ∈ ms, m.2.size ≤ 80 := fun m hm => by have := (lf_zero (hgood m hm).2).2; rw [Lib.size_eq]; exact this
  have hb0 := below_alloc w (.cells #[.int .i64 o, .int .i64 p, .slice a ms.length ca] 57)
  have hb00 := below_alloc (w.alloc (.cells #[.int .i64 o, .int .i64 p, .slice a ms.length ca] 57)) (.cells #[.int .i64 0, .int .i64 0, .slice none 0 0] 57)
  have hbb := hb0.trans (hb00.mono hb0.size)
  have hh := heap_alloc_new (w.alloc (.cells #[.int .i64 o, .int .i64 p, .slice a ms.length ca] 57)) (.cells #[.int .i64 0, .int .i64 0, .slice none 0 0] 57)
  rw [World.size_alloc] at hh
  have hs2 : ((w.alloc (.cells #[.int .i64 o, .int .i64 p, .slice a ms.length ca] 57)).alloc (.cells #[.int .i64 0, .int .i64 0, .slice none 0 0] 57)).heap.size = w.heap.size + 1 + 1 := by simp
  have hcp := copyOf a ms ca _ (ha.below hbb) hm ht
  have HCA := fun (c : Nat) (x : Option Addr) w (h : Mks w x ms) (hc : ms.length ≤ c) => checkAloneOf t t x ms c w h (by unfold maxLen; omega) hc
  have HOK : Hid ((hf [(t, t, ms)]).2 = 0 → plO t ms = (t, t, ms)) := plO_ok
  have HBD : Hid ((hf [(t, t, ms)]).2 ≠ 0 → plO t ms = hz) := plO_bad
  obtain ⟨n, hn⟩ : ∃ n, ms.length = n := ⟨_, rfl⟩
  have HN : Hid (ms.length = n) := hn
  rw [hn] at hcp hbb hh hs2 HCA
  rw [hs2] at hcp
  rw [hn]
  obtain ⟨f, hf⟩ : ∃ i, (hf [(t, t, ms)]).2 = i := ⟨_, rfl⟩
  obtain ⟨P, hP⟩ : ∃ i, plO t ms = i := ⟨_, rfl⟩
  rw [hf] at HCA HOK HBD
  rw [hP] at HOK HBD
  rw [hf, hP]
  have HBB : Hid (Below w.heap.size w ((w.alloc (.cells #[.int .i64 o, .int .i64 p, .slice a n ca] 57)).alloc (.cells #[.int .i64 0, .int .i64 0, .slice none 0 0] 57))) := hbb
  have HH : Hid (((w.alloc (.cells #[.int .i64 o, .int .i64 p, .slice a n ca] 57)).alloc (.cells #[.int .i64 0, .int .i64 0, .slice none 0 0] 57)).heap[w.heap.size + 1]? = some (.cells #[.int .i64 0, .int .i64 0, .slice none 0 0] 57 (0, 0))) := hh
  have HS2 : Hid (((w.alloc (.cells #[.int .i64 o, .int .i64 p, .slice a n ca] 57)).alloc (.cells #[.int .i64 0, .int .i64 0, .slice none 0 0] 57)).heap.size = w.heap.size + 1 + 1) := hs2
  clear ha hs hm hgood ht hb0 hb00 hbb hh hs2 hn hf hP
  go_enter Tryz.func47, Tryz.ntmps47
  go_wp2_with (go_at_call 71; refine hcp.mono ?_)
  rintro e w1 ⟨rfl, hb1, hr1⟩
  rw [← HN.out] at hr1
  have hmk := hr1.mks (ms := ms) (fun j _ => ⟨trivial, rfl⟩)
  have hz1 : w.heap.size + 1 + 1 ≤ w1.heap.size := by have := hb1.size; rw [HS2.out] at this; exact this
  have hh1 := blk_below hb1 (by omega) HH.out
  have hb1 := HBB.out.trans (hb1.mono (by omega))
  have hba := below_alloc w1 (.cells #[.int .i64 t, .int .i64 t, .slice (some ⟨w.heap.size + 1 + 1, 0, none⟩) n n] 57)
  have hck := HCA n (some ⟨w.heap.size + 1 + 1, 0, none⟩) _ (hmk.below hba) (Nat.le_refl _)
  have hD := heap_alloc_new w1 (.cells #[.int .i64 t, .int .i64 t, .slice (some ⟨w.heap.size + 1 + 1, 0, none⟩) n n] 57)
  have hR := blk_below hba (by omega) hh1
  have hsz : (w1.alloc (.cells #[.int .i64 t, .int .i64 t, .slice (some ⟨w.heap.size + 1 + 1, 0, none⟩) n n] 57)).heap.size = w1.heap.size + 1 := by simp
  have HM2 : Hid (Mks (w1.alloc (.cells #[.int .i64 t, .int .i64 t, .slice (some ⟨w.heap.size + 1 + 1, 0, none⟩) n n] 57)) (some ⟨w.heap.size + 1 + 1, 0, none⟩) ms) := hmk.below hba
  have HB2 : Hid (Below w.heap.size w (w1.alloc (.cells #[.int .i64 t, .int .i64 t, .slice (some ⟨w.heap.size + 1 + 1, 0, none⟩) n n] 57))) := hb1.trans (hba.mono hb1.size)
  have HD2 : Hid ((w1.alloc (.cells #[.int .i64 t, .int .i64 t, .slice (some ⟨w.heap.size + 1 + 1, 0, none⟩) n n] 57)).heap[w1.heap.size]? = _) := hD
  have HR2 : Hid ((w1.alloc (.cells #[.int .i64 t, .int .i64 t, .slice (some ⟨w.heap.size + 1 + 1, 0, none⟩) n n] 57)).heap[w.heap.size + 1]? = _) := hR
  have HSZ : Hid ((w1.alloc (.cells #[.int .i64 t, .int .i64 t, .slice (some ⟨w.heap.size + 1 + 1, 0, none⟩) n n] 57)).heap.size = w1.heap.size + 1) := hsz
  have HZ1 : Hid (w.heap.size + 1 + 1 ≤ w1.heap.size) := hz1
  clear hcp HCA hr1 hmk hz1 hh1 hb1 hba hD hR hsz HH HS2 HBB
  go_wp2_with (go_at_call 72; refine hck.mono ?_)
  rintro e w2 ⟨rfl, hb2⟩
  have hD := blk_below hb2 (by rw [HSZ.out]; omega) HD2.out
  have hR := blk_below hb2 (by rw [HSZ.out]; have := HZ1.out; omega) HR2.out
  have HM3 : Hid (Mks w2 (some ⟨w.heap.size + 1 + 1, 0, none⟩) ms) := HM2.out.below hb2
  have hz2 : w1.heap.size + 1 ≤ w2.heap.size := by have := hb2.size; rw [HSZ.out] at this; exact this
  have hb3 : Below w.heap.size w w2 := HB2.out.trans (hb2.mono HB2.out.size)
  have z0 := Lib.cell_of_heap hR 0
  have z1 := Lib.cell_of_heap hR 1
  have z2 := Lib.cell_of_heap hR 2
  have d0 := Lib.cell_of_heap hD 0
  have d1 := Lib.cell_of_heap hD 1
  have d2 := Lib.cell_of_heap hD 2
  have g0 := Lib.frozen_of_heap hR 0
  have g1 := Lib.frozen_of_heap hR 1
  have g2 := Lib.frozen_of_heap hR 2
  simp at z0 z1 z2 d0 d1 d2
  clear hck HM2 HB2 HD2 HR2 HSZ hb2 hD hz2
  by_cases h0 : f = 0
  · subst h0
    have hP := HOK.out rfl
    have u := blk_set (i := 2) (blk_set (i := 1) (blk_set (i := 0) hR (.int .i64 t)) (.int .i64 t)) (.slice (some ⟨w.heap.size + 1 + 1, 0, none⟩) n n)
    have v0 := Lib.cell_of_heap u 0
    have v1 := Lib.cell_of_heap u 1
    have v2 := Lib.cell_of_heap u 2
    simp at v0 v1 v2
    have HU : Hid (Below w.heap.size w (((w2.setCell ⟨w.heap.size + 1, 0, none⟩ (.int .i64 t)).setCell ⟨w.heap.size + 1, 1, none⟩ (.int .i64 t)).setCell ⟨w.heap.size + 1, 2, none⟩ (.slice (some ⟨w.heap.size + 1 + 1, 0, none⟩) n n))) := ((hb3.setCell (p := ⟨w.heap.size + 1, 0, none⟩) (by simp) _).setCell (p := ⟨w.heap.size + 1, 1, none⟩) (by simp) _).setCell (p := ⟨w.heap.size + 1, 2, none⟩) (by simp) _
    have HP : Hid (P = (t, t, ms)) := hP
    rw [errV_zero]
    have HMU : Hid (Mks (((w2.setCell ⟨w.heap.size + 1, 0, none⟩ (.int .i64 t)).setCell ⟨w.heap.size + 1, 1, none⟩ (.int .i64 t)).setCell ⟨w.heap.size + 1, 2, none⟩ (.slice (some ⟨w.heap.size + 1 + 1, 0, none⟩) n n)) (some ⟨w.heap.size + 1 + 1, 0, none⟩) ms) := HM3.out.gr3 (by omega) _ _ _
    have HN' : Hid (ms.length = n) := HN.out
    clear hR u hb3 hP HOK HBD hb1 HM3 HZ1 HN
    go_wp2
    refine bodyPost_ret (v := .tuple #[.agg #[.int .i64 t, .int .i64 t, .slice (some ⟨w.heap.size + 1 + 1, 0, none⟩) n n], .nilIface]) (by simp [results, Tryz.results47, go_sem, v0, v1, v2]) rfl ⟨some ⟨w.heap.size + 1 + 1, 0, none⟩, n, ?_, ?_, ?_, .inr ⟨_, rfl, by omega⟩, HU.out⟩
    · rw [HP.out, HN'.out]; rfl
    · rw [HP.out]; exact HMU.out
    · rw [HP.out, HN'.out]; exact Nat.le_refl _
  · have hP := HBD.out h0
    have u := blk_set (i := 2) (blk_set (i := 1) (blk_set (i := 0) hR (.int .i64 0)) (.int .i64 0)) (.slice none 0 0)
    have v0 := Lib.cell_of_heap u 0
    have v1 := Lib.cell_of_heap u 1
    have v2 := Lib.cell_of_heap u 2
    simp at v0 v1 v2
    have HU : Hid (Below w.heap.size w (((w2.setCell ⟨w.heap.size + 1, 0, none⟩ (.int .i64 0)).setCell ⟨w.heap.size + 1, 1, none⟩ (.int .i64 0)).setCell ⟨w.heap.size + 1, 2, none⟩ (.slice none 0 0))) := ((hb3.setCell (p := ⟨w.heap.size + 1, 0, none⟩) (by simp) _).setCell (p := ⟨w.heap.size + 1, 1, none⟩) (by simp) _).setCell (p := ⟨w.heap.size + 1, 2, none⟩) (by simp) _
    have HP : Hid (P = hz) := hP
    have H0 : Hid (f ≠ 0) := h0
    rw [errV_not h0]
    clear hR u hb3 hP HOK HBD hb1 HM3 HZ1 HN h0
    go_wp2
    refine bodyPost_ret (v := .tuple #[.agg #[.int .i64 0, .int .i64 0, .slice none 0 0], .iface 23 (.int .i64 f)]) (by simp [results, Tryz.results47, go_sem, v0, v1, v2]) rfl ⟨none, 0, ?_, ?_, ?_, .inl rfl, HU.out⟩
    · rw [HP.out, errV_not H0.out]; rfl
    · rw [HP.out]; exact fun _ hi => absurd hi (Nat.not_lt_zero _)
    · rw [HP.out]; exact Nat.le_refl _

end Go.Proofs.YtnkdmgekpajfhadGreatDoor

namespace Go.Proofs.YtnkdmgekpajfhadGreatDoor
open Go.RowKit Dist

set_option maxRecDepth 100000 in
set_option maxHeartbeats 1000000 in
theorem aloneOf (wh : Int) (p : ByteArray) (vo : Value) (ah : Option Addr) (q ch : Nat) (w : World) (hp : p.size ≤ 100) :
    Calls Tryz.prog 46 #[.agg #[.int .i64 wh, .string p, vo], .slice ah q ch] w fun e w' => ∃ D, e = .returned (.slice (some ⟨D, 0, none⟩) 1 1) ∧ w.heap.size ≤ D ∧ Below w.heap.size w w' ∧ w'.heap[D]? = some (.cells #[.int .i64 wh, .string p, .slice ah q ch] 40 (0, 0)) := by
  have hcl := fun w => clone p w (by omega)
  have hb0 := below_alloc w (.cells #[.int .i64 wh, .string p, vo] 40)
  have hh := heap_alloc_new w (.cells #[.int .i64 wh, .string p, vo] 40)
  have hs0 : (w.alloc (.cells #[.int .i64 wh, .string p, vo] 40)).heap.size = w.heap.size + 1 := by simp
  go_enter Tryz.func46, Tryz.ntmps46
  go_wp2_with fail
  generalize w.alloc (.cells #[.int .i64 wh, .string p, vo] 40) = W at hb0 hh hs0 ⊢
  have d0 := Lib.cell_of_heap hh 0
  have d1 := Lib.cell_of_heap hh 1
  simp at d0 d1
  have hdr : Below W.heap.size W W.drew := ⟨rfl, rfl, rfl, Nat.le_refl _, fun _ _ => rfl⟩
  have KD : Hid (∀ w2, Below W.drew.heap.size W.drew w2 → w2.cell? ⟨w.heap.size, 0, none⟩ = some (.int .i64 wh) ∧ w2.cell? ⟨w.heap.size, 1, none⟩ = some (.string p)) := fun w2 h => ⟨cell_later h d0, cell_later h d1⟩
  have KB : Hid (∀ w2, Below W.drew.heap.size W.drew w2 → Below w.heap.size w w2) := fun w2 h => hb0.trans ((hdr.trans h).mono (by omega))
  clear hb0 hh hs0 hdr
  go_region_with (go_at_call 70; refine (hcl _).mono ?_; rintro e w2 ⟨rfl, hb2⟩; obtain ⟨d0, d1⟩ := KD.out _ hb2)
  all_goals
    have hbx := KB.out _ hb2
    have hhn := heap_alloc_new w2 (.cells #[.int .i64 wh, .string p, .slice ah q ch] 40)
    have hB : Hid (Below w.heap.size w (w2.alloc (.cells #[.int .i64 wh, .string p, .slice ah q ch] 40))) := hbx.alloc hbx.size _
    have hle : Hid (w.heap.size ≤ w2.heap.size) := hbx.size
    have HH : Hid ((w2.alloc (.cells #[.int .i64 wh, .string p, .slice ah q ch] 40)).heap[w2.heap.size]? = _) := hhn
    clear hbx hhn d0 d1 KD KB hcl
    go_wp2
    go_ret
    exact ⟨w2.heap.size, rfl, hle.out, hB.out, HH.out⟩

end Go.Proofs.YtnkdmgekpajfhadGreatDoor
