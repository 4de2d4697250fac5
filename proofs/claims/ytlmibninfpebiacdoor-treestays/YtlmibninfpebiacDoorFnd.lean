/-
  Walks of the closure in tree.place, of tree.place, tree.has and tree.find: where a path stands in a tree.
-/
import Derived.Test.YtlmibninfpebiacDoorTck
import Derived.Test.YtlmibninfpebiacDoorSrch

namespace Go.Proofs.YtlmibninfpebiacDoor
open Go.RowKit Go.Shelf Go.Lib Go.Sort

set_option maxHeartbeats 400000 in
theorem placeAt (ba bx b off ca n : Nat) (x p : ByteArray) (i : Nat) (W : World) (hi : i < n)
    (ha : W.cell? ⟨ba, 0, none⟩ = some (.slice (some ⟨b, off, none⟩) n ca)) (hx : W.cell? ⟨bx, 0, none⟩ = some (.string p)) (hc : W.cell? ⟨b, off + i * 2, none⟩ = some (.string x)) :
    Calls Tryd.prog 33 (#[.int .i64 i] ++ #[.pointer (some ⟨ba, 0, none⟩), .pointer (some ⟨bx, 0, none⟩)]) W fun e w' => e = .returned (.bool (!bl x p)) ∧ ∃ q, w' = W.drewN q := by
  have HR : Hid (∀ r, Op.bytesLess x.toList p.toList = r → bl x p = r) := fun r h => h
  obtain ⟨r, hr⟩ : ∃ r, Op.bytesLess x.toList p.toList = r := ⟨_, rfl⟩
  rw [HR.out r hr]
  clear HR
  go_enter Tryd.func33, Tryd.ntmps33
  go_wp2
  go_quiet (fail)
  go_wp2
  go_ret
  exact ⟨rfl, _, rfl⟩

set_option maxHeartbeats 1000000 in
theorem placeOf (a : Option Addr) (l : List Fl) (ca : Nat) (p : ByteArray) (w : World) (ha : Fls w a l) (hr : Ris l) (hl : l.length ≤ 1000) :
    Calls Tryd.prog 25 #[.slice a l.length ca, .string p] w fun e w' => e = .returned (.int .i64 (pl l p)) ∧ Below w.heap.size w w' := by
  obtain ⟨W0, hW0⟩ : ∃ W0, W0 = (w.alloc (.cells #[.slice a l.length ca] 22)).alloc (.cells #[.string p] 9) := ⟨_, rfl⟩
  have hsize : W0.heap.size = w.heap.size + 1 + 1 := by rw [hW0]; simp
  have hb0 : Below w.heap.size w W0 := by rw [hW0]; exact ((Below.refl _ _).alloc (Nat.le_refl _) _).alloc (by simp) _
  have c1 : W0.cell? ⟨w.heap.size, 0, none⟩ = some (.slice a l.length ca) := by rw [hW0]; exact cell_alloc_sl _ (cell_new_sl w _ _)
  have c2 : W0.cell? ⟨w.heap.size + 1, 0, none⟩ = some (.string p) := by rw [hW0]; have := cell_new_sl (w.alloc (.cells #[.slice a l.length ca] 22)) (.string p) 9; rwa [World.size_alloc] at this
  have eg : ∀ args w, (callFunc 33 args).run Tryd.prog w = .ok (.enter 33 args) w := enters_of Tryd.func33 (by kernel_rfl) rfl
  have hmf : ∀ (fn : Fn) (first cap : Array Value) (w : World), (Instr.makeFunc fn first cap).run Tryd.prog w = .ok (.func fn first cap) w := fun _ _ _ _ => rfl
  have hS := Any.sort_Search (P := Tryd.prog) Tryd.search 33 #[.pointer (some ⟨w.heap.size, 0, none⟩), .pointer (some ⟨w.heap.size + 1, 0, none⟩)] l.length (fun i => !bl (l.getD i fz).1 p) W0 eg (by omega)
    (fun m os i hi => by
      have h0 := ha.below hb0
      obtain ⟨b, off, rfl⟩ := ha.addr hi
      obtain ⟨am, cm, h1, _⟩ := h0.at hi
      exact (placeAt w.heap.size (w.heap.size + 1) b off ca l.length _ p i _ hi (cell_grown (by simp [hsize]; omega) c1 m os) (cell_grown (by simp [hsize]) c2 m os) (cell_grown (World.block_lt_of_cell? _ _ h1) h1 m os)).mono
        fun _ _ ⟨he, q, hq⟩ => ⟨he, q, #[], by rw [hq, grow_empty]⟩)
    (fun a b hab hb h => hr.mono_at hab hb h)
  rw [pl_range] at hS
  change Calls Tryd.prog 32 _ _ _ at hS
  obtain ⟨n, hn⟩ : ∃ n, l.length = n := ⟨_, rfl⟩
  obtain ⟨r, hrr⟩ : ∃ r, pl l p = r := ⟨_, rfl⟩
  rw [hn] at hS hW0 hl
  rw [hrr] at hS
  rw [hn, hrr]
  have HW0 : Hid (W0 = (w.alloc (.cells #[.slice a n ca] 22)).alloc (.cells #[.string p] 9)) := hW0
  have HB0 : Hid (Below w.heap.size w W0) := hb0
  clear ha hr c1 c2 eg hsize hW0 hb0 hn hrr
  go_enter Tryd.func25, Tryd.ntmps25
  go_wp2_with (go_at_call 32; rw [← HW0.out]; refine hS.mono ?_; rintro e w' ⟨rfl, q, os, rfl⟩)
  go_ret
  refine ⟨rfl, ?_⟩
  exact HB0.out.trans ((below_grown_sl _ W0 q os (Nat.le_refl _)).mono HB0.out.size)

set_option maxHeartbeats 400000 in
theorem hasAt (a : Option Addr) (l : List Fl) (ca i : Nat) (p : ByteArray) (w : World) (ha : Fls w a l) :
    Calls Tryd.prog 26 #[.slice a l.length ca, .int .i64 i, .string p] w fun e w' => e = .returned (.bool (decide (i < l.length) && decide ((l.getD i fz).1 = p))) ∧ w' = w := by
  by_cases hi : i < l.length
  · rw [decide_eq_true hi, Bool.true_and]
    obtain ⟨b, off, rfl⟩ := ha.addr hi
    obtain ⟨am, cm, h1, _⟩ := ha.at hi
    rw [← ba_beq]
    obtain ⟨x, hx⟩ : ∃ x, (l.getD i fz).1 = x := ⟨_, rfl⟩
    obtain ⟨n, hn⟩ : ∃ n, l.length = n := ⟨_, rfl⟩
    rw [hx] at h1 ⊢
    rw [hn] at hi ⊢
    obtain ⟨r, hr⟩ : ∃ r, (x.toList == p.toList) = r := ⟨_, rfl⟩
    rw [hr]
    clear ha hx hn
    go_enter Tryd.func26, Tryd.ntmps26
    go_wp2
    go_ret
    exact ⟨rfl, rfl⟩
  · rw [decide_eq_false hi, Bool.false_and]
    obtain ⟨n, hn⟩ : ∃ n, l.length = n := ⟨_, rfl⟩
    rw [hn] at hi ⊢
    clear ha hn
    go_enter Tryd.func26, Tryd.ntmps26
    go_wp2
    go_ret
    exact ⟨rfl, rfl⟩

/-- Whether a path is in a tree. -/
theorem hasPl {l : List Fl} (hr : Ris l) (p : ByteArray) : (decide (pl l p < l.length) && decide ((l.getD (pl l p) fz).1 = p)) = !decide (eqs l p = []) := by
  by_cases h : eqs l p = []
  · rw [decide_eq_true h]
    by_cases h2 : pl l p < l.length
    · rw [decide_eq_false (hr.none_at h h2)]; simp
    · rw [decide_eq_false h2]; rfl
  · obtain ⟨_, h2, h3, _⟩ := hr.drop_more h
    rw [decide_eq_true h2, decide_eq_true h3, decide_eq_false h]; rfl

/-- Where a path is found. -/
def fi (l : List Fl) (p : ByteArray) : Nat := if gf l p = 0 then pl l p else 0

theorem fi_of {l : List Fl} {p : ByteArray} (h : gf l p = 0) : fi l p = pl l p := by unfold fi; rw [if_pos h]
theorem fi_not {l : List Fl} {p : ByteArray} (h : gf l p ≠ 0) : fi l p = 0 := by unfold fi; rw [if_neg h]

set_option maxRecDepth 100000 in
set_option maxHeartbeats 1000000 in
theorem findOf (a : Option Addr) (l : List Fl) (ca : Nat) (p : ByteArray) (w : World) (ha : Fls w a l) (hm : l.length ≤ maxLen) (hms : ∀ x ∈ l, x.2.length ≤ maxLen) :
    Calls Tryd.prog 20 #[.slice a l.length ca, .string p] w fun e w' => e = .returned (.tuple #[.int .i64 (fi l p), errV (gf l p)]) ∧ Below w.heap.size w w' := by
  have hck := treeCheck a l ca w ha hm hms
  have HPA := fun w' => path_any p w'
  by_cases h1 : (tf l).2 = 0
  · obtain ⟨t1, t2, _⟩ := tf_zero h1
    rw [h1, errV_zero] at hck
    by_cases h2 : pf p.data.toList = 0
    · have HPL := fun w' (h : Fls w' a l) => placeOf a l ca p w' h t2 (by omega)
      have HHA := fun w' (h : Fls w' a l) => hasAt a l ca (pl l p) p w' h
      rw [hasPl t2] at HHA
      have G1 : Hid (eqs l p = [] → gf l p = 4) := gf_none h1 h2
      have G2 : Hid (eqs l p ≠ [] → gf l p = 0) := gf_of h1 h2
      have F1 : Hid (gf l p = 0 → fi l p = pl l p) := fi_of
      have F2 : Hid (gf l p ≠ 0 → fi l p = 0) := fi_not
      have HA : Hid (Fls w a l) := ha
      rw [h2, errV_zero] at HPA
      obtain ⟨n, hn⟩ : ∃ n, l.length = n := ⟨_, rfl⟩
      obtain ⟨k, hk⟩ : ∃ k, pl l p = k := ⟨_, rfl⟩
      obtain ⟨t, ht⟩ : ∃ t, (tf l).1 = t := ⟨_, rfl⟩
      rw [hn, ht] at hck
      rw [hn, hk] at HPL HHA
      rw [hk] at F1
      rw [hn]
      clear ha hm hms hn hk h1 h2 t1 t2 ht
      by_cases h3 : eqs l p = []
      · have HG : Hid (gf l p = 4) := G1.out h3
        rw [decide_eq_true h3] at HHA
        clear h3 G1 G2
        go_enter Tryd.func20, Tryd.ntmps20
        go_wp2_with (go_at_call 6; refine hck.mono ?_)
        rintro e w1 ⟨rfl, hb1⟩
        have hpa := HPA w1
        clear hck HPA
        go_wp2_with (go_at_call 27; refine hpa.mono ?_)
        rintro e w2 ⟨rfl, hb2⟩
        have hb2 := hb1.trans (hb2.mono hb1.size)
        have hpl := HPL w2 (HA.out.below hb2)
        clear hpa HPL hb1
        go_wp2_with (go_at_call 25; refine hpl.mono ?_)
        rintro e w3 ⟨rfl, hb3⟩
        have hb3 := hb2.trans (hb3.mono hb2.size)
        have hha := HHA w3 (HA.out.below hb3)
        clear hpl HHA hb2
        go_wp2_with (go_at_call 26; refine hha.mono ?_)
        rintro e w4 ⟨rfl, rfl⟩
        clear hha
        go_wp2
        go_ret2
        refine ⟨?_, hb3⟩
        rw [F2.out (by rw [HG.out]; decide), HG.out]; rfl
      · have HG : Hid (gf l p = 0) := G2.out h3
        rw [decide_eq_false h3] at HHA
        clear h3 G1 G2
        go_enter Tryd.func20, Tryd.ntmps20
        go_wp2_with (go_at_call 6; refine hck.mono ?_)
        rintro e w1 ⟨rfl, hb1⟩
        have hpa := HPA w1
        clear hck HPA
        go_wp2_with (go_at_call 27; refine hpa.mono ?_)
        rintro e w2 ⟨rfl, hb2⟩
        have hb2 := hb1.trans (hb2.mono hb1.size)
        have hpl := HPL w2 (HA.out.below hb2)
        clear hpa HPL hb1
        go_wp2_with (go_at_call 25; refine hpl.mono ?_)
        rintro e w3 ⟨rfl, hb3⟩
        have hb3 := hb2.trans (hb3.mono hb2.size)
        have hha := HHA w3 (HA.out.below hb3)
        clear hpl HHA hb2
        go_wp2_with (go_at_call 26; refine hha.mono ?_)
        rintro e w4 ⟨rfl, rfl⟩
        clear hha
        go_wp2
        go_ret2
        refine ⟨?_, hb3⟩
        rw [F1.out HG.out, HG.out]; rfl
    · have HG : Hid (gf l p = pf p.data.toList) := gf_path h1 h2
      have HF : Hid (fi l p = 0) := fi_not (by rw [HG.out]; exact h2)
      have H2 : Hid (pf p.data.toList ≠ 0) := h2
      rw [errV_not h2] at HPA
      obtain ⟨n, hn⟩ : ∃ n, l.length = n := ⟨_, rfl⟩
      obtain ⟨t, ht⟩ : ∃ t, (tf l).1 = t := ⟨_, rfl⟩
      rw [hn, ht] at hck
      rw [hn]
      clear ha hm hms hn h1 h2 t1 t2 ht
      go_enter Tryd.func20, Tryd.ntmps20
      go_wp2_with (go_at_call 6; refine hck.mono ?_)
      rintro e w1 ⟨rfl, hb1⟩
      have hpa := HPA w1
      clear hck HPA
      go_wp2_with (go_at_call 27; refine hpa.mono ?_)
      rintro e w2 ⟨rfl, hb2⟩
      have hb2 := hb1.trans (hb2.mono hb1.size)
      clear hpa hb1
      go_wp2
      go_ret2
      refine ⟨?_, hb2⟩
      rw [HF.out, HG.out, errV_not H2.out]; rfl
  · have HG : Hid (gf l p = (tf l).2) := gf_tree h1
    have HF : Hid (fi l p = 0) := fi_not (by rw [HG.out]; exact h1)
    have H1 : Hid ((tf l).2 ≠ 0) := h1
    rw [errV_not h1] at hck
    obtain ⟨n, hn⟩ : ∃ n, l.length = n := ⟨_, rfl⟩
    obtain ⟨t, ht⟩ : ∃ t, (tf l).1 = t := ⟨_, rfl⟩
    rw [hn, ht] at hck
    rw [hn]
    clear ha hm hms hn h1 ht HPA
    go_enter Tryd.func20, Tryd.ntmps20
    go_wp2_with (go_at_call 6; refine hck.mono ?_)
    rintro e w1 ⟨rfl, hb1⟩
    clear hck
    go_wp2
    go_ret2
    refine ⟨?_, hb1⟩
    rw [HF.out, HG.out, errV_not H1.out]; rfl

end Go.Proofs.YtlmibninfpebiacDoor
