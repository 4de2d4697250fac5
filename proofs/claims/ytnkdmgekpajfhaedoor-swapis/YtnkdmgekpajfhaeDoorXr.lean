/-
  Walk of the document's own answer for two hunks the other way round: a hunk that cannot stand. Walk of the document's own answer for two hunks the other way round: neither ahead nor behind, or both. Walk of the document's own answer for two hunks the other way round: ahead. Walk of the document's own answer for two hunks the other way round: behind.
-/
import Derived.Test.YtnkdmgekpajfhaeDoorRsw0
namespace Go.Proofs.YtnkdmgekpajfhaeDoor
open Go.RowKit Dist

set_option maxRecDepth 100000 in
set_option maxHeartbeats 16000000 in
theorem swapRef_bad (h k : Hk) (am : Option Addr) (cm : Nat) (an : Option Addr) (cn : Nat) (w : World) (hm : Mks w am h.2.2) (hl : h.2.2.length ≤ maxLen) (hs : ∀ m ∈ h.2.2, m.2.size ≤ maxLen) (hc : h.2.2.length ≤ cm) (km : Mks w an k.2.2) (kl : k.2.2.length ≤ maxLen) (ks : ∀ m ∈ k.2.2, m.2.size ≤ maxLen) (kc : k.2.2.length ≤ cn) (zb : (hf [h]).2 ≠ 0 ∨ (hf [k]).2 ≠ 0) :
    Calls Tryd.prog 14 #[.agg #[.int .i64 h.1, .int .i64 h.2.1, .slice am h.2.2.length cm], .agg #[.int .i64 k.1, .int .i64 k.2.1, .slice an k.2.2.length cn]] w fun e w' => SwP h k e w' ∧ Below w.heap.size w w' := by
  have ZB : Hid ((hf [h]).2 ≠ 0 ∨ (hf [k]).2 ≠ 0) := zb
  clear zb
  have HFT : Hid (∀ (o n : Int) (W : World) (D : Nat), Below w.heap.size w W → Bx W D o n am h.2.2.length cm → Calls Tryd.prog 35 #[.slice (some ⟨D, 0, none⟩) 1 1] W fun e w' => e = .returned (.tuple #[.int .i64 (hf [(o, n, h.2.2)]).1, .int .i64 (hf [(o, n, h.2.2)]).2]) ∧ Below W.heap.size W w') := fun o n W D hb hx =>
    refHunks (some ⟨D, 0, none⟩) [(o, n, h.2.2)] 1 W (hks_block hx (hm.below hb) hc) (by unfold maxLen; simp) (fun x hx => by rw [List.mem_singleton] at hx; rw [hx]; exact hl) (fun x hx => by rw [List.mem_singleton] at hx; rw [hx]; exact hs)
  have KFT : Hid (∀ (o n : Int) (W : World) (D : Nat), Below w.heap.size w W → Bx W D o n an k.2.2.length cn → Calls Tryd.prog 35 #[.slice (some ⟨D, 0, none⟩) 1 1] W fun e w' => e = .returned (.tuple #[.int .i64 (hf [(o, n, k.2.2)]).1, .int .i64 (hf [(o, n, k.2.2)]).2]) ∧ Below W.heap.size W w') := fun o n W D hb hx =>
    refHunks (some ⟨D, 0, none⟩) [(o, n, k.2.2)] 1 W (hks_block hx (km.below hb) kc) (by unfold maxLen; simp) (fun x hx => by rw [List.mem_singleton] at hx; rw [hx]; exact kl) (fun x hx => by rw [List.mem_singleton] at hx; rw [hx]; exact ks)
  have P0 : Hid (∀ f w', swF h k = f → f ≠ 0 → SwP h k (.returned (.tuple #[.agg #[.int .i64 0, .int .i64 0, .slice none 0 0], .agg #[.int .i64 0, .int .i64 0, .slice none 0 0], .int .i64 f])) w') := fun f w' e hf => SwP.bad e hf w'
  have HM : Hid (Mks w am h.2.2) := hm
  have KM : Hid (Mks w an k.2.2) := km
  obtain ⟨B, hB⟩ : ∃ B, w.heap.size = B := ⟨_, rfl⟩
  obtain ⟨p1, hp1⟩ : ∃ p, (hf [h]).1 = p := ⟨_, rfl⟩
  obtain ⟨f1, hf1⟩ : ∃ p, (hf [h]).2 = p := ⟨_, rfl⟩
  obtain ⟨p2, hp2⟩ : ∃ p, (hf [k]).1 = p := ⟨_, rfl⟩
  obtain ⟨f2, hf2⟩ : ∃ p, (hf [k]).2 = p := ⟨_, rfl⟩
  have E1 : Hid (f1 ≠ 0 → swF h k = f1) := fun e => by rw [← hf1]; exact swF_h (by rw [hf1]; exact e)
  have E2 : Hid (f1 = 0 → f2 ≠ 0 → swF h k = f2) := fun e0 e => by rw [← hf2]; exact swF_k (by rw [hf1]; exact e0) (by rw [hf2]; exact e)
  have H1 : Hid ((hf [h]).2 = f1) := hf1
  have H2 : Hid ((hf [k]).2 = f2) := hf2
  have HF1 := fun (W : World) (D : Nat) hb hx => HFT.out h.1 h.2.1 W D hb hx
  have HF2 := fun (W : World) (D : Nat) hb hx => KFT.out k.1 k.2.1 W D hb hx
  rw [show ((h.1, h.2.1, h.2.2) : Hk) = h from rfl, hp1, hf1] at HF1
  rw [show ((k.1, k.2.1, k.2.2) : Hk) = k from rfl, hp2, hf2] at HF2
  obtain ⟨ho, hho⟩ : ∃ x, h.1 = x := ⟨_, rfl⟩
  obtain ⟨hn, hhn⟩ : ∃ x, h.2.1 = x := ⟨_, rfl⟩
  obtain ⟨hq, hhq⟩ : ∃ x, h.2.2.length = x := ⟨_, rfl⟩
  obtain ⟨ko, hko⟩ : ∃ x, k.1 = x := ⟨_, rfl⟩
  obtain ⟨kn, hkn⟩ : ∃ x, k.2.1 = x := ⟨_, rfl⟩
  obtain ⟨kq, hkq⟩ : ∃ x, k.2.2.length = x := ⟨_, rfl⟩
  have LH : Hid (h.1 = ho ∧ h.2.1 = hn ∧ h.2.2.length = hq) := ⟨hho, hhn, hhq⟩
  have LK : Hid (k.1 = ko ∧ k.2.1 = kn ∧ k.2.2.length = kq) := ⟨hko, hkn, hkq⟩
  rw [hho, hhn, hhq] at HF1
  rw [hko, hkn, hkq] at HF2
  rw [hhq] at HFT
  rw [hkq] at KFT
  rw [hB] at HFT KFT HF1 HF2
  rw [hho, hhn, hhq, hko, hkn, hkq]
  have HB : Hid (w.heap.size = B) := hB
  have hq0 := Sq.start hB ho hn am hq cm ko kn an kq cn
  rw [hB]
  clear hho hhn hhq hko hkn hkq hp1 hf1 hp2 hf2 hB hm hl hs hc km kl ks kc
  go_enter Tryd.func14, Tryd.ntmps14
  go_wp2_with fail
  rw [HB.out]
  obtain ⟨hqs, hsz⟩ := hq0
  generalize (((w.alloc (.cells #[.int .i64 ho, .int .i64 hn, .slice am hq cm] 40)).alloc (.cells #[.int .i64 ko, .int .i64 kn, .slice an kq cn] 40)).alloc (.cells #[.int .i64 0, .int .i64 0, .slice none 0 0] 40)).alloc (.cells #[.int .i64 0, .int .i64 0, .slice none 0 0] 40) = W at hqs hsz ⊢
  have hx1 : Bx (W.alloc (.cells #[.int .i64 ho, .int .i64 hn, .slice am hq cm] 40)) (B + 1 + 1 + 1 + 1) ho hn am hq cm := by rw [← hsz]; exact heap_alloc_new W _
  have hqa := hqs.below (below_alloc W (.cells #[.int .i64 ho, .int .i64 hn, .slice am hq cm] 40))
  have hc1 := HF1 _ _ hqa.2.2.2.2 hx1
  clear hx1 hqs hsz HF1
  generalize W.alloc (.cells #[.int .i64 ho, .int .i64 hn, .slice am hq cm] 40) = Wa at hqa hc1 ⊢
  have HQA : Hid (Sq w Wa B ho hn am hq cm ko kn an kq cn) := hqa
  clear hqa
  go_wp2_with (go_at_call 35; refine hc1.mono ?_)
  rintro e w1 ⟨rfl, hb1⟩
  have HQ1 : Hid (Sq w w1 B ho hn am hq cm ko kn an kq cn) := HQA.out.below hb1
  clear hc1 hb1 HQA
  by_cases e1 : f1 = 0
  case' neg =>
    have hz1 : (f1 == 0) = false := by simpa using e1
    have hz2 : (f1 != 0) = true := by simpa using e1
    obtain ⟨_, _, s3, s4, _⟩ := HQ1.out
    obtain ⟨a0, a1, a2⟩ := s3.cells
    obtain ⟨a3, a4, a5⟩ := s4.cells
    obtain ⟨z0, z1, z2⟩ := s3.frozen
    obtain ⟨z3, z4, z5⟩ := s4.frozen
    obtain ⟨u1, u2, u3⟩ := HQ1.out.empty (x := .int .i64 0) (y := .int .i64 0) (z := .slice none 0 0) (x' := .int .i64 0) (y' := .int .i64 0) (z' := .slice none 0 0)
    have v0 := Lib.cell_of_heap u1 0
    have v1 := Lib.cell_of_heap u1 1
    have v2 := Lib.cell_of_heap u1 2
    have v3 := Lib.cell_of_heap u2 0
    have v4 := Lib.cell_of_heap u2 1
    have v5 := Lib.cell_of_heap u2 2
    simp at v0 v1 v2 v3 v4 v5
    have HU := u3
    have HE : Hid (swF h k = f1) := E1.out e1
    have HNE : Hid (f1 ≠ 0) := e1
    clear s3 s4 u1 u2 u3 e1
    go_wp2
    refine bodyPost_ret (v := .tuple #[.agg #[.int .i64 0, .int .i64 0, .slice none 0 0], .agg #[.int .i64 0, .int .i64 0, .slice none 0 0], .int .i64 f1]) (by simp [results, Tryd.results14, go_sem, v0, v1, v2, v3, v4, v5]) rfl ⟨P0.out _ _ HE.out HNE.out, HU⟩
  case' pos =>
    have E2 : Hid (f2 ≠ 0 → swF h k = f2) := E2.out e1
    have H1 : Hid ((hf [h]).2 = 0) := by show (hf [h]).2 = 0; rw [← e1]; exact H1.out
    rw [e1]
    clear E1 e1
    obtain ⟨k0, k1, k2⟩ := HQ1.out.2.1.cells
    have hx2 : Bx (w1.alloc (.cells #[.int .i64 ko, .int .i64 kn, .slice an kq cn] 40)) w1.heap.size ko kn an kq cn := heap_alloc_new w1 _
    have hqb := HQ1.out.below (below_alloc w1 (.cells #[.int .i64 ko, .int .i64 kn, .slice an kq cn] 40))
    have hc2 := HF2 _ _ hqb.2.2.2.2 hx2
    have HQB : Hid (Sq w (w1.alloc (.cells #[.int .i64 ko, .int .i64 kn, .slice an kq cn] 40)) B ho hn am hq cm ko kn an kq cn) := hqb
    clear hx2 hqb HF2 HQ1
    go_wp2_with (go_at_call 35; refine hc2.mono ?_)
    rintro e w2 ⟨rfl, hb2⟩
    have HQ2 : Hid (Sq w w2 B ho hn am hq cm ko kn an kq cn) := HQB.out.below hb2
    clear hc2 hb2 HQB k0 k1 k2
    by_cases e2 : f2 = 0
    case' neg =>
      have hz2 : (f2 != 0) = true := by simpa using e2
      obtain ⟨_, _, s3, s4, _⟩ := HQ2.out
      obtain ⟨a0, a1, a2⟩ := s3.cells
      obtain ⟨a3, a4, a5⟩ := s4.cells
      obtain ⟨z0, z1, z2⟩ := s3.frozen
      obtain ⟨z3, z4, z5⟩ := s4.frozen
      obtain ⟨u1, u2, u3⟩ := HQ2.out.empty (x := .int .i64 0) (y := .int .i64 0) (z := .slice none 0 0) (x' := .int .i64 0) (y' := .int .i64 0) (z' := .slice none 0 0)
      have v0 := Lib.cell_of_heap u1 0
      have v1 := Lib.cell_of_heap u1 1
      have v2 := Lib.cell_of_heap u1 2
      have v3 := Lib.cell_of_heap u2 0
      have v4 := Lib.cell_of_heap u2 1
      have v5 := Lib.cell_of_heap u2 2
      simp at v0 v1 v2 v3 v4 v5
      have HU := u3
      have HE : Hid (swF h k = f2) := E2.out e2
      have HNE : Hid (f2 ≠ 0) := e2
      clear s3 s4 u1 u2 u3 e2
      go_wp2
      refine bodyPost_ret (v := .tuple #[.agg #[.int .i64 0, .int .i64 0, .slice none 0 0], .agg #[.int .i64 0, .int .i64 0, .slice none 0 0], .int .i64 f2]) (by simp [results, Tryd.results14, go_sem, v0, v1, v2, v3, v4, v5]) rfl ⟨P0.out _ _ HE.out HNE.out, HU⟩
    case' pos => exact (ZB.out.elim (fun z => z H1.out) (fun z => z (H2.out.trans e2))).elim

end Go.Proofs.YtnkdmgekpajfhaeDoor
namespace Go.Proofs.YtnkdmgekpajfhaeDoor
open Go.RowKit Dist

set_option maxRecDepth 100000 in
set_option maxHeartbeats 16000000 in
theorem swapRef_both (h k : Hk) (am : Option Addr) (cm : Nat) (an : Option Addr) (cn : Nat) (w : World) (hm : Mks w am h.2.2) (hl : h.2.2.length ≤ maxLen) (hs : ∀ m ∈ h.2.2, m.2.size ≤ maxLen) (hc : h.2.2.length ≤ cm) (km : Mks w an k.2.2) (kl : k.2.2.length ≤ maxLen) (ks : ∀ m ∈ k.2.2, m.2.size ≤ maxLen) (kc : k.2.2.length ≤ cn) (z1 : (hf [h]).2 = 0) (z2 : (hf [k]).2 = 0) (z3 : ahd h k = true) (z4 : bhd h k = true) :
    Calls Tryd.prog 14 #[.agg #[.int .i64 h.1, .int .i64 h.2.1, .slice am h.2.2.length cm], .agg #[.int .i64 k.1, .int .i64 k.2.1, .slice an k.2.2.length cn]] w fun e w' => SwP h k e w' ∧ Below w.heap.size w w' := by
  have Z1 : Hid ((hf [h]).2 = 0) := z1
  have Z2 : Hid ((hf [k]).2 = 0) := z2
  have Z3 : Hid (ahd h k = true) := z3
  have Z4 : Hid (bhd h k = true) := z4
  clear z1 z2 z3 z4
  have HFT : Hid (∀ (o n : Int) (W : World) (D : Nat), Below w.heap.size w W → Bx W D o n am h.2.2.length cm → Calls Tryd.prog 35 #[.slice (some ⟨D, 0, none⟩) 1 1] W fun e w' => e = .returned (.tuple #[.int .i64 (hf [(o, n, h.2.2)]).1, .int .i64 (hf [(o, n, h.2.2)]).2]) ∧ Below W.heap.size W w') := fun o n W D hb hx =>
    refHunks (some ⟨D, 0, none⟩) [(o, n, h.2.2)] 1 W (hks_block hx (hm.below hb) hc) (by unfold maxLen; simp) (fun x hx => by rw [List.mem_singleton] at hx; rw [hx]; exact hl) (fun x hx => by rw [List.mem_singleton] at hx; rw [hx]; exact hs)
  have KFT : Hid (∀ (o n : Int) (W : World) (D : Nat), Below w.heap.size w W → Bx W D o n an k.2.2.length cn → Calls Tryd.prog 35 #[.slice (some ⟨D, 0, none⟩) 1 1] W fun e w' => e = .returned (.tuple #[.int .i64 (hf [(o, n, k.2.2)]).1, .int .i64 (hf [(o, n, k.2.2)]).2]) ∧ Below W.heap.size W w') := fun o n W D hb hx =>
    refHunks (some ⟨D, 0, none⟩) [(o, n, k.2.2)] 1 W (hks_block hx (km.below hb) kc) (by unfold maxLen; simp) (fun x hx => by rw [List.mem_singleton] at hx; rw [hx]; exact kl) (fun x hx => by rw [List.mem_singleton] at hx; rw [hx]; exact ks)
  have P0 : Hid (∀ f w', swF h k = f → f ≠ 0 → SwP h k (.returned (.tuple #[.agg #[.int .i64 0, .int .i64 0, .slice none 0 0], .agg #[.int .i64 0, .int .i64 0, .slice none 0 0], .int .i64 f])) w') := fun f w' e hf => SwP.bad e hf w'
  have HM : Hid (Mks w am h.2.2) := hm
  have KM : Hid (Mks w an k.2.2) := km
  obtain ⟨B, hB⟩ : ∃ B, w.heap.size = B := ⟨_, rfl⟩
  obtain ⟨p1, hp1⟩ : ∃ p, (hf [h]).1 = p := ⟨_, rfl⟩
  obtain ⟨f1, hf1⟩ : ∃ p, (hf [h]).2 = p := ⟨_, rfl⟩
  obtain ⟨p2, hp2⟩ : ∃ p, (hf [k]).1 = p := ⟨_, rfl⟩
  obtain ⟨f2, hf2⟩ : ∃ p, (hf [k]).2 = p := ⟨_, rfl⟩
  have E1 : Hid (f1 ≠ 0 → swF h k = f1) := fun e => by rw [← hf1]; exact swF_h (by rw [hf1]; exact e)
  have E2 : Hid (f1 = 0 → f2 ≠ 0 → swF h k = f2) := fun e0 e => by rw [← hf2]; exact swF_k (by rw [hf1]; exact e0) (by rw [hf2]; exact e)
  have H1 : Hid ((hf [h]).2 = f1) := hf1
  have H2 : Hid ((hf [k]).2 = f2) := hf2
  have HF1 := fun (W : World) (D : Nat) hb hx => HFT.out h.1 h.2.1 W D hb hx
  have HF2 := fun (W : World) (D : Nat) hb hx => KFT.out k.1 k.2.1 W D hb hx
  rw [show ((h.1, h.2.1, h.2.2) : Hk) = h from rfl, hp1, hf1] at HF1
  rw [show ((k.1, k.2.1, k.2.2) : Hk) = k from rfl, hp2, hf2] at HF2
  obtain ⟨ho, hho⟩ : ∃ x, h.1 = x := ⟨_, rfl⟩
  obtain ⟨hn, hhn⟩ : ∃ x, h.2.1 = x := ⟨_, rfl⟩
  obtain ⟨hq, hhq⟩ : ∃ x, h.2.2.length = x := ⟨_, rfl⟩
  obtain ⟨ko, hko⟩ : ∃ x, k.1 = x := ⟨_, rfl⟩
  obtain ⟨kn, hkn⟩ : ∃ x, k.2.1 = x := ⟨_, rfl⟩
  obtain ⟨kq, hkq⟩ : ∃ x, k.2.2.length = x := ⟨_, rfl⟩
  have LH : Hid (h.1 = ho ∧ h.2.1 = hn ∧ h.2.2.length = hq) := ⟨hho, hhn, hhq⟩
  have LK : Hid (k.1 = ko ∧ k.2.1 = kn ∧ k.2.2.length = kq) := ⟨hko, hkn, hkq⟩
  rw [hho, hhn, hhq] at HF1
  rw [hko, hkn, hkq] at HF2
  rw [hhq] at HFT
  rw [hkq] at KFT
  rw [hB] at HFT KFT HF1 HF2
  rw [hho, hhn, hhq, hko, hkn, hkq]
  have HB : Hid (w.heap.size = B) := hB
  have hq0 := Sq.start hB ho hn am hq cm ko kn an kq cn
  rw [hB]
  clear hho hhn hhq hko hkn hkq hp1 hf1 hp2 hf2 hB hm hl hs hc km kl ks kc
  go_enter Tryd.func14, Tryd.ntmps14
  go_wp2_with fail
  rw [HB.out]
  obtain ⟨hqs, hsz⟩ := hq0
  generalize (((w.alloc (.cells #[.int .i64 ho, .int .i64 hn, .slice am hq cm] 40)).alloc (.cells #[.int .i64 ko, .int .i64 kn, .slice an kq cn] 40)).alloc (.cells #[.int .i64 0, .int .i64 0, .slice none 0 0] 40)).alloc (.cells #[.int .i64 0, .int .i64 0, .slice none 0 0] 40) = W at hqs hsz ⊢
  have hx1 : Bx (W.alloc (.cells #[.int .i64 ho, .int .i64 hn, .slice am hq cm] 40)) (B + 1 + 1 + 1 + 1) ho hn am hq cm := by rw [← hsz]; exact heap_alloc_new W _
  have hqa := hqs.below (below_alloc W (.cells #[.int .i64 ho, .int .i64 hn, .slice am hq cm] 40))
  have hc1 := HF1 _ _ hqa.2.2.2.2 hx1
  clear hx1 hqs hsz HF1
  generalize W.alloc (.cells #[.int .i64 ho, .int .i64 hn, .slice am hq cm] 40) = Wa at hqa hc1 ⊢
  have HQA : Hid (Sq w Wa B ho hn am hq cm ko kn an kq cn) := hqa
  clear hqa
  go_wp2_with (go_at_call 35; refine hc1.mono ?_)
  rintro e w1 ⟨rfl, hb1⟩
  have HQ1 : Hid (Sq w w1 B ho hn am hq cm ko kn an kq cn) := HQA.out.below hb1
  clear hc1 hb1 HQA
  by_cases e1 : f1 = 0
  case' neg => exact absurd (H1.out.symm.trans Z1.out) e1
  case' pos =>
    have E2 : Hid (f2 ≠ 0 → swF h k = f2) := E2.out e1
    have H1 : Hid ((hf [h]).2 = 0) := by show (hf [h]).2 = 0; rw [← e1]; exact H1.out
    rw [e1]
    clear E1 e1
    obtain ⟨k0, k1, k2⟩ := HQ1.out.2.1.cells
    have hx2 : Bx (w1.alloc (.cells #[.int .i64 ko, .int .i64 kn, .slice an kq cn] 40)) w1.heap.size ko kn an kq cn := heap_alloc_new w1 _
    have hqb := HQ1.out.below (below_alloc w1 (.cells #[.int .i64 ko, .int .i64 kn, .slice an kq cn] 40))
    have hc2 := HF2 _ _ hqb.2.2.2.2 hx2
    have HQB : Hid (Sq w (w1.alloc (.cells #[.int .i64 ko, .int .i64 kn, .slice an kq cn] 40)) B ho hn am hq cm ko kn an kq cn) := hqb
    clear hx2 hqb HF2 HQ1
    go_wp2_with (go_at_call 35; refine hc2.mono ?_)
    rintro e w2 ⟨rfl, hb2⟩
    have HQ2 : Hid (Sq w w2 B ho hn am hq cm ko kn an kq cn) := HQB.out.below hb2
    clear hc2 hb2 HQB k0 k1 k2
    by_cases e2 : f2 = 0
    case' neg => exact absurd (H2.out.symm.trans Z2.out) e2
    case' pos =>
      have H2 : Hid ((hf [k]).2 = 0) := by show (hf [k]).2 = 0; rw [← e2]; exact H2.out
      rw [e2]
      clear E2 e2
      obtain ⟨hsf, hr0, hr1, hr2, hl, hsg⟩ := hf_one H1.out
      obtain ⟨ksf, kr0, kr1, kr2, kl, ksg⟩ := hf_one H2.out
      have hoh := fun W (hb : Below w.heap.size w W) => oldOf am h.2.2 cm W (HM.out.below hb) hsf
      have hnh := fun W (hb : Below w.heap.size w W) => newOf am h.2.2 cm W (HM.out.below hb) hsf
      have hok := fun W (hb : Below w.heap.size w W) => oldOf an k.2.2 cn W (KM.out.below hb) ksf
      have hnk := fun W (hb : Below w.heap.size w W) => newOf an k.2.2 cn W (KM.out.below hb) ksf
      rw [ob_less _ hsg] at hoh
      rw [nb_less _ hsg] at hnh
      rw [ob_less _ ksg] at hok
      rw [nb_less _ ksg] at hnk
      rw [LH.out.2.2] at hoh hnh
      rw [LK.out.2.2] at hok hnk
      have bo1 := ob_le h.2.2
      have bn1 := nb_le h.2.2
      have bo2 := ob_le k.2.2
      have bn2 := nb_le k.2.2
      rw [LH.out.1] at hr0 hr1 hr2
      rw [LH.out.2.1] at hr2
      rw [LK.out.1] at kr0 kr1 kr2
      rw [LK.out.2.1] at kr2
      have HRH : Hid (hn = ho) := hr2
      have HRK : Hid (kn = ko) := kr2
      have hn0 : 0 ≤ hn ∧ hn ≤ 60 := by omega
      have kn0 : 0 ≤ kn ∧ kn ≤ 60 := by omega
      clear hr2 kr2
      have HAH : Hid (ahd h k = decide (ko + (ob k.2.2 : Int) ≤ hn)) := by show ahd h k = _; unfold ahd; rw [LK.out.1, LH.out.2.1]
      have HBH : Hid (bhd h k = decide (hn + (Dist.nb h.2.2 : Int) ≤ ko)) := by show bhd h k = _; unfold bhd; rw [LK.out.1, LH.out.2.1]
      obtain ⟨oh, hoh'⟩ : ∃ x, ob h.2.2 = x := ⟨_, rfl⟩
      obtain ⟨nh, hnh'⟩ : ∃ x, Dist.nb h.2.2 = x := ⟨_, rfl⟩
      obtain ⟨ok, hok'⟩ : ∃ x, ob k.2.2 = x := ⟨_, rfl⟩
      obtain ⟨nk, hnk'⟩ : ∃ x, Dist.nb k.2.2 = x := ⟨_, rfl⟩
      have LN : Hid (ob h.2.2 = oh ∧ Dist.nb h.2.2 = nh ∧ ob k.2.2 = ok ∧ Dist.nb k.2.2 = nk) := ⟨hoh', hnh', hok', hnk'⟩
      rw [hoh'] at hoh bo1
      rw [hnh'] at hnh bn1 HBH
      rw [hok'] at hok bo2 HAH
      rw [hnk'] at hnk bn2
      have HOH : Hid (∀ W, Below w.heap.size w W → Calls Tryd.prog 36 #[.slice am hq cm] W fun e w' => ∃ a c, e = .returned (.slice a oh c) ∧ Below W.heap.size W w') := fun W hb => (hoh W hb).mono fun _ _ ⟨a, c, e, _, b⟩ => ⟨a, c, e, b⟩
      have HNH : Hid (∀ W, Below w.heap.size w W → Calls Tryd.prog 37 #[.slice am hq cm] W fun e w' => ∃ a c, e = .returned (.slice a nh c) ∧ Below W.heap.size W w') := fun W hb => (hnh W hb).mono fun _ _ ⟨a, c, e, _, b⟩ => ⟨a, c, e, b⟩
      have HOK : Hid (∀ W, Below w.heap.size w W → Calls Tryd.prog 36 #[.slice an kq cn] W fun e w' => ∃ a c, e = .returned (.slice a ok c) ∧ Below W.heap.size W w') := fun W hb => (hok W hb).mono fun _ _ ⟨a, c, e, _, b⟩ => ⟨a, c, e, b⟩
      have HNK : Hid (∀ W, Below w.heap.size w W → Calls Tryd.prog 37 #[.slice an kq cn] W fun e w' => ∃ a c, e = .returned (.slice a nk c) ∧ Below W.heap.size W w') := fun W hb => (hnk W hb).mono fun _ _ ⟨a, c, e, _, b⟩ => ⟨a, c, e, b⟩
      clear hoh hnh hok hnk hoh' hnh' hok' hnk' hsf ksf hsg ksg
      have hkl : kq ≤ 120 := by rw [← LK.out.2.2]; exact kl
      have hhl : hq ≤ 120 := by rw [← LH.out.2.2]; exact hl
      rw [LK.out.2.2] at bo2 bn2
      rw [LH.out.2.2] at bo1 bn1
      have q1 : IntKind.i64.wrap (ko + (ok : Int)) = ko + ok := by rw [IntKind.wrap_i64] <;> omega
      have q2 : IntKind.i64.wrap (hn + (nh : Int)) = hn + nh := by rw [IntKind.wrap_i64] <;> omega
      have q3 : IntKind.i64.wrap ((nk : Int) - ok) = nk - ok := by rw [IntKind.wrap_i64] <;> omega
      have q4 : IntKind.i64.wrap ((oh : Int) - nh) = oh - nh := by rw [IntKind.wrap_i64] <;> omega
      clear hl kl
      have HQw2 : Hid (Sq w w2 B ho hn am hq cm ko kn an kq cn) := HQ2.out
      clear HQ2
      have cA : ko + (ok : Int) ≤ hn := by have e := HAH.out; rw [Z3.out] at e; exact of_decide_eq_true e.symm
      have cB : hn + (nh : Int) ≤ ko := by have e := HBH.out; rw [Z4.out] at e; exact of_decide_eq_true e.symm
      have HCL : Hid (swF h k = 6) := swF_c H1.out H2.out (by rw [HAH.out, HBH.out, decide_eq_true cA, decide_eq_true cB])
      have hzz : (decide (ko + (ok : Int) ≤ hn) == decide (hn + (nh : Int) ≤ ko)) = true := by rw [decide_eq_true cA, decide_eq_true cB]; rfl
      go_wp2_with fail
      have hdrw2 : Below w2.heap.size w2 w2.drew := ⟨rfl, rfl, rfl, Nat.le_refl _, fun _ _ => rfl⟩
      have Dw2 : Hid (Sq w w2.drew B ho hn am hq cm ko kn an kq cn) := HQw2.out.below hdrw2
      have CCw2 : Hid (∀ W', Sq w W' B ho hn am hq cm ko kn an kq cn → W'.cell? ⟨B + 1, 0, none⟩ = some (.int .i64 ko) ∧ W'.cell? ⟨B + 1, 2, none⟩ = some (.slice an kq cn) ∧ W'.cell? ⟨B, 1, none⟩ = some (.int .i64 hn)) := fun W' hb => by
        obtain ⟨x0, x1, x2⟩ := hb.1.cells
        obtain ⟨y0, y1, y2⟩ := hb.2.1.cells
        exact ⟨y0, y2, x1⟩
      clear hdrw2
      refine wp_region_held_drew (S := fun W' => W'.cell? ⟨B + 1, 0, none⟩ = some (.int .i64 ko) ∧ W'.cell? ⟨B + 1, 2, none⟩ = some (.slice an kq cn) ∧ W'.cell? ⟨B, 1, none⟩ = some (.int .i64 hn)) (by kernel_rfl) ?_ (fun hHeld => ?_)
      · exact CCw2.out _ Dw2.out
      refine wpAnyH_take (i := 0) (v := ?_) rfl (by kernel_rfl) (by kernel_rfl) (by kernel_rfl) (fun _ _ _ h => h) (Or.inl ⟨by rfl, ?_⟩) (by assumption) ?_
      rotate_left
      · intro w' hSw
        (try dsimp only at hSw)
        go_simp
        try with_reducible rfl
      simp only [Act.put, List.getElem_toArray, List.getElem_cons_zero, List.setIfInBounds_toArray, List.set_cons_zero, List.set_cons_succ]
      refine wpAnyH_take (i := 1) (v := ?_) rfl (by kernel_rfl) (by kernel_rfl) (by kernel_rfl) (fun _ _ _ h => h) (Or.inl ⟨by rfl, ?_⟩) (by assumption) ?_
      rotate_left
      · intro w' hSw
        (try dsimp only at hSw)
        go_simp
        try with_reducible rfl
      simp only [Act.put, List.getElem_toArray, List.getElem_cons_zero, List.getElem_cons_succ, List.setIfInBounds_toArray, List.set_cons_zero, List.set_cons_succ]
      refine wpAnyH_take (i := 2) (v := ?_) rfl (by kernel_rfl) (by kernel_rfl) (by kernel_rfl) (fun _ _ _ h => h) (Or.inl ⟨by rfl, ?_⟩) (by assumption) ?_
      rotate_left
      · intro w' hSw
        (try dsimp only at hSw)
        go_simp
        try with_reducible rfl
      simp only [Act.put, List.getElem_toArray, List.getElem_cons_zero, List.getElem_cons_succ, List.setIfInBounds_toArray, List.set_cons_zero, List.set_cons_succ]
      refine wpAnyH_take (i := 3) (v := ?_) rfl (by kernel_rfl) (by kernel_rfl) (by kernel_rfl) (fun _ _ _ h => h) (Or.inl ⟨by rfl, ?_⟩) (by assumption) ?_
      rotate_left
      · intro w' hSw
        (try dsimp only at hSw)
        go_simp
        try with_reducible rfl
      simp only [Act.put, List.getElem_toArray, List.getElem_cons_zero, List.getElem_cons_succ, List.setIfInBounds_toArray, List.set_cons_zero, List.set_cons_succ]
      refine wpAnyH_take (i := 7) (v := ?_) rfl (by kernel_rfl) (by kernel_rfl) (by kernel_rfl) (fun _ _ _ h => h) (Or.inl ⟨by rfl, ?_⟩) (by assumption) ?_
      rotate_left
      · intro w' hSw
        (try dsimp only at hSw)
        go_simp
        try with_reducible rfl
      simp only [Act.put, List.getElem_toArray, List.getElem_cons_zero, List.getElem_cons_succ, List.setIfInBounds_toArray, List.set_cons_zero, List.set_cons_succ]
      refine wpAnyH_take (i := 8) (v := ?_) rfl (by kernel_rfl) (by kernel_rfl) (by kernel_rfl) (fun _ _ _ h => h) (Or.inl ⟨by rfl, ?_⟩) (by assumption) ?_
      rotate_left
      · intro w' hSw
        (try dsimp only at hSw)
        go_simp
        try with_reducible rfl
      simp only [Act.put, List.getElem_toArray, List.getElem_cons_zero, List.getElem_cons_succ, List.setIfInBounds_toArray, List.set_cons_zero, List.set_cons_succ]
      refine wpAnyH_ready (rs := [4]) (by kernel_rfl) (by simp) ?_
      refine AllReadyH.cons rfl (fun K hK => ?_) AllReadyH.nil
      go_simp
      go_at_call 36; refine (HOK.out _ (by rw [HB.out]; exact (Dw2.out).2.2.2.2)).mono ?_; rintro e w3 ⟨aw3, cw3, rfl, hbw3⟩; have HQw3 : Hid (Sq w w3 B ho hn am hq cm ko kn an kq cn) := (Dw2.out).below hbw3; clear hbw3
      go_wp2_with fail
      refine hK.out _ _ ?_ (fun hHeld => ?_)
      · exact CCw2.out _ HQw3.out
      clear hK K
      refine wpAnyH_take (i := 5) (v := ?_) rfl (by kernel_rfl) (by kernel_rfl) (by kernel_rfl) (fun _ _ _ h => h) (Or.inl ⟨by rfl, ?_⟩) (by assumption) ?_
      rotate_left
      · intro w' hSw
        (try dsimp only at hSw)
        go_simp
        try with_reducible rfl
      simp only [Act.put, List.getElem_toArray, List.getElem_cons_zero, List.getElem_cons_succ, List.setIfInBounds_toArray, List.set_cons_zero, List.set_cons_succ]
      refine wpAnyH_take (i := 6) (v := ?_) rfl (by kernel_rfl) (by kernel_rfl) (by kernel_rfl) (fun _ _ _ h => h) (Or.inl ⟨by rfl, ?_⟩) (by assumption) ?_
      rotate_left
      · intro w' hSw
        (try dsimp only at hSw)
        go_simp
        try with_reducible rfl
      simp only [Act.put, List.getElem_toArray, List.getElem_cons_zero, List.getElem_cons_succ, List.setIfInBounds_toArray, List.set_cons_zero, List.set_cons_succ]
      refine wpAnyH_take (i := 9) (v := ?_) rfl (by kernel_rfl) (by kernel_rfl) (by kernel_rfl) (fun _ _ _ h => h) (Or.inl ⟨by rfl, ?_⟩) (by assumption) ?_
      rotate_left
      · intro w' hSw
        (try dsimp only at hSw)
        go_simp
        try with_reducible rfl
      simp only [Act.put, List.getElem_toArray, List.getElem_cons_zero, List.getElem_cons_succ, List.setIfInBounds_toArray, List.set_cons_zero, List.set_cons_succ]
      refine wpAnyH_take (i := 10) (v := ?_) rfl (by kernel_rfl) (by kernel_rfl) (by kernel_rfl) (fun _ _ _ h => h) (Or.inl ⟨by rfl, ?_⟩) (by assumption) ?_
      rotate_left
      · intro w' hSw
        (try dsimp only at hSw)
        go_simp
        try with_reducible rfl
      simp only [Act.put, List.getElem_toArray, List.getElem_cons_zero, List.getElem_cons_succ, List.setIfInBounds_toArray, List.set_cons_zero, List.set_cons_succ]
      refine wpAnyH_done (by kernel_rfl) ?_ _
      clear CCw2 Dw2 hHeld
      go_wp2_with fail
      have hdrw3 : Below w3.heap.size w3 w3.drew := ⟨rfl, rfl, rfl, Nat.le_refl _, fun _ _ => rfl⟩
      have Dw3 : Hid (Sq w w3.drew B ho hn am hq cm ko kn an kq cn) := HQw3.out.below hdrw3
      have CCw3 : Hid (∀ W', Sq w W' B ho hn am hq cm ko kn an kq cn → W'.cell? ⟨B + 1, 0, none⟩ = some (.int .i64 ko) ∧ W'.cell? ⟨B, 1, none⟩ = some (.int .i64 hn) ∧ W'.cell? ⟨B, 2, none⟩ = some (.slice am hq cm)) := fun W' hb => by
        obtain ⟨x0, x1, x2⟩ := hb.1.cells
        obtain ⟨y0, y1, y2⟩ := hb.2.1.cells
        exact ⟨y0, x1, x2⟩
      clear hdrw3
      refine wp_region_held_drew (S := fun W' => W'.cell? ⟨B + 1, 0, none⟩ = some (.int .i64 ko) ∧ W'.cell? ⟨B, 1, none⟩ = some (.int .i64 hn) ∧ W'.cell? ⟨B, 2, none⟩ = some (.slice am hq cm)) (by kernel_rfl) ?_ (fun hHeld => ?_)
      · exact CCw3.out _ Dw3.out
      refine wpAnyH_take (i := 0) (v := ?_) rfl (by kernel_rfl) (by kernel_rfl) (by kernel_rfl) (fun _ _ _ h => h) (Or.inl ⟨by rfl, ?_⟩) (by assumption) ?_
      rotate_left
      · intro w' hSw
        (try dsimp only at hSw)
        go_simp
        try with_reducible rfl
      simp only [Act.put, List.getElem_toArray, List.getElem_cons_zero, List.setIfInBounds_toArray, List.set_cons_zero, List.set_cons_succ]
      refine wpAnyH_take (i := 1) (v := ?_) rfl (by kernel_rfl) (by kernel_rfl) (by kernel_rfl) (fun _ _ _ h => h) (Or.inl ⟨by rfl, ?_⟩) (by assumption) ?_
      rotate_left
      · intro w' hSw
        (try dsimp only at hSw)
        go_simp
        try with_reducible rfl
      simp only [Act.put, List.getElem_toArray, List.getElem_cons_zero, List.getElem_cons_succ, List.setIfInBounds_toArray, List.set_cons_zero, List.set_cons_succ]
      refine wpAnyH_take (i := 2) (v := ?_) rfl (by kernel_rfl) (by kernel_rfl) (by kernel_rfl) (fun _ _ _ h => h) (Or.inl ⟨by rfl, ?_⟩) (by assumption) ?_
      rotate_left
      · intro w' hSw
        (try dsimp only at hSw)
        go_simp
        try with_reducible rfl
      simp only [Act.put, List.getElem_toArray, List.getElem_cons_zero, List.getElem_cons_succ, List.setIfInBounds_toArray, List.set_cons_zero, List.set_cons_succ]
      refine wpAnyH_take (i := 3) (v := ?_) rfl (by kernel_rfl) (by kernel_rfl) (by kernel_rfl) (fun _ _ _ h => h) (Or.inl ⟨by rfl, ?_⟩) (by assumption) ?_
      rotate_left
      · intro w' hSw
        (try dsimp only at hSw)
        go_simp
        try with_reducible rfl
      simp only [Act.put, List.getElem_toArray, List.getElem_cons_zero, List.getElem_cons_succ, List.setIfInBounds_toArray, List.set_cons_zero, List.set_cons_succ]
      refine wpAnyH_take (i := 4) (v := ?_) rfl (by kernel_rfl) (by kernel_rfl) (by kernel_rfl) (fun _ _ _ h => h) (Or.inl ⟨by rfl, ?_⟩) (by assumption) ?_
      rotate_left
      · intro w' hSw
        (try dsimp only at hSw)
        go_simp
        try with_reducible rfl
      simp only [Act.put, List.getElem_toArray, List.getElem_cons_zero, List.getElem_cons_succ, List.setIfInBounds_toArray, List.set_cons_zero, List.set_cons_succ]
      refine wpAnyH_take (i := 5) (v := ?_) rfl (by kernel_rfl) (by kernel_rfl) (by kernel_rfl) (fun _ _ _ h => h) (Or.inl ⟨by rfl, ?_⟩) (by assumption) ?_
      rotate_left
      · intro w' hSw
        (try dsimp only at hSw)
        go_simp
        try with_reducible rfl
      simp only [Act.put, List.getElem_toArray, List.getElem_cons_zero, List.getElem_cons_succ, List.setIfInBounds_toArray, List.set_cons_zero, List.set_cons_succ]
      refine wpAnyH_ready (rs := [6]) (by kernel_rfl) (by simp) ?_
      refine AllReadyH.cons rfl (fun K hK => ?_) AllReadyH.nil
      go_simp
      go_at_call 37; refine (HNH.out _ (by rw [HB.out]; exact (Dw3.out).2.2.2.2)).mono ?_; rintro e w4 ⟨aw4, cw4, rfl, hbw4⟩; have HQw4 : Hid (Sq w w4 B ho hn am hq cm ko kn an kq cn) := (Dw3.out).below hbw4; clear hbw4
      go_wp2_with fail
      refine hK.out _ _ ?_ (fun hHeld => ?_)
      · exact CCw3.out _ HQw4.out
      clear hK K
      refine wpAnyH_take (i := 7) (v := ?_) rfl (by kernel_rfl) (by kernel_rfl) (by kernel_rfl) (fun _ _ _ h => h) (Or.inl ⟨by rfl, ?_⟩) (by assumption) ?_
      rotate_left
      · intro w' hSw
        (try dsimp only at hSw)
        go_simp
        try with_reducible rfl
      simp only [Act.put, List.getElem_toArray, List.getElem_cons_zero, List.getElem_cons_succ, List.setIfInBounds_toArray, List.set_cons_zero, List.set_cons_succ]
      refine wpAnyH_take (i := 8) (v := ?_) rfl (by kernel_rfl) (by kernel_rfl) (by kernel_rfl) (fun _ _ _ h => h) (Or.inl ⟨by rfl, ?_⟩) (by assumption) ?_
      rotate_left
      · intro w' hSw
        (try dsimp only at hSw)
        go_simp
        try with_reducible rfl
      simp only [Act.put, List.getElem_toArray, List.getElem_cons_zero, List.getElem_cons_succ, List.setIfInBounds_toArray, List.set_cons_zero, List.set_cons_succ]
      refine wpAnyH_take (i := 9) (v := ?_) rfl (by kernel_rfl) (by kernel_rfl) (by kernel_rfl) (fun _ _ _ h => h) (Or.inl ⟨by rfl, ?_⟩) (by assumption) ?_
      rotate_left
      · intro w' hSw
        (try dsimp only at hSw)
        go_simp
        try with_reducible rfl
      simp only [Act.put, List.getElem_toArray, List.getElem_cons_zero, List.getElem_cons_succ, List.setIfInBounds_toArray, List.set_cons_zero, List.set_cons_succ]
      refine wpAnyH_take (i := 10) (v := ?_) rfl (by kernel_rfl) (by kernel_rfl) (by kernel_rfl) (fun _ _ _ h => h) (Or.inl ⟨by rfl, ?_⟩) (by assumption) ?_
      rotate_left
      · intro w' hSw
        (try dsimp only at hSw)
        go_simp
        try with_reducible rfl
      simp only [Act.put, List.getElem_toArray, List.getElem_cons_zero, List.getElem_cons_succ, List.setIfInBounds_toArray, List.set_cons_zero, List.set_cons_succ]
      refine wpAnyH_done (by kernel_rfl) ?_ _
      clear CCw3 Dw3 hHeld
      obtain ⟨_, _, s3, s4, _⟩ := HQw4.out
      obtain ⟨a0, a1, a2⟩ := s3.cells
      obtain ⟨a3, a4, a5⟩ := s4.cells
      obtain ⟨z0, z1, z2⟩ := s3.frozen
      obtain ⟨z3, z4, z5⟩ := s4.frozen
      obtain ⟨u1, u2, u3⟩ := HQw4.out.empty (x := .int .i64 0) (y := .int .i64 0) (z := .slice none 0 0) (x' := .int .i64 0) (y' := .int .i64 0) (z' := .slice none 0 0)
      have v0 := Lib.cell_of_heap u1 0
      have v1 := Lib.cell_of_heap u1 1
      have v2 := Lib.cell_of_heap u1 2
      have v3 := Lib.cell_of_heap u2 0
      have v4 := Lib.cell_of_heap u2 1
      have v5 := Lib.cell_of_heap u2 2
      simp at v0 v1 v2 v3 v4 v5
      have HU := u3
      have HE : Hid (swF h k = 6) := HCL.out
      have HNE : Hid ((6 : Int) ≠ 0) := show (6 : Int) ≠ 0 by decide
      clear s3 s4 u1 u2 u3
      go_wp2
      refine bodyPost_ret (v := .tuple #[.agg #[.int .i64 0, .int .i64 0, .slice none 0 0], .agg #[.int .i64 0, .int .i64 0, .slice none 0 0], .int .i64 6]) (by simp [results, Tryd.results14, go_sem, v0, v1, v2, v3, v4, v5]) rfl ⟨P0.out _ _ HE.out HNE.out, HU⟩

set_option maxRecDepth 100000 in
set_option maxHeartbeats 16000000 in
theorem swapRef_none (h k : Hk) (am : Option Addr) (cm : Nat) (an : Option Addr) (cn : Nat) (w : World) (hm : Mks w am h.2.2) (hl : h.2.2.length ≤ maxLen) (hs : ∀ m ∈ h.2.2, m.2.size ≤ maxLen) (hc : h.2.2.length ≤ cm) (km : Mks w an k.2.2) (kl : k.2.2.length ≤ maxLen) (ks : ∀ m ∈ k.2.2, m.2.size ≤ maxLen) (kc : k.2.2.length ≤ cn) (z1 : (hf [h]).2 = 0) (z2 : (hf [k]).2 = 0) (z3 : ahd h k = false) (z4 : bhd h k = false) :
    Calls Tryd.prog 14 #[.agg #[.int .i64 h.1, .int .i64 h.2.1, .slice am h.2.2.length cm], .agg #[.int .i64 k.1, .int .i64 k.2.1, .slice an k.2.2.length cn]] w fun e w' => SwP h k e w' ∧ Below w.heap.size w w' := by
  have Z1 : Hid ((hf [h]).2 = 0) := z1
  have Z2 : Hid ((hf [k]).2 = 0) := z2
  have Z3 : Hid (ahd h k = false) := z3
  have Z4 : Hid (bhd h k = false) := z4
  clear z1 z2 z3 z4
  have HFT : Hid (∀ (o n : Int) (W : World) (D : Nat), Below w.heap.size w W → Bx W D o n am h.2.2.length cm → Calls Tryd.prog 35 #[.slice (some ⟨D, 0, none⟩) 1 1] W fun e w' => e = .returned (.tuple #[.int .i64 (hf [(o, n, h.2.2)]).1, .int .i64 (hf [(o, n, h.2.2)]).2]) ∧ Below W.heap.size W w') := fun o n W D hb hx =>
    refHunks (some ⟨D, 0, none⟩) [(o, n, h.2.2)] 1 W (hks_block hx (hm.below hb) hc) (by unfold maxLen; simp) (fun x hx => by rw [List.mem_singleton] at hx; rw [hx]; exact hl) (fun x hx => by rw [List.mem_singleton] at hx; rw [hx]; exact hs)
  have KFT : Hid (∀ (o n : Int) (W : World) (D : Nat), Below w.heap.size w W → Bx W D o n an k.2.2.length cn → Calls Tryd.prog 35 #[.slice (some ⟨D, 0, none⟩) 1 1] W fun e w' => e = .returned (.tuple #[.int .i64 (hf [(o, n, k.2.2)]).1, .int .i64 (hf [(o, n, k.2.2)]).2]) ∧ Below W.heap.size W w') := fun o n W D hb hx =>
    refHunks (some ⟨D, 0, none⟩) [(o, n, k.2.2)] 1 W (hks_block hx (km.below hb) kc) (by unfold maxLen; simp) (fun x hx => by rw [List.mem_singleton] at hx; rw [hx]; exact kl) (fun x hx => by rw [List.mem_singleton] at hx; rw [hx]; exact ks)
  have P0 : Hid (∀ f w', swF h k = f → f ≠ 0 → SwP h k (.returned (.tuple #[.agg #[.int .i64 0, .int .i64 0, .slice none 0 0], .agg #[.int .i64 0, .int .i64 0, .slice none 0 0], .int .i64 f])) w') := fun f w' e hf => SwP.bad e hf w'
  have HM : Hid (Mks w am h.2.2) := hm
  have KM : Hid (Mks w an k.2.2) := km
  obtain ⟨B, hB⟩ : ∃ B, w.heap.size = B := ⟨_, rfl⟩
  obtain ⟨p1, hp1⟩ : ∃ p, (hf [h]).1 = p := ⟨_, rfl⟩
  obtain ⟨f1, hf1⟩ : ∃ p, (hf [h]).2 = p := ⟨_, rfl⟩
  obtain ⟨p2, hp2⟩ : ∃ p, (hf [k]).1 = p := ⟨_, rfl⟩
  obtain ⟨f2, hf2⟩ : ∃ p, (hf [k]).2 = p := ⟨_, rfl⟩
  have E1 : Hid (f1 ≠ 0 → swF h k = f1) := fun e => by rw [← hf1]; exact swF_h (by rw [hf1]; exact e)
  have E2 : Hid (f1 = 0 → f2 ≠ 0 → swF h k = f2) := fun e0 e => by rw [← hf2]; exact swF_k (by rw [hf1]; exact e0) (by rw [hf2]; exact e)
  have H1 : Hid ((hf [h]).2 = f1) := hf1
  have H2 : Hid ((hf [k]).2 = f2) := hf2
  have HF1 := fun (W : World) (D : Nat) hb hx => HFT.out h.1 h.2.1 W D hb hx
  have HF2 := fun (W : World) (D : Nat) hb hx => KFT.out k.1 k.2.1 W D hb hx
  rw [show ((h.1, h.2.1, h.2.2) : Hk) = h from rfl, hp1, hf1] at HF1
  rw [show ((k.1, k.2.1, k.2.2) : Hk) = k from rfl, hp2, hf2] at HF2
  obtain ⟨ho, hho⟩ : ∃ x, h.1 = x := ⟨_, rfl⟩
  obtain ⟨hn, hhn⟩ : ∃ x, h.2.1 = x := ⟨_, rfl⟩
  obtain ⟨hq, hhq⟩ : ∃ x, h.2.2.length = x := ⟨_, rfl⟩
  obtain ⟨ko, hko⟩ : ∃ x, k.1 = x := ⟨_, rfl⟩
  obtain ⟨kn, hkn⟩ : ∃ x, k.2.1 = x := ⟨_, rfl⟩
  obtain ⟨kq, hkq⟩ : ∃ x, k.2.2.length = x := ⟨_, rfl⟩
  have LH : Hid (h.1 = ho ∧ h.2.1 = hn ∧ h.2.2.length = hq) := ⟨hho, hhn, hhq⟩
  have LK : Hid (k.1 = ko ∧ k.2.1 = kn ∧ k.2.2.length = kq) := ⟨hko, hkn, hkq⟩
  rw [hho, hhn, hhq] at HF1
  rw [hko, hkn, hkq] at HF2
  rw [hhq] at HFT
  rw [hkq] at KFT
  rw [hB] at HFT KFT HF1 HF2
  rw [hho, hhn, hhq, hko, hkn, hkq]
  have HB : Hid (w.heap.size = B) := hB
  have hq0 := Sq.start hB ho hn am hq cm ko kn an kq cn
  rw [hB]
  clear hho hhn hhq hko hkn hkq hp1 hf1 hp2 hf2 hB hm hl hs hc km kl ks kc
  go_enter Tryd.func14, Tryd.ntmps14
  go_wp2_with fail
  rw [HB.out]
  obtain ⟨hqs, hsz⟩ := hq0
  generalize (((w.alloc (.cells #[.int .i64 ho, .int .i64 hn, .slice am hq cm] 40)).alloc (.cells #[.int .i64 ko, .int .i64 kn, .slice an kq cn] 40)).alloc (.cells #[.int .i64 0, .int .i64 0, .slice none 0 0] 40)).alloc (.cells #[.int .i64 0, .int .i64 0, .slice none 0 0] 40) = W at hqs hsz ⊢
  have hx1 : Bx (W.alloc (.cells #[.int .i64 ho, .int .i64 hn, .slice am hq cm] 40)) (B + 1 + 1 + 1 + 1) ho hn am hq cm := by rw [← hsz]; exact heap_alloc_new W _
  have hqa := hqs.below (below_alloc W (.cells #[.int .i64 ho, .int .i64 hn, .slice am hq cm] 40))
  have hc1 := HF1 _ _ hqa.2.2.2.2 hx1
  clear hx1 hqs hsz HF1
  generalize W.alloc (.cells #[.int .i64 ho, .int .i64 hn, .slice am hq cm] 40) = Wa at hqa hc1 ⊢
  have HQA : Hid (Sq w Wa B ho hn am hq cm ko kn an kq cn) := hqa
  clear hqa
  go_wp2_with (go_at_call 35; refine hc1.mono ?_)
  rintro e w1 ⟨rfl, hb1⟩
  have HQ1 : Hid (Sq w w1 B ho hn am hq cm ko kn an kq cn) := HQA.out.below hb1
  clear hc1 hb1 HQA
  by_cases e1 : f1 = 0
  case' neg => exact absurd (H1.out.symm.trans Z1.out) e1
  case' pos =>
    have E2 : Hid (f2 ≠ 0 → swF h k = f2) := E2.out e1
    have H1 : Hid ((hf [h]).2 = 0) := by show (hf [h]).2 = 0; rw [← e1]; exact H1.out
    rw [e1]
    clear E1 e1
    obtain ⟨k0, k1, k2⟩ := HQ1.out.2.1.cells
    have hx2 : Bx (w1.alloc (.cells #[.int .i64 ko, .int .i64 kn, .slice an kq cn] 40)) w1.heap.size ko kn an kq cn := heap_alloc_new w1 _
    have hqb := HQ1.out.below (below_alloc w1 (.cells #[.int .i64 ko, .int .i64 kn, .slice an kq cn] 40))
    have hc2 := HF2 _ _ hqb.2.2.2.2 hx2
    have HQB : Hid (Sq w (w1.alloc (.cells #[.int .i64 ko, .int .i64 kn, .slice an kq cn] 40)) B ho hn am hq cm ko kn an kq cn) := hqb
    clear hx2 hqb HF2 HQ1
    go_wp2_with (go_at_call 35; refine hc2.mono ?_)
    rintro e w2 ⟨rfl, hb2⟩
    have HQ2 : Hid (Sq w w2 B ho hn am hq cm ko kn an kq cn) := HQB.out.below hb2
    clear hc2 hb2 HQB k0 k1 k2
    by_cases e2 : f2 = 0
    case' neg => exact absurd (H2.out.symm.trans Z2.out) e2
    case' pos =>
      have H2 : Hid ((hf [k]).2 = 0) := by show (hf [k]).2 = 0; rw [← e2]; exact H2.out
      rw [e2]
      clear E2 e2
      obtain ⟨hsf, hr0, hr1, hr2, hl, hsg⟩ := hf_one H1.out
      obtain ⟨ksf, kr0, kr1, kr2, kl, ksg⟩ := hf_one H2.out
      have hoh := fun W (hb : Below w.heap.size w W) => oldOf am h.2.2 cm W (HM.out.below hb) hsf
      have hnh := fun W (hb : Below w.heap.size w W) => newOf am h.2.2 cm W (HM.out.below hb) hsf
      have hok := fun W (hb : Below w.heap.size w W) => oldOf an k.2.2 cn W (KM.out.below hb) ksf
      have hnk := fun W (hb : Below w.heap.size w W) => newOf an k.2.2 cn W (KM.out.below hb) ksf
      rw [ob_less _ hsg] at hoh
      rw [nb_less _ hsg] at hnh
      rw [ob_less _ ksg] at hok
      rw [nb_less _ ksg] at hnk
      rw [LH.out.2.2] at hoh hnh
      rw [LK.out.2.2] at hok hnk
      have bo1 := ob_le h.2.2
      have bn1 := nb_le h.2.2
      have bo2 := ob_le k.2.2
      have bn2 := nb_le k.2.2
      rw [LH.out.1] at hr0 hr1 hr2
      rw [LH.out.2.1] at hr2
      rw [LK.out.1] at kr0 kr1 kr2
      rw [LK.out.2.1] at kr2
      have HRH : Hid (hn = ho) := hr2
      have HRK : Hid (kn = ko) := kr2
      have hn0 : 0 ≤ hn ∧ hn ≤ 60 := by omega
      have kn0 : 0 ≤ kn ∧ kn ≤ 60 := by omega
      clear hr2 kr2
      have HAH : Hid (ahd h k = decide (ko + (ob k.2.2 : Int) ≤ hn)) := by show ahd h k = _; unfold ahd; rw [LK.out.1, LH.out.2.1]
      have HBH : Hid (bhd h k = decide (hn + (Dist.nb h.2.2 : Int) ≤ ko)) := by show bhd h k = _; unfold bhd; rw [LK.out.1, LH.out.2.1]
      obtain ⟨oh, hoh'⟩ : ∃ x, ob h.2.2 = x := ⟨_, rfl⟩
      obtain ⟨nh, hnh'⟩ : ∃ x, Dist.nb h.2.2 = x := ⟨_, rfl⟩
      obtain ⟨ok, hok'⟩ : ∃ x, ob k.2.2 = x := ⟨_, rfl⟩
      obtain ⟨nk, hnk'⟩ : ∃ x, Dist.nb k.2.2 = x := ⟨_, rfl⟩
      have LN : Hid (ob h.2.2 = oh ∧ Dist.nb h.2.2 = nh ∧ ob k.2.2 = ok ∧ Dist.nb k.2.2 = nk) := ⟨hoh', hnh', hok', hnk'⟩
      rw [hoh'] at hoh bo1
      rw [hnh'] at hnh bn1 HBH
      rw [hok'] at hok bo2 HAH
      rw [hnk'] at hnk bn2
      have HOH : Hid (∀ W, Below w.heap.size w W → Calls Tryd.prog 36 #[.slice am hq cm] W fun e w' => ∃ a c, e = .returned (.slice a oh c) ∧ Below W.heap.size W w') := fun W hb => (hoh W hb).mono fun _ _ ⟨a, c, e, _, b⟩ => ⟨a, c, e, b⟩
      have HNH : Hid (∀ W, Below w.heap.size w W → Calls Tryd.prog 37 #[.slice am hq cm] W fun e w' => ∃ a c, e = .returned (.slice a nh c) ∧ Below W.heap.size W w') := fun W hb => (hnh W hb).mono fun _ _ ⟨a, c, e, _, b⟩ => ⟨a, c, e, b⟩
      have HOK : Hid (∀ W, Below w.heap.size w W → Calls Tryd.prog 36 #[.slice an kq cn] W fun e w' => ∃ a c, e = .returned (.slice a ok c) ∧ Below W.heap.size W w') := fun W hb => (hok W hb).mono fun _ _ ⟨a, c, e, _, b⟩ => ⟨a, c, e, b⟩
      have HNK : Hid (∀ W, Below w.heap.size w W → Calls Tryd.prog 37 #[.slice an kq cn] W fun e w' => ∃ a c, e = .returned (.slice a nk c) ∧ Below W.heap.size W w') := fun W hb => (hnk W hb).mono fun _ _ ⟨a, c, e, _, b⟩ => ⟨a, c, e, b⟩
      clear hoh hnh hok hnk hoh' hnh' hok' hnk' hsf ksf hsg ksg
      have hkl : kq ≤ 120 := by rw [← LK.out.2.2]; exact kl
      have hhl : hq ≤ 120 := by rw [← LH.out.2.2]; exact hl
      rw [LK.out.2.2] at bo2 bn2
      rw [LH.out.2.2] at bo1 bn1
      have q1 : IntKind.i64.wrap (ko + (ok : Int)) = ko + ok := by rw [IntKind.wrap_i64] <;> omega
      have q2 : IntKind.i64.wrap (hn + (nh : Int)) = hn + nh := by rw [IntKind.wrap_i64] <;> omega
      have q3 : IntKind.i64.wrap ((nk : Int) - ok) = nk - ok := by rw [IntKind.wrap_i64] <;> omega
      have q4 : IntKind.i64.wrap ((oh : Int) - nh) = oh - nh := by rw [IntKind.wrap_i64] <;> omega
      clear hl kl
      have HQw2 : Hid (Sq w w2 B ho hn am hq cm ko kn an kq cn) := HQ2.out
      clear HQ2
      have cA : ¬ (ko + (ok : Int) ≤ hn) := by have e := HAH.out; rw [Z3.out] at e; exact of_decide_eq_false e.symm
      have cB : ¬ (hn + (nh : Int) ≤ ko) := by have e := HBH.out; rw [Z4.out] at e; exact of_decide_eq_false e.symm
      have HCL : Hid (swF h k = 6) := swF_c H1.out H2.out (by rw [HAH.out, HBH.out, decide_eq_false cA, decide_eq_false cB])
      have hzz : (decide (ko + (ok : Int) ≤ hn) == decide (hn + (nh : Int) ≤ ko)) = true := by rw [decide_eq_false cA, decide_eq_false cB]; rfl
      go_wp2_with fail
      have hdrw2 : Below w2.heap.size w2 w2.drew := ⟨rfl, rfl, rfl, Nat.le_refl _, fun _ _ => rfl⟩
      have Dw2 : Hid (Sq w w2.drew B ho hn am hq cm ko kn an kq cn) := HQw2.out.below hdrw2
      have CCw2 : Hid (∀ W', Sq w W' B ho hn am hq cm ko kn an kq cn → W'.cell? ⟨B + 1, 0, none⟩ = some (.int .i64 ko) ∧ W'.cell? ⟨B + 1, 2, none⟩ = some (.slice an kq cn) ∧ W'.cell? ⟨B, 1, none⟩ = some (.int .i64 hn)) := fun W' hb => by
        obtain ⟨x0, x1, x2⟩ := hb.1.cells
        obtain ⟨y0, y1, y2⟩ := hb.2.1.cells
        exact ⟨y0, y2, x1⟩
      clear hdrw2
      refine wp_region_held_drew (S := fun W' => W'.cell? ⟨B + 1, 0, none⟩ = some (.int .i64 ko) ∧ W'.cell? ⟨B + 1, 2, none⟩ = some (.slice an kq cn) ∧ W'.cell? ⟨B, 1, none⟩ = some (.int .i64 hn)) (by kernel_rfl) ?_ (fun hHeld => ?_)
      · exact CCw2.out _ Dw2.out
      refine wpAnyH_take (i := 0) (v := ?_) rfl (by kernel_rfl) (by kernel_rfl) (by kernel_rfl) (fun _ _ _ h => h) (Or.inl ⟨by rfl, ?_⟩) (by assumption) ?_
      rotate_left
      · intro w' hSw
        (try dsimp only at hSw)
        go_simp
        try with_reducible rfl
      simp only [Act.put, List.getElem_toArray, List.getElem_cons_zero, List.setIfInBounds_toArray, List.set_cons_zero, List.set_cons_succ]
      refine wpAnyH_take (i := 1) (v := ?_) rfl (by kernel_rfl) (by kernel_rfl) (by kernel_rfl) (fun _ _ _ h => h) (Or.inl ⟨by rfl, ?_⟩) (by assumption) ?_
      rotate_left
      · intro w' hSw
        (try dsimp only at hSw)
        go_simp
        try with_reducible rfl
      simp only [Act.put, List.getElem_toArray, List.getElem_cons_zero, List.getElem_cons_succ, List.setIfInBounds_toArray, List.set_cons_zero, List.set_cons_succ]
      refine wpAnyH_take (i := 2) (v := ?_) rfl (by kernel_rfl) (by kernel_rfl) (by kernel_rfl) (fun _ _ _ h => h) (Or.inl ⟨by rfl, ?_⟩) (by assumption) ?_
      rotate_left
      · intro w' hSw
        (try dsimp only at hSw)
        go_simp
        try with_reducible rfl
      simp only [Act.put, List.getElem_toArray, List.getElem_cons_zero, List.getElem_cons_succ, List.setIfInBounds_toArray, List.set_cons_zero, List.set_cons_succ]
      refine wpAnyH_take (i := 3) (v := ?_) rfl (by kernel_rfl) (by kernel_rfl) (by kernel_rfl) (fun _ _ _ h => h) (Or.inl ⟨by rfl, ?_⟩) (by assumption) ?_
      rotate_left
      · intro w' hSw
        (try dsimp only at hSw)
        go_simp
        try with_reducible rfl
      simp only [Act.put, List.getElem_toArray, List.getElem_cons_zero, List.getElem_cons_succ, List.setIfInBounds_toArray, List.set_cons_zero, List.set_cons_succ]
      refine wpAnyH_take (i := 7) (v := ?_) rfl (by kernel_rfl) (by kernel_rfl) (by kernel_rfl) (fun _ _ _ h => h) (Or.inl ⟨by rfl, ?_⟩) (by assumption) ?_
      rotate_left
      · intro w' hSw
        (try dsimp only at hSw)
        go_simp
        try with_reducible rfl
      simp only [Act.put, List.getElem_toArray, List.getElem_cons_zero, List.getElem_cons_succ, List.setIfInBounds_toArray, List.set_cons_zero, List.set_cons_succ]
      refine wpAnyH_take (i := 8) (v := ?_) rfl (by kernel_rfl) (by kernel_rfl) (by kernel_rfl) (fun _ _ _ h => h) (Or.inl ⟨by rfl, ?_⟩) (by assumption) ?_
      rotate_left
      · intro w' hSw
        (try dsimp only at hSw)
        go_simp
        try with_reducible rfl
      simp only [Act.put, List.getElem_toArray, List.getElem_cons_zero, List.getElem_cons_succ, List.setIfInBounds_toArray, List.set_cons_zero, List.set_cons_succ]
      refine wpAnyH_ready (rs := [4]) (by kernel_rfl) (by simp) ?_
      refine AllReadyH.cons rfl (fun K hK => ?_) AllReadyH.nil
      go_simp
      go_at_call 36; refine (HOK.out _ (by rw [HB.out]; exact (Dw2.out).2.2.2.2)).mono ?_; rintro e w3 ⟨aw3, cw3, rfl, hbw3⟩; have HQw3 : Hid (Sq w w3 B ho hn am hq cm ko kn an kq cn) := (Dw2.out).below hbw3; clear hbw3
      go_wp2_with fail
      refine hK.out _ _ ?_ (fun hHeld => ?_)
      · exact CCw2.out _ HQw3.out
      clear hK K
      refine wpAnyH_take (i := 5) (v := ?_) rfl (by kernel_rfl) (by kernel_rfl) (by kernel_rfl) (fun _ _ _ h => h) (Or.inl ⟨by rfl, ?_⟩) (by assumption) ?_
      rotate_left
      · intro w' hSw
        (try dsimp only at hSw)
        go_simp
        try with_reducible rfl
      simp only [Act.put, List.getElem_toArray, List.getElem_cons_zero, List.getElem_cons_succ, List.setIfInBounds_toArray, List.set_cons_zero, List.set_cons_succ]
      refine wpAnyH_take (i := 6) (v := ?_) rfl (by kernel_rfl) (by kernel_rfl) (by kernel_rfl) (fun _ _ _ h => h) (Or.inl ⟨by rfl, ?_⟩) (by assumption) ?_
      rotate_left
      · intro w' hSw
        (try dsimp only at hSw)
        go_simp
        try with_reducible rfl
      simp only [Act.put, List.getElem_toArray, List.getElem_cons_zero, List.getElem_cons_succ, List.setIfInBounds_toArray, List.set_cons_zero, List.set_cons_succ]
      refine wpAnyH_take (i := 9) (v := ?_) rfl (by kernel_rfl) (by kernel_rfl) (by kernel_rfl) (fun _ _ _ h => h) (Or.inl ⟨by rfl, ?_⟩) (by assumption) ?_
      rotate_left
      · intro w' hSw
        (try dsimp only at hSw)
        go_simp
        try with_reducible rfl
      simp only [Act.put, List.getElem_toArray, List.getElem_cons_zero, List.getElem_cons_succ, List.setIfInBounds_toArray, List.set_cons_zero, List.set_cons_succ]
      refine wpAnyH_take (i := 10) (v := ?_) rfl (by kernel_rfl) (by kernel_rfl) (by kernel_rfl) (fun _ _ _ h => h) (Or.inl ⟨by rfl, ?_⟩) (by assumption) ?_
      rotate_left
      · intro w' hSw
        (try dsimp only at hSw)
        go_simp
        try with_reducible rfl
      simp only [Act.put, List.getElem_toArray, List.getElem_cons_zero, List.getElem_cons_succ, List.setIfInBounds_toArray, List.set_cons_zero, List.set_cons_succ]
      refine wpAnyH_done (by kernel_rfl) ?_ _
      clear CCw2 Dw2 hHeld
      go_wp2_with fail
      have hdrw3 : Below w3.heap.size w3 w3.drew := ⟨rfl, rfl, rfl, Nat.le_refl _, fun _ _ => rfl⟩
      have Dw3 : Hid (Sq w w3.drew B ho hn am hq cm ko kn an kq cn) := HQw3.out.below hdrw3
      have CCw3 : Hid (∀ W', Sq w W' B ho hn am hq cm ko kn an kq cn → W'.cell? ⟨B + 1, 0, none⟩ = some (.int .i64 ko) ∧ W'.cell? ⟨B, 1, none⟩ = some (.int .i64 hn) ∧ W'.cell? ⟨B, 2, none⟩ = some (.slice am hq cm)) := fun W' hb => by
        obtain ⟨x0, x1, x2⟩ := hb.1.cells
        obtain ⟨y0, y1, y2⟩ := hb.2.1.cells
        exact ⟨y0, x1, x2⟩
      clear hdrw3
      refine wp_region_held_drew (S := fun W' => W'.cell? ⟨B + 1, 0, none⟩ = some (.int .i64 ko) ∧ W'.cell? ⟨B, 1, none⟩ = some (.int .i64 hn) ∧ W'.cell? ⟨B, 2, none⟩ = some (.slice am hq cm)) (by kernel_rfl) ?_ (fun hHeld => ?_)
      · exact CCw3.out _ Dw3.out
      refine wpAnyH_take (i := 0) (v := ?_) rfl (by kernel_rfl) (by kernel_rfl) (by kernel_rfl) (fun _ _ _ h => h) (Or.inl ⟨by rfl, ?_⟩) (by assumption) ?_
      rotate_left
      · intro w' hSw
        (try dsimp only at hSw)
        go_simp
        try with_reducible rfl
      simp only [Act.put, List.getElem_toArray, List.getElem_cons_zero, List.setIfInBounds_toArray, List.set_cons_zero, List.set_cons_succ]
      refine wpAnyH_take (i := 1) (v := ?_) rfl (by kernel_rfl) (by kernel_rfl) (by kernel_rfl) (fun _ _ _ h => h) (Or.inl ⟨by rfl, ?_⟩) (by assumption) ?_
      rotate_left
      · intro w' hSw
        (try dsimp only at hSw)
        go_simp
        try with_reducible rfl
      simp only [Act.put, List.getElem_toArray, List.getElem_cons_zero, List.getElem_cons_succ, List.setIfInBounds_toArray, List.set_cons_zero, List.set_cons_succ]
      refine wpAnyH_take (i := 2) (v := ?_) rfl (by kernel_rfl) (by kernel_rfl) (by kernel_rfl) (fun _ _ _ h => h) (Or.inl ⟨by rfl, ?_⟩) (by assumption) ?_
      rotate_left
      · intro w' hSw
        (try dsimp only at hSw)
        go_simp
        try with_reducible rfl
      simp only [Act.put, List.getElem_toArray, List.getElem_cons_zero, List.getElem_cons_succ, List.setIfInBounds_toArray, List.set_cons_zero, List.set_cons_succ]
      refine wpAnyH_take (i := 3) (v := ?_) rfl (by kernel_rfl) (by kernel_rfl) (by kernel_rfl) (fun _ _ _ h => h) (Or.inl ⟨by rfl, ?_⟩) (by assumption) ?_
      rotate_left
      · intro w' hSw
        (try dsimp only at hSw)
        go_simp
        try with_reducible rfl
      simp only [Act.put, List.getElem_toArray, List.getElem_cons_zero, List.getElem_cons_succ, List.setIfInBounds_toArray, List.set_cons_zero, List.set_cons_succ]
      refine wpAnyH_take (i := 4) (v := ?_) rfl (by kernel_rfl) (by kernel_rfl) (by kernel_rfl) (fun _ _ _ h => h) (Or.inl ⟨by rfl, ?_⟩) (by assumption) ?_
      rotate_left
      · intro w' hSw
        (try dsimp only at hSw)
        go_simp
        try with_reducible rfl
      simp only [Act.put, List.getElem_toArray, List.getElem_cons_zero, List.getElem_cons_succ, List.setIfInBounds_toArray, List.set_cons_zero, List.set_cons_succ]
      refine wpAnyH_take (i := 5) (v := ?_) rfl (by kernel_rfl) (by kernel_rfl) (by kernel_rfl) (fun _ _ _ h => h) (Or.inl ⟨by rfl, ?_⟩) (by assumption) ?_
      rotate_left
      · intro w' hSw
        (try dsimp only at hSw)
        go_simp
        try with_reducible rfl
      simp only [Act.put, List.getElem_toArray, List.getElem_cons_zero, List.getElem_cons_succ, List.setIfInBounds_toArray, List.set_cons_zero, List.set_cons_succ]
      refine wpAnyH_ready (rs := [6]) (by kernel_rfl) (by simp) ?_
      refine AllReadyH.cons rfl (fun K hK => ?_) AllReadyH.nil
      go_simp
      go_at_call 37; refine (HNH.out _ (by rw [HB.out]; exact (Dw3.out).2.2.2.2)).mono ?_; rintro e w4 ⟨aw4, cw4, rfl, hbw4⟩; have HQw4 : Hid (Sq w w4 B ho hn am hq cm ko kn an kq cn) := (Dw3.out).below hbw4; clear hbw4
      go_wp2_with fail
      refine hK.out _ _ ?_ (fun hHeld => ?_)
      · exact CCw3.out _ HQw4.out
      clear hK K
      refine wpAnyH_take (i := 7) (v := ?_) rfl (by kernel_rfl) (by kernel_rfl) (by kernel_rfl) (fun _ _ _ h => h) (Or.inl ⟨by rfl, ?_⟩) (by assumption) ?_
      rotate_left
      · intro w' hSw
        (try dsimp only at hSw)
        go_simp
        try with_reducible rfl
      simp only [Act.put, List.getElem_toArray, List.getElem_cons_zero, List.getElem_cons_succ, List.setIfInBounds_toArray, List.set_cons_zero, List.set_cons_succ]
      refine wpAnyH_take (i := 8) (v := ?_) rfl (by kernel_rfl) (by kernel_rfl) (by kernel_rfl) (fun _ _ _ h => h) (Or.inl ⟨by rfl, ?_⟩) (by assumption) ?_
      rotate_left
      · intro w' hSw
        (try dsimp only at hSw)
        go_simp
        try with_reducible rfl
      simp only [Act.put, List.getElem_toArray, List.getElem_cons_zero, List.getElem_cons_succ, List.setIfInBounds_toArray, List.set_cons_zero, List.set_cons_succ]
      refine wpAnyH_take (i := 9) (v := ?_) rfl (by kernel_rfl) (by kernel_rfl) (by kernel_rfl) (fun _ _ _ h => h) (Or.inl ⟨by rfl, ?_⟩) (by assumption) ?_
      rotate_left
      · intro w' hSw
        (try dsimp only at hSw)
        go_simp
        try with_reducible rfl
      simp only [Act.put, List.getElem_toArray, List.getElem_cons_zero, List.getElem_cons_succ, List.setIfInBounds_toArray, List.set_cons_zero, List.set_cons_succ]
      refine wpAnyH_take (i := 10) (v := ?_) rfl (by kernel_rfl) (by kernel_rfl) (by kernel_rfl) (fun _ _ _ h => h) (Or.inl ⟨by rfl, ?_⟩) (by assumption) ?_
      rotate_left
      · intro w' hSw
        (try dsimp only at hSw)
        go_simp
        try with_reducible rfl
      simp only [Act.put, List.getElem_toArray, List.getElem_cons_zero, List.getElem_cons_succ, List.setIfInBounds_toArray, List.set_cons_zero, List.set_cons_succ]
      refine wpAnyH_done (by kernel_rfl) ?_ _
      clear CCw3 Dw3 hHeld
      obtain ⟨_, _, s3, s4, _⟩ := HQw4.out
      obtain ⟨a0, a1, a2⟩ := s3.cells
      obtain ⟨a3, a4, a5⟩ := s4.cells
      obtain ⟨z0, z1, z2⟩ := s3.frozen
      obtain ⟨z3, z4, z5⟩ := s4.frozen
      obtain ⟨u1, u2, u3⟩ := HQw4.out.empty (x := .int .i64 0) (y := .int .i64 0) (z := .slice none 0 0) (x' := .int .i64 0) (y' := .int .i64 0) (z' := .slice none 0 0)
      have v0 := Lib.cell_of_heap u1 0
      have v1 := Lib.cell_of_heap u1 1
      have v2 := Lib.cell_of_heap u1 2
      have v3 := Lib.cell_of_heap u2 0
      have v4 := Lib.cell_of_heap u2 1
      have v5 := Lib.cell_of_heap u2 2
      simp at v0 v1 v2 v3 v4 v5
      have HU := u3
      have HE : Hid (swF h k = 6) := HCL.out
      have HNE : Hid ((6 : Int) ≠ 0) := show (6 : Int) ≠ 0 by decide
      clear s3 s4 u1 u2 u3
      go_wp2
      refine bodyPost_ret (v := .tuple #[.agg #[.int .i64 0, .int .i64 0, .slice none 0 0], .agg #[.int .i64 0, .int .i64 0, .slice none 0 0], .int .i64 6]) (by simp [results, Tryd.results14, go_sem, v0, v1, v2, v3, v4, v5]) rfl ⟨P0.out _ _ HE.out HNE.out, HU⟩

end Go.Proofs.YtnkdmgekpajfhaeDoor
namespace Go.Proofs.YtnkdmgekpajfhaeDoor
open Go.RowKit Dist

set_option maxRecDepth 100000 in
set_option maxHeartbeats 16000000 in
theorem swapRef_ahead (h k : Hk) (am : Option Addr) (cm : Nat) (an : Option Addr) (cn : Nat) (w : World) (hm : Mks w am h.2.2) (hl : h.2.2.length ≤ maxLen) (hs : ∀ m ∈ h.2.2, m.2.size ≤ maxLen) (hc : h.2.2.length ≤ cm) (km : Mks w an k.2.2) (kl : k.2.2.length ≤ maxLen) (ks : ∀ m ∈ k.2.2, m.2.size ≤ maxLen) (kc : k.2.2.length ≤ cn) (z1 : (hf [h]).2 = 0) (z2 : (hf [k]).2 = 0) (z3 : ahd h k = true) (z4 : bhd h k = false) :
    Calls Tryd.prog 14 #[.agg #[.int .i64 h.1, .int .i64 h.2.1, .slice am h.2.2.length cm], .agg #[.int .i64 k.1, .int .i64 k.2.1, .slice an k.2.2.length cn]] w fun e w' => SwP h k e w' ∧ Below w.heap.size w w' := by
  have Z1 : Hid ((hf [h]).2 = 0) := z1
  have Z2 : Hid ((hf [k]).2 = 0) := z2
  have Z3 : Hid (ahd h k = true) := z3
  have Z4 : Hid (bhd h k = false) := z4
  clear z1 z2 z3 z4
  have HFT : Hid (∀ (o n : Int) (W : World) (D : Nat), Below w.heap.size w W → Bx W D o n am h.2.2.length cm → Calls Tryd.prog 35 #[.slice (some ⟨D, 0, none⟩) 1 1] W fun e w' => e = .returned (.tuple #[.int .i64 (hf [(o, n, h.2.2)]).1, .int .i64 (hf [(o, n, h.2.2)]).2]) ∧ Below W.heap.size W w') := fun o n W D hb hx =>
    refHunks (some ⟨D, 0, none⟩) [(o, n, h.2.2)] 1 W (hks_block hx (hm.below hb) hc) (by unfold maxLen; simp) (fun x hx => by rw [List.mem_singleton] at hx; rw [hx]; exact hl) (fun x hx => by rw [List.mem_singleton] at hx; rw [hx]; exact hs)
  have KFT : Hid (∀ (o n : Int) (W : World) (D : Nat), Below w.heap.size w W → Bx W D o n an k.2.2.length cn → Calls Tryd.prog 35 #[.slice (some ⟨D, 0, none⟩) 1 1] W fun e w' => e = .returned (.tuple #[.int .i64 (hf [(o, n, k.2.2)]).1, .int .i64 (hf [(o, n, k.2.2)]).2]) ∧ Below W.heap.size W w') := fun o n W D hb hx =>
    refHunks (some ⟨D, 0, none⟩) [(o, n, k.2.2)] 1 W (hks_block hx (km.below hb) kc) (by unfold maxLen; simp) (fun x hx => by rw [List.mem_singleton] at hx; rw [hx]; exact kl) (fun x hx => by rw [List.mem_singleton] at hx; rw [hx]; exact ks)
  have P0 : Hid (∀ f w', swF h k = f → f ≠ 0 → SwP h k (.returned (.tuple #[.agg #[.int .i64 0, .int .i64 0, .slice none 0 0], .agg #[.int .i64 0, .int .i64 0, .slice none 0 0], .int .i64 f])) w') := fun f w' e hf => SwP.bad e hf w'
  have HM : Hid (Mks w am h.2.2) := hm
  have KM : Hid (Mks w an k.2.2) := km
  obtain ⟨B, hB⟩ : ∃ B, w.heap.size = B := ⟨_, rfl⟩
  obtain ⟨p1, hp1⟩ : ∃ p, (hf [h]).1 = p := ⟨_, rfl⟩
  obtain ⟨f1, hf1⟩ : ∃ p, (hf [h]).2 = p := ⟨_, rfl⟩
  obtain ⟨p2, hp2⟩ : ∃ p, (hf [k]).1 = p := ⟨_, rfl⟩
  obtain ⟨f2, hf2⟩ : ∃ p, (hf [k]).2 = p := ⟨_, rfl⟩
  have E1 : Hid (f1 ≠ 0 → swF h k = f1) := fun e => by rw [← hf1]; exact swF_h (by rw [hf1]; exact e)
  have E2 : Hid (f1 = 0 → f2 ≠ 0 → swF h k = f2) := fun e0 e => by rw [← hf2]; exact swF_k (by rw [hf1]; exact e0) (by rw [hf2]; exact e)
  have H1 : Hid ((hf [h]).2 = f1) := hf1
  have H2 : Hid ((hf [k]).2 = f2) := hf2
  have HF1 := fun (W : World) (D : Nat) hb hx => HFT.out h.1 h.2.1 W D hb hx
  have HF2 := fun (W : World) (D : Nat) hb hx => KFT.out k.1 k.2.1 W D hb hx
  rw [show ((h.1, h.2.1, h.2.2) : Hk) = h from rfl, hp1, hf1] at HF1
  rw [show ((k.1, k.2.1, k.2.2) : Hk) = k from rfl, hp2, hf2] at HF2
  obtain ⟨ho, hho⟩ : ∃ x, h.1 = x := ⟨_, rfl⟩
  obtain ⟨hn, hhn⟩ : ∃ x, h.2.1 = x := ⟨_, rfl⟩
  obtain ⟨hq, hhq⟩ : ∃ x, h.2.2.length = x := ⟨_, rfl⟩
  obtain ⟨ko, hko⟩ : ∃ x, k.1 = x := ⟨_, rfl⟩
  obtain ⟨kn, hkn⟩ : ∃ x, k.2.1 = x := ⟨_, rfl⟩
  obtain ⟨kq, hkq⟩ : ∃ x, k.2.2.length = x := ⟨_, rfl⟩
  have LH : Hid (h.1 = ho ∧ h.2.1 = hn ∧ h.2.2.length = hq) := ⟨hho, hhn, hhq⟩
  have LK : Hid (k.1 = ko ∧ k.2.1 = kn ∧ k.2.2.length = kq) := ⟨hko, hkn, hkq⟩
  rw [hho, hhn, hhq] at HF1
  rw [hko, hkn, hkq] at HF2
  rw [hhq] at HFT
  rw [hkq] at KFT
  rw [hB] at HFT KFT HF1 HF2
  rw [hho, hhn, hhq, hko, hkn, hkq]
  have HB : Hid (w.heap.size = B) := hB
  have hq0 := Sq.start hB ho hn am hq cm ko kn an kq cn
  rw [hB]
  clear hho hhn hhq hko hkn hkq hp1 hf1 hp2 hf2 hB hm hl hs hc km kl ks kc
  go_enter Tryd.func14, Tryd.ntmps14
  go_wp2_with fail
  rw [HB.out]
  obtain ⟨hqs, hsz⟩ := hq0
  generalize (((w.alloc (.cells #[.int .i64 ho, .int .i64 hn, .slice am hq cm] 40)).alloc (.cells #[.int .i64 ko, .int .i64 kn, .slice an kq cn] 40)).alloc (.cells #[.int .i64 0, .int .i64 0, .slice none 0 0] 40)).alloc (.cells #[.int .i64 0, .int .i64 0, .slice none 0 0] 40) = W at hqs hsz ⊢
  have hx1 : Bx (W.alloc (.cells #[.int .i64 ho, .int .i64 hn, .slice am hq cm] 40)) (B + 1 + 1 + 1 + 1) ho hn am hq cm := by rw [← hsz]; exact heap_alloc_new W _
  have hqa := hqs.below (below_alloc W (.cells #[.int .i64 ho, .int .i64 hn, .slice am hq cm] 40))
  have hc1 := HF1 _ _ hqa.2.2.2.2 hx1
  clear hx1 hqs hsz HF1
  generalize W.alloc (.cells #[.int .i64 ho, .int .i64 hn, .slice am hq cm] 40) = Wa at hqa hc1 ⊢
  have HQA : Hid (Sq w Wa B ho hn am hq cm ko kn an kq cn) := hqa
  clear hqa
  go_wp2_with (go_at_call 35; refine hc1.mono ?_)
  rintro e w1 ⟨rfl, hb1⟩
  have HQ1 : Hid (Sq w w1 B ho hn am hq cm ko kn an kq cn) := HQA.out.below hb1
  clear hc1 hb1 HQA
  by_cases e1 : f1 = 0
  case' neg => exact absurd (H1.out.symm.trans Z1.out) e1
  case' pos =>
    have E2 : Hid (f2 ≠ 0 → swF h k = f2) := E2.out e1
    have H1 : Hid ((hf [h]).2 = 0) := by show (hf [h]).2 = 0; rw [← e1]; exact H1.out
    rw [e1]
    clear E1 e1
    obtain ⟨k0, k1, k2⟩ := HQ1.out.2.1.cells
    have hx2 : Bx (w1.alloc (.cells #[.int .i64 ko, .int .i64 kn, .slice an kq cn] 40)) w1.heap.size ko kn an kq cn := heap_alloc_new w1 _
    have hqb := HQ1.out.below (below_alloc w1 (.cells #[.int .i64 ko, .int .i64 kn, .slice an kq cn] 40))
    have hc2 := HF2 _ _ hqb.2.2.2.2 hx2
    have HQB : Hid (Sq w (w1.alloc (.cells #[.int .i64 ko, .int .i64 kn, .slice an kq cn] 40)) B ho hn am hq cm ko kn an kq cn) := hqb
    clear hx2 hqb HF2 HQ1
    go_wp2_with (go_at_call 35; refine hc2.mono ?_)
    rintro e w2 ⟨rfl, hb2⟩
    have HQ2 : Hid (Sq w w2 B ho hn am hq cm ko kn an kq cn) := HQB.out.below hb2
    clear hc2 hb2 HQB k0 k1 k2
    by_cases e2 : f2 = 0
    case' neg => exact absurd (H2.out.symm.trans Z2.out) e2
    case' pos =>
      have H2 : Hid ((hf [k]).2 = 0) := by show (hf [k]).2 = 0; rw [← e2]; exact H2.out
      rw [e2]
      clear E2 e2
      obtain ⟨hsf, hr0, hr1, hr2, hl, hsg⟩ := hf_one H1.out
      obtain ⟨ksf, kr0, kr1, kr2, kl, ksg⟩ := hf_one H2.out
      have hoh := fun W (hb : Below w.heap.size w W) => oldOf am h.2.2 cm W (HM.out.below hb) hsf
      have hnh := fun W (hb : Below w.heap.size w W) => newOf am h.2.2 cm W (HM.out.below hb) hsf
      have hok := fun W (hb : Below w.heap.size w W) => oldOf an k.2.2 cn W (KM.out.below hb) ksf
      have hnk := fun W (hb : Below w.heap.size w W) => newOf an k.2.2 cn W (KM.out.below hb) ksf
      rw [ob_less _ hsg] at hoh
      rw [nb_less _ hsg] at hnh
      rw [ob_less _ ksg] at hok
      rw [nb_less _ ksg] at hnk
      rw [LH.out.2.2] at hoh hnh
      rw [LK.out.2.2] at hok hnk
      have bo1 := ob_le h.2.2
      have bn1 := nb_le h.2.2
      have bo2 := ob_le k.2.2
      have bn2 := nb_le k.2.2
      rw [LH.out.1] at hr0 hr1 hr2
      rw [LH.out.2.1] at hr2
      rw [LK.out.1] at kr0 kr1 kr2
      rw [LK.out.2.1] at kr2
      have HRH : Hid (hn = ho) := hr2
      have HRK : Hid (kn = ko) := kr2
      have hn0 : 0 ≤ hn ∧ hn ≤ 60 := by omega
      have kn0 : 0 ≤ kn ∧ kn ≤ 60 := by omega
      clear hr2 kr2
      have HAH : Hid (ahd h k = decide (ko + (ob k.2.2 : Int) ≤ hn)) := by show ahd h k = _; unfold ahd; rw [LK.out.1, LH.out.2.1]
      have HBH : Hid (bhd h k = decide (hn + (Dist.nb h.2.2 : Int) ≤ ko)) := by show bhd h k = _; unfold bhd; rw [LK.out.1, LH.out.2.1]
      obtain ⟨oh, hoh'⟩ : ∃ x, ob h.2.2 = x := ⟨_, rfl⟩
      obtain ⟨nh, hnh'⟩ : ∃ x, Dist.nb h.2.2 = x := ⟨_, rfl⟩
      obtain ⟨ok, hok'⟩ : ∃ x, ob k.2.2 = x := ⟨_, rfl⟩
      obtain ⟨nk, hnk'⟩ : ∃ x, Dist.nb k.2.2 = x := ⟨_, rfl⟩
      have LN : Hid (ob h.2.2 = oh ∧ Dist.nb h.2.2 = nh ∧ ob k.2.2 = ok ∧ Dist.nb k.2.2 = nk) := ⟨hoh', hnh', hok', hnk'⟩
      rw [hoh'] at hoh bo1
      rw [hnh'] at hnh bn1 HBH
      rw [hok'] at hok bo2 HAH
      rw [hnk'] at hnk bn2
      have HOH : Hid (∀ W, Below w.heap.size w W → Calls Tryd.prog 36 #[.slice am hq cm] W fun e w' => ∃ a c, e = .returned (.slice a oh c) ∧ Below W.heap.size W w') := fun W hb => (hoh W hb).mono fun _ _ ⟨a, c, e, _, b⟩ => ⟨a, c, e, b⟩
      have HNH : Hid (∀ W, Below w.heap.size w W → Calls Tryd.prog 37 #[.slice am hq cm] W fun e w' => ∃ a c, e = .returned (.slice a nh c) ∧ Below W.heap.size W w') := fun W hb => (hnh W hb).mono fun _ _ ⟨a, c, e, _, b⟩ => ⟨a, c, e, b⟩
      have HOK : Hid (∀ W, Below w.heap.size w W → Calls Tryd.prog 36 #[.slice an kq cn] W fun e w' => ∃ a c, e = .returned (.slice a ok c) ∧ Below W.heap.size W w') := fun W hb => (hok W hb).mono fun _ _ ⟨a, c, e, _, b⟩ => ⟨a, c, e, b⟩
      have HNK : Hid (∀ W, Below w.heap.size w W → Calls Tryd.prog 37 #[.slice an kq cn] W fun e w' => ∃ a c, e = .returned (.slice a nk c) ∧ Below W.heap.size W w') := fun W hb => (hnk W hb).mono fun _ _ ⟨a, c, e, _, b⟩ => ⟨a, c, e, b⟩
      clear hoh hnh hok hnk hoh' hnh' hok' hnk' hsf ksf hsg ksg
      have hkl : kq ≤ 120 := by rw [← LK.out.2.2]; exact kl
      have hhl : hq ≤ 120 := by rw [← LH.out.2.2]; exact hl
      rw [LK.out.2.2] at bo2 bn2
      rw [LH.out.2.2] at bo1 bn1
      have q1 : IntKind.i64.wrap (ko + (ok : Int)) = ko + ok := by rw [IntKind.wrap_i64] <;> omega
      have q2 : IntKind.i64.wrap (hn + (nh : Int)) = hn + nh := by rw [IntKind.wrap_i64] <;> omega
      have q3 : IntKind.i64.wrap ((nk : Int) - ok) = nk - ok := by rw [IntKind.wrap_i64] <;> omega
      have q4 : IntKind.i64.wrap ((oh : Int) - nh) = oh - nh := by rw [IntKind.wrap_i64] <;> omega
      clear hl kl
      have HQw2 : Hid (Sq w w2 B ho hn am hq cm ko kn an kq cn) := HQ2.out
      clear HQ2
      have cA : ko + (ok : Int) ≤ hn := by have e := HAH.out; rw [Z3.out] at e; exact of_decide_eq_true e.symm
      have cB : ¬ (hn + (nh : Int) ≤ ko) := by have e := HBH.out; rw [Z4.out] at e; exact of_decide_eq_false e.symm
      have HNE : Hid (ahd h k ≠ bhd h k) := by show ahd h k ≠ bhd h k; rw [HAH.out, HBH.out, decide_eq_true cA, decide_eq_false cB]; decide
      have HSP : Hid (swP h k = ((ho + ((nk : Int) - ok), hn + ((nk : Int) - ok), h.2.2), k)) := by
        show swP h k = _
        unfold swP shf
        rw [if_pos (by rw [HAH.out, decide_eq_true cA]), LN.out.2.2.1, LN.out.2.2.2, LH.out.1, LH.out.2.1]
      go_wp2_with fail
      have hdrw2 : Below w2.heap.size w2 w2.drew := ⟨rfl, rfl, rfl, Nat.le_refl _, fun _ _ => rfl⟩
      have Dw2 : Hid (Sq w w2.drew B ho hn am hq cm ko kn an kq cn) := HQw2.out.below hdrw2
      have CCw2 : Hid (∀ W', Sq w W' B ho hn am hq cm ko kn an kq cn → W'.cell? ⟨B + 1, 0, none⟩ = some (.int .i64 ko) ∧ W'.cell? ⟨B + 1, 2, none⟩ = some (.slice an kq cn) ∧ W'.cell? ⟨B, 1, none⟩ = some (.int .i64 hn)) := fun W' hb => by
        obtain ⟨x0, x1, x2⟩ := hb.1.cells
        obtain ⟨y0, y1, y2⟩ := hb.2.1.cells
        exact ⟨y0, y2, x1⟩
      clear hdrw2
      refine wp_region_held_drew (S := fun W' => W'.cell? ⟨B + 1, 0, none⟩ = some (.int .i64 ko) ∧ W'.cell? ⟨B + 1, 2, none⟩ = some (.slice an kq cn) ∧ W'.cell? ⟨B, 1, none⟩ = some (.int .i64 hn)) (by kernel_rfl) ?_ (fun hHeld => ?_)
      · exact CCw2.out _ Dw2.out
      refine wpAnyH_take (i := 0) (v := ?_) rfl (by kernel_rfl) (by kernel_rfl) (by kernel_rfl) (fun _ _ _ h => h) (Or.inl ⟨by rfl, ?_⟩) (by assumption) ?_
      rotate_left
      · intro w' hSw
        (try dsimp only at hSw)
        go_simp
        try with_reducible rfl
      simp only [Act.put, List.getElem_toArray, List.getElem_cons_zero, List.setIfInBounds_toArray, List.set_cons_zero, List.set_cons_succ]
      refine wpAnyH_take (i := 1) (v := ?_) rfl (by kernel_rfl) (by kernel_rfl) (by kernel_rfl) (fun _ _ _ h => h) (Or.inl ⟨by rfl, ?_⟩) (by assumption) ?_
      rotate_left
      · intro w' hSw
        (try dsimp only at hSw)
        go_simp
        try with_reducible rfl
      simp only [Act.put, List.getElem_toArray, List.getElem_cons_zero, List.getElem_cons_succ, List.setIfInBounds_toArray, List.set_cons_zero, List.set_cons_succ]
      refine wpAnyH_take (i := 2) (v := ?_) rfl (by kernel_rfl) (by kernel_rfl) (by kernel_rfl) (fun _ _ _ h => h) (Or.inl ⟨by rfl, ?_⟩) (by assumption) ?_
      rotate_left
      · intro w' hSw
        (try dsimp only at hSw)
        go_simp
        try with_reducible rfl
      simp only [Act.put, List.getElem_toArray, List.getElem_cons_zero, List.getElem_cons_succ, List.setIfInBounds_toArray, List.set_cons_zero, List.set_cons_succ]
      refine wpAnyH_take (i := 3) (v := ?_) rfl (by kernel_rfl) (by kernel_rfl) (by kernel_rfl) (fun _ _ _ h => h) (Or.inl ⟨by rfl, ?_⟩) (by assumption) ?_
      rotate_left
      · intro w' hSw
        (try dsimp only at hSw)
        go_simp
        try with_reducible rfl
      simp only [Act.put, List.getElem_toArray, List.getElem_cons_zero, List.getElem_cons_succ, List.setIfInBounds_toArray, List.set_cons_zero, List.set_cons_succ]
      refine wpAnyH_take (i := 7) (v := ?_) rfl (by kernel_rfl) (by kernel_rfl) (by kernel_rfl) (fun _ _ _ h => h) (Or.inl ⟨by rfl, ?_⟩) (by assumption) ?_
      rotate_left
      · intro w' hSw
        (try dsimp only at hSw)
        go_simp
        try with_reducible rfl
      simp only [Act.put, List.getElem_toArray, List.getElem_cons_zero, List.getElem_cons_succ, List.setIfInBounds_toArray, List.set_cons_zero, List.set_cons_succ]
      refine wpAnyH_take (i := 8) (v := ?_) rfl (by kernel_rfl) (by kernel_rfl) (by kernel_rfl) (fun _ _ _ h => h) (Or.inl ⟨by rfl, ?_⟩) (by assumption) ?_
      rotate_left
      · intro w' hSw
        (try dsimp only at hSw)
        go_simp
        try with_reducible rfl
      simp only [Act.put, List.getElem_toArray, List.getElem_cons_zero, List.getElem_cons_succ, List.setIfInBounds_toArray, List.set_cons_zero, List.set_cons_succ]
      refine wpAnyH_ready (rs := [4]) (by kernel_rfl) (by simp) ?_
      refine AllReadyH.cons rfl (fun K hK => ?_) AllReadyH.nil
      go_simp
      go_at_call 36; refine (HOK.out _ (by rw [HB.out]; exact (Dw2.out).2.2.2.2)).mono ?_; rintro e w3 ⟨aw3, cw3, rfl, hbw3⟩; have HQw3 : Hid (Sq w w3 B ho hn am hq cm ko kn an kq cn) := (Dw2.out).below hbw3; clear hbw3
      go_wp2_with fail
      refine hK.out _ _ ?_ (fun hHeld => ?_)
      · exact CCw2.out _ HQw3.out
      clear hK K
      refine wpAnyH_take (i := 5) (v := ?_) rfl (by kernel_rfl) (by kernel_rfl) (by kernel_rfl) (fun _ _ _ h => h) (Or.inl ⟨by rfl, ?_⟩) (by assumption) ?_
      rotate_left
      · intro w' hSw
        (try dsimp only at hSw)
        go_simp
        try with_reducible rfl
      simp only [Act.put, List.getElem_toArray, List.getElem_cons_zero, List.getElem_cons_succ, List.setIfInBounds_toArray, List.set_cons_zero, List.set_cons_succ]
      refine wpAnyH_take (i := 6) (v := ?_) rfl (by kernel_rfl) (by kernel_rfl) (by kernel_rfl) (fun _ _ _ h => h) (Or.inl ⟨by rfl, ?_⟩) (by assumption) ?_
      rotate_left
      · intro w' hSw
        (try dsimp only at hSw)
        go_simp
        try with_reducible rfl
      simp only [Act.put, List.getElem_toArray, List.getElem_cons_zero, List.getElem_cons_succ, List.setIfInBounds_toArray, List.set_cons_zero, List.set_cons_succ]
      refine wpAnyH_take (i := 9) (v := ?_) rfl (by kernel_rfl) (by kernel_rfl) (by kernel_rfl) (fun _ _ _ h => h) (Or.inl ⟨by rfl, ?_⟩) (by assumption) ?_
      rotate_left
      · intro w' hSw
        (try dsimp only at hSw)
        go_simp
        try with_reducible rfl
      simp only [Act.put, List.getElem_toArray, List.getElem_cons_zero, List.getElem_cons_succ, List.setIfInBounds_toArray, List.set_cons_zero, List.set_cons_succ]
      refine wpAnyH_take (i := 10) (v := ?_) rfl (by kernel_rfl) (by kernel_rfl) (by kernel_rfl) (fun _ _ _ h => h) (Or.inl ⟨by rfl, ?_⟩) (by assumption) ?_
      rotate_left
      · intro w' hSw
        (try dsimp only at hSw)
        go_simp
        try with_reducible rfl
      simp only [Act.put, List.getElem_toArray, List.getElem_cons_zero, List.getElem_cons_succ, List.setIfInBounds_toArray, List.set_cons_zero, List.set_cons_succ]
      refine wpAnyH_done (by kernel_rfl) ?_ _
      clear CCw2 Dw2 hHeld
      go_wp2_with fail
      have hdrw3 : Below w3.heap.size w3 w3.drew := ⟨rfl, rfl, rfl, Nat.le_refl _, fun _ _ => rfl⟩
      have Dw3 : Hid (Sq w w3.drew B ho hn am hq cm ko kn an kq cn) := HQw3.out.below hdrw3
      have CCw3 : Hid (∀ W', Sq w W' B ho hn am hq cm ko kn an kq cn → W'.cell? ⟨B + 1, 0, none⟩ = some (.int .i64 ko) ∧ W'.cell? ⟨B, 1, none⟩ = some (.int .i64 hn) ∧ W'.cell? ⟨B, 2, none⟩ = some (.slice am hq cm)) := fun W' hb => by
        obtain ⟨x0, x1, x2⟩ := hb.1.cells
        obtain ⟨y0, y1, y2⟩ := hb.2.1.cells
        exact ⟨y0, x1, x2⟩
      clear hdrw3
      refine wp_region_held_drew (S := fun W' => W'.cell? ⟨B + 1, 0, none⟩ = some (.int .i64 ko) ∧ W'.cell? ⟨B, 1, none⟩ = some (.int .i64 hn) ∧ W'.cell? ⟨B, 2, none⟩ = some (.slice am hq cm)) (by kernel_rfl) ?_ (fun hHeld => ?_)
      · exact CCw3.out _ Dw3.out
      refine wpAnyH_take (i := 0) (v := ?_) rfl (by kernel_rfl) (by kernel_rfl) (by kernel_rfl) (fun _ _ _ h => h) (Or.inl ⟨by rfl, ?_⟩) (by assumption) ?_
      rotate_left
      · intro w' hSw
        (try dsimp only at hSw)
        go_simp
        try with_reducible rfl
      simp only [Act.put, List.getElem_toArray, List.getElem_cons_zero, List.setIfInBounds_toArray, List.set_cons_zero, List.set_cons_succ]
      refine wpAnyH_take (i := 1) (v := ?_) rfl (by kernel_rfl) (by kernel_rfl) (by kernel_rfl) (fun _ _ _ h => h) (Or.inl ⟨by rfl, ?_⟩) (by assumption) ?_
      rotate_left
      · intro w' hSw
        (try dsimp only at hSw)
        go_simp
        try with_reducible rfl
      simp only [Act.put, List.getElem_toArray, List.getElem_cons_zero, List.getElem_cons_succ, List.setIfInBounds_toArray, List.set_cons_zero, List.set_cons_succ]
      refine wpAnyH_take (i := 2) (v := ?_) rfl (by kernel_rfl) (by kernel_rfl) (by kernel_rfl) (fun _ _ _ h => h) (Or.inl ⟨by rfl, ?_⟩) (by assumption) ?_
      rotate_left
      · intro w' hSw
        (try dsimp only at hSw)
        go_simp
        try with_reducible rfl
      simp only [Act.put, List.getElem_toArray, List.getElem_cons_zero, List.getElem_cons_succ, List.setIfInBounds_toArray, List.set_cons_zero, List.set_cons_succ]
      refine wpAnyH_take (i := 3) (v := ?_) rfl (by kernel_rfl) (by kernel_rfl) (by kernel_rfl) (fun _ _ _ h => h) (Or.inl ⟨by rfl, ?_⟩) (by assumption) ?_
      rotate_left
      · intro w' hSw
        (try dsimp only at hSw)
        go_simp
        try with_reducible rfl
      simp only [Act.put, List.getElem_toArray, List.getElem_cons_zero, List.getElem_cons_succ, List.setIfInBounds_toArray, List.set_cons_zero, List.set_cons_succ]
      refine wpAnyH_take (i := 4) (v := ?_) rfl (by kernel_rfl) (by kernel_rfl) (by kernel_rfl) (fun _ _ _ h => h) (Or.inl ⟨by rfl, ?_⟩) (by assumption) ?_
      rotate_left
      · intro w' hSw
        (try dsimp only at hSw)
        go_simp
        try with_reducible rfl
      simp only [Act.put, List.getElem_toArray, List.getElem_cons_zero, List.getElem_cons_succ, List.setIfInBounds_toArray, List.set_cons_zero, List.set_cons_succ]
      refine wpAnyH_take (i := 5) (v := ?_) rfl (by kernel_rfl) (by kernel_rfl) (by kernel_rfl) (fun _ _ _ h => h) (Or.inl ⟨by rfl, ?_⟩) (by assumption) ?_
      rotate_left
      · intro w' hSw
        (try dsimp only at hSw)
        go_simp
        try with_reducible rfl
      simp only [Act.put, List.getElem_toArray, List.getElem_cons_zero, List.getElem_cons_succ, List.setIfInBounds_toArray, List.set_cons_zero, List.set_cons_succ]
      refine wpAnyH_ready (rs := [6]) (by kernel_rfl) (by simp) ?_
      refine AllReadyH.cons rfl (fun K hK => ?_) AllReadyH.nil
      go_simp
      go_at_call 37; refine (HNH.out _ (by rw [HB.out]; exact (Dw3.out).2.2.2.2)).mono ?_; rintro e w4 ⟨aw4, cw4, rfl, hbw4⟩; have HQw4 : Hid (Sq w w4 B ho hn am hq cm ko kn an kq cn) := (Dw3.out).below hbw4; clear hbw4
      go_wp2_with fail
      refine hK.out _ _ ?_ (fun hHeld => ?_)
      · exact CCw3.out _ HQw4.out
      clear hK K
      refine wpAnyH_take (i := 7) (v := ?_) rfl (by kernel_rfl) (by kernel_rfl) (by kernel_rfl) (fun _ _ _ h => h) (Or.inl ⟨by rfl, ?_⟩) (by assumption) ?_
      rotate_left
      · intro w' hSw
        (try dsimp only at hSw)
        go_simp
        try with_reducible rfl
      simp only [Act.put, List.getElem_toArray, List.getElem_cons_zero, List.getElem_cons_succ, List.setIfInBounds_toArray, List.set_cons_zero, List.set_cons_succ]
      refine wpAnyH_take (i := 8) (v := ?_) rfl (by kernel_rfl) (by kernel_rfl) (by kernel_rfl) (fun _ _ _ h => h) (Or.inl ⟨by rfl, ?_⟩) (by assumption) ?_
      rotate_left
      · intro w' hSw
        (try dsimp only at hSw)
        go_simp
        try with_reducible rfl
      simp only [Act.put, List.getElem_toArray, List.getElem_cons_zero, List.getElem_cons_succ, List.setIfInBounds_toArray, List.set_cons_zero, List.set_cons_succ]
      refine wpAnyH_take (i := 9) (v := ?_) rfl (by kernel_rfl) (by kernel_rfl) (by kernel_rfl) (fun _ _ _ h => h) (Or.inl ⟨by rfl, ?_⟩) (by assumption) ?_
      rotate_left
      · intro w' hSw
        (try dsimp only at hSw)
        go_simp
        try with_reducible rfl
      simp only [Act.put, List.getElem_toArray, List.getElem_cons_zero, List.getElem_cons_succ, List.setIfInBounds_toArray, List.set_cons_zero, List.set_cons_succ]
      refine wpAnyH_take (i := 10) (v := ?_) rfl (by kernel_rfl) (by kernel_rfl) (by kernel_rfl) (fun _ _ _ h => h) (Or.inl ⟨by rfl, ?_⟩) (by assumption) ?_
      rotate_left
      · intro w' hSw
        (try dsimp only at hSw)
        go_simp
        try with_reducible rfl
      simp only [Act.put, List.getElem_toArray, List.getElem_cons_zero, List.getElem_cons_succ, List.setIfInBounds_toArray, List.set_cons_zero, List.set_cons_succ]
      refine wpAnyH_done (by kernel_rfl) ?_ _
      clear CCw3 Dw3 hHeld
      go_wp2_with fail
      have hdrw4 : Below w4.heap.size w4 w4.drew := ⟨rfl, rfl, rfl, Nat.le_refl _, fun _ _ => rfl⟩
      have Dw4 : Hid (Sq w w4.drew B ho hn am hq cm ko kn an kq cn) := HQw4.out.below hdrw4
      have CCw4 : Hid (∀ W', Sq w W' B ho hn am hq cm ko kn an kq cn → W'.cell? ⟨B + 1, 2, none⟩ = some (.slice an kq cn)) := fun W' hb => by
        obtain ⟨x0, x1, x2⟩ := hb.1.cells
        obtain ⟨y0, y1, y2⟩ := hb.2.1.cells
        exact y2
      clear hdrw4
      refine wp_region_held_drew (S := fun W' => W'.cell? ⟨B + 1, 2, none⟩ = some (.slice an kq cn)) (by kernel_rfl) ?_ (fun hHeld => ?_)
      · exact CCw4.out _ Dw4.out
      refine wpAnyH_take (i := 0) (v := ?_) rfl (by kernel_rfl) (by kernel_rfl) (by kernel_rfl) (fun _ _ _ h => h) (Or.inl ⟨by rfl, ?_⟩) (by assumption) ?_
      rotate_left
      · intro w' hSw
        (try dsimp only at hSw)
        go_simp
        try with_reducible rfl
      simp only [Act.put, List.getElem_toArray, List.getElem_cons_zero, List.setIfInBounds_toArray, List.set_cons_zero, List.set_cons_succ]
      refine wpAnyH_take (i := 1) (v := ?_) rfl (by kernel_rfl) (by kernel_rfl) (by kernel_rfl) (fun _ _ _ h => h) (Or.inl ⟨by rfl, ?_⟩) (by assumption) ?_
      rotate_left
      · intro w' hSw
        (try dsimp only at hSw)
        go_simp
        try with_reducible rfl
      simp only [Act.put, List.getElem_toArray, List.getElem_cons_zero, List.getElem_cons_succ, List.setIfInBounds_toArray, List.set_cons_zero, List.set_cons_succ]
      refine wpAnyH_take (i := 4) (v := ?_) rfl (by kernel_rfl) (by kernel_rfl) (by kernel_rfl) (fun _ _ _ h => h) (Or.inl ⟨by rfl, ?_⟩) (by assumption) ?_
      rotate_left
      · intro w' hSw
        (try dsimp only at hSw)
        go_simp
        try with_reducible rfl
      simp only [Act.put, List.getElem_toArray, List.getElem_cons_zero, List.getElem_cons_succ, List.setIfInBounds_toArray, List.set_cons_zero, List.set_cons_succ]
      refine wpAnyH_take (i := 5) (v := ?_) rfl (by kernel_rfl) (by kernel_rfl) (by kernel_rfl) (fun _ _ _ h => h) (Or.inl ⟨by rfl, ?_⟩) (by assumption) ?_
      rotate_left
      · intro w' hSw
        (try dsimp only at hSw)
        go_simp
        try with_reducible rfl
      simp only [Act.put, List.getElem_toArray, List.getElem_cons_zero, List.getElem_cons_succ, List.setIfInBounds_toArray, List.set_cons_zero, List.set_cons_succ]
      refine wpAnyH_ready (rs := [2]) (by kernel_rfl) (by simp) ?_
      refine AllReadyH.cons rfl (fun K hK => ?_) AllReadyH.nil
      go_simp
      go_at_call 37; refine (HNK.out _ (by rw [HB.out]; exact (Dw4.out).2.2.2.2)).mono ?_; rintro e w5 ⟨aw5, cw5, rfl, hbw5⟩; have HQw5 : Hid (Sq w w5 B ho hn am hq cm ko kn an kq cn) := (Dw4.out).below hbw5; clear hbw5
      go_wp2_with fail
      refine hK.out _ _ ?_ (fun hHeld => ?_)
      · exact CCw4.out _ HQw5.out
      clear hK K
      refine wpAnyH_take (i := 3) (v := ?_) rfl (by kernel_rfl) (by kernel_rfl) (by kernel_rfl) (fun _ _ _ h => h) (Or.inl ⟨by rfl, ?_⟩) (by assumption) ?_
      rotate_left
      · intro w' hSw
        (try dsimp only at hSw)
        go_simp
        try with_reducible rfl
      simp only [Act.put, List.getElem_toArray, List.getElem_cons_zero, List.getElem_cons_succ, List.setIfInBounds_toArray, List.set_cons_zero, List.set_cons_succ]
      refine wpAnyH_ready (rs := [6]) (by kernel_rfl) (by simp) ?_
      refine AllReadyH.cons rfl (fun K hK => ?_) AllReadyH.nil
      go_simp
      go_at_call 36; refine (HOK.out _ (by rw [HB.out]; exact (HQw5.out).2.2.2.2)).mono ?_; rintro e w6 ⟨aw6, cw6, rfl, hbw6⟩; have HQw6 : Hid (Sq w w6 B ho hn am hq cm ko kn an kq cn) := (HQw5.out).below hbw6; clear hbw6
      go_wp2_with fail
      refine hK.out _ _ ?_ (fun hHeld => ?_)
      · exact CCw4.out _ HQw6.out
      clear hK K
      refine wpAnyH_take (i := 7) (v := ?_) rfl (by kernel_rfl) (by kernel_rfl) (by kernel_rfl) (fun _ _ _ h => h) (Or.inl ⟨by rfl, ?_⟩) (by assumption) ?_
      rotate_left
      · intro w' hSw
        (try dsimp only at hSw)
        go_simp
        try with_reducible rfl
      simp only [Act.put, List.getElem_toArray, List.getElem_cons_zero, List.getElem_cons_succ, List.setIfInBounds_toArray, List.set_cons_zero, List.set_cons_succ]
      refine wpAnyH_take (i := 8) (v := ?_) rfl (by kernel_rfl) (by kernel_rfl) (by kernel_rfl) (fun _ _ _ h => h) (Or.inl ⟨by rfl, ?_⟩) (by assumption) ?_
      rotate_left
      · intro w' hSw
        (try dsimp only at hSw)
        go_simp
        try with_reducible rfl
      simp only [Act.put, List.getElem_toArray, List.getElem_cons_zero, List.getElem_cons_succ, List.setIfInBounds_toArray, List.set_cons_zero, List.set_cons_succ]
      refine wpAnyH_take (i := 9) (v := ?_) rfl (by kernel_rfl) (by kernel_rfl) (by kernel_rfl) (fun _ _ _ h => h) (Or.inl ⟨by rfl, ?_⟩) (by assumption) ?_
      rotate_left
      · intro w' hSw
        (try dsimp only at hSw)
        go_simp
        try with_reducible rfl
      simp only [Act.put, List.getElem_toArray, List.getElem_cons_zero, List.getElem_cons_succ, List.setIfInBounds_toArray, List.set_cons_zero, List.set_cons_succ]
      refine wpAnyH_done (by kernel_rfl) ?_ _
      clear CCw4 Dw4 hHeld
      obtain ⟨x0, x1, x2⟩ := HQw6.out.1.cells
      obtain ⟨z0, z1, z2⟩ := HQw6.out.1.frozen
      have HQ7 := HQw6.out.moveH (ho + ((nk : Int) - ok)) (hn + ((nk : Int) - ok))
      obtain ⟨y0, y1, y2⟩ := HQ7.1.cells
      go_wp2_with fail
      have hs7 : ((w6.setCell ⟨B, 0, none⟩ (.int .i64 (ho + ((nk : Int) - ok)))).setCell ⟨B, 1, none⟩ (.int .i64 (hn + ((nk : Int) - ok)))).heap.size = w6.heap.size := by simp
      have hx : Bx (((w6.setCell ⟨B, 0, none⟩ (.int .i64 (ho + ((nk : Int) - ok)))).setCell ⟨B, 1, none⟩ (.int .i64 (hn + ((nk : Int) - ok)))).alloc (.cells #[.int .i64 (ho + ((nk : Int) - ok)), .int .i64 (hn + ((nk : Int) - ok)), .slice am hq cm] 40)) w6.heap.size (ho + ((nk : Int) - ok)) (hn + ((nk : Int) - ok)) am hq cm := by
        have := heap_alloc_new ((w6.setCell ⟨B, 0, none⟩ (.int .i64 (ho + ((nk : Int) - ok)))).setCell ⟨B, 1, none⟩ (.int .i64 (hn + ((nk : Int) - ok)))) (.cells #[.int .i64 (ho + ((nk : Int) - ok)), .int .i64 (hn + ((nk : Int) - ok)), .slice am hq cm] 40)
        rw [hs7] at this
        exact this
      have hq8 := HQ7.below (below_alloc ((w6.setCell ⟨B, 0, none⟩ (.int .i64 (ho + ((nk : Int) - ok)))).setCell ⟨B, 1, none⟩ (.int .i64 (hn + ((nk : Int) - ok)))) (.cells #[.int .i64 (ho + ((nk : Int) - ok)), .int .i64 (hn + ((nk : Int) - ok)), .slice am hq cm] 40))
      have hc3 := HFT.out (ho + ((nk : Int) - ok)) (hn + ((nk : Int) - ok)) _ _ hq8.2.2.2.2 hx
      clear x0 x1 x2 y0 y1 y2 z0 z1 z2 HQ7 hx hs7
      generalize ((w6.setCell ⟨B, 0, none⟩ (.int .i64 (ho + ((nk : Int) - ok)))).setCell ⟨B, 1, none⟩ (.int .i64 (hn + ((nk : Int) - ok)))).alloc (.cells #[.int .i64 (ho + ((nk : Int) - ok)), .int .i64 (hn + ((nk : Int) - ok)), .slice am hq cm] 40) = w8 at hq8 hc3 ⊢
      have HQw8 : Hid (Sq w w8 B (ho + ((nk : Int) - ok)) (hn + ((nk : Int) - ok)) am hq cm ko kn an kq cn) := hq8
      obtain ⟨p3, hp3⟩ : ∃ x, (hf [((ho + ((nk : Int) - ok)), (hn + ((nk : Int) - ok)), h.2.2)]).1 = x := ⟨_, rfl⟩
      obtain ⟨f3, hf3⟩ : ∃ x, (hf [((ho + ((nk : Int) - ok)), (hn + ((nk : Int) - ok)), h.2.2)]).2 = x := ⟨_, rfl⟩
      have H3 : Hid ((hf [(swP h k).1]).2 = f3) := by show (hf [(swP h k).1]).2 = f3; rw [HSP.out]; exact hf3
      rw [hp3, hf3] at hc3
      clear hq8 hp3 hf3
      go_wp2_with (go_at_call 35; refine hc3.mono ?_)
      rintro e w9 ⟨rfl, hb9⟩
      have HQw9 : Hid (Sq w w9 B (ho + ((nk : Int) - ok)) (hn + ((nk : Int) - ok)) am hq cm ko kn an kq cn) := HQw8.out.below hb9
      clear hc3 hb9 HQw8
      by_cases e3 : f3 = 0
      case' neg =>
        have hz1 : (f3 == 0) = false := by simpa using e3
        have hz2 : (f3 != 0) = true := by simpa using e3
        obtain ⟨_, _, s3, s4, _⟩ := HQw9.out
        obtain ⟨a0, a1, a2⟩ := s3.cells
        obtain ⟨a3, a4, a5⟩ := s4.cells
        obtain ⟨z0, z1, z2⟩ := s3.frozen
        obtain ⟨z3, z4, z5⟩ := s4.frozen
        obtain ⟨u1, u2, u3⟩ := HQw9.out.empty (x := .int .i64 0) (y := .int .i64 0) (z := .slice none 0 0) (x' := .int .i64 0) (y' := .int .i64 0) (z' := .slice none 0 0)
        have v0 := Lib.cell_of_heap u1 0
        have v1 := Lib.cell_of_heap u1 1
        have v2 := Lib.cell_of_heap u1 2
        have v3 := Lib.cell_of_heap u2 0
        have v4 := Lib.cell_of_heap u2 1
        have v5 := Lib.cell_of_heap u2 2
        simp at v0 v1 v2 v3 v4 v5
        have HU := u3
        have HE : Hid (swF h k = f3) := by rw [swF_m H1.out H2.out HNE.out (by rw [H3.out]; exact e3)]; exact H3.out
        have HNE : Hid ((f3 : Int) ≠ 0) := e3
        clear s3 s4 u1 u2 u3 e3
        go_wp2
        refine bodyPost_ret (v := .tuple #[.agg #[.int .i64 0, .int .i64 0, .slice none 0 0], .agg #[.int .i64 0, .int .i64 0, .slice none 0 0], .int .i64 f3]) (by simp [results, Tryd.results14, go_sem, v0, v1, v2, v3, v4, v5]) rfl ⟨P0.out _ _ HE.out HNE.out, HU⟩
      case' pos =>
        rw [e3]
        have HF0 : Hid (swF h k = 0) := by
          show swF h k = 0
          rw [swF_n H1.out H2.out HNE.out (by rw [H3.out]; exact e3), HSP.out]
          exact H2.out
        clear e3 H3
        obtain ⟨k0, k1, k2⟩ := HQw9.out.2.1.cells
        have hx2 : Bx (w9.alloc (.cells #[.int .i64 ko, .int .i64 kn, .slice an kq cn] 40)) w9.heap.size ko kn an kq cn := heap_alloc_new w9 _
        have hqb := HQw9.out.below (below_alloc w9 (.cells #[.int .i64 ko, .int .i64 kn, .slice an kq cn] 40))
        have hc4 := KFT.out ko kn _ _ hqb.2.2.2.2 hx2
        have ek : ((ko, kn, k.2.2) : Hk) = k := by rw [← LK.out.1, ← LK.out.2.1]
        rw [ek, H2.out] at hc4
        obtain ⟨p4, hp4⟩ : ∃ x, (hf [k]).1 = x := ⟨_, rfl⟩
        rw [hp4] at hc4
        have HQB : Hid (Sq w (w9.alloc (.cells #[.int .i64 ko, .int .i64 kn, .slice an kq cn] 40)) B (ho + ((nk : Int) - ok)) (hn + ((nk : Int) - ok)) am hq cm ko kn an kq cn) := hqb
        clear hx2 hqb ek hp4
        go_wp2_with (go_at_call 35; refine hc4.mono ?_)
        rintro e w10 ⟨rfl, hb10⟩
        have HQ10 : Hid (Sq w w10 B (ho + ((nk : Int) - ok)) (hn + ((nk : Int) - ok)) am hq cm ko kn an kq cn) := HQB.out.below hb10
        clear hc4 hb10 HQB k0 k1 k2
        obtain ⟨x0, x1, x2⟩ := HQ10.out.1.cells
        obtain ⟨k0, k1, k2⟩ := HQ10.out.2.1.cells
        obtain ⟨_, _, s3, s4, _⟩ := HQ10.out
        obtain ⟨a0, a1, a2⟩ := s3.cells
        obtain ⟨a3, a4, a5⟩ := s4.cells
        obtain ⟨z0, z1, z2⟩ := s3.frozen
        obtain ⟨z3, z4, z5⟩ := s4.frozen
        obtain ⟨u1, u2, u3⟩ := HQ10.out.empty (x := .int .i64 ko) (y := .int .i64 kn) (z := .slice an kq cn) (x' := .int .i64 (ho + ((nk : Int) - ok))) (y' := .int .i64 (hn + ((nk : Int) - ok))) (z' := .slice am hq cm)
        have v0 := Lib.cell_of_heap (drew_heap u1) 0
        have v1 := Lib.cell_of_heap (drew_heap u1) 1
        have v2 := Lib.cell_of_heap (drew_heap u1) 2
        have v3 := Lib.cell_of_heap (drew_heap u2) 0
        have v4 := Lib.cell_of_heap (drew_heap u2) 1
        have v5 := Lib.cell_of_heap (drew_heap u2) 2
        simp at v0 v1 v2 v3 v4 v5
        have HU := drew_below u3
        clear s3 s4 u1 u2 u3
        go_wp2_with fail
        go_region
        go_wp2
        refine bodyPost_ret (v := .tuple #[.agg #[.int .i64 ko, .int .i64 kn, .slice an kq cn], .agg #[.int .i64 (ho + ((nk : Int) - ok)), .int .i64 (hn + ((nk : Int) - ok)), .slice am hq cm], .int .i64 0]) (by simp [results, Tryd.results14, go_sem, v0, v1, v2, v3, v4, v5]) rfl ⟨SwP.ok HF0.out HSP.out ⟨rfl, rfl, LH.out.2.2⟩ ⟨LK.out.1, LK.out.2.1, LK.out.2.2⟩ (HM.out.below (by rw [HB.out]; exact HU)) (KM.out.below (by rw [HB.out]; exact HU)), HU⟩

end Go.Proofs.YtnkdmgekpajfhaeDoor
namespace Go.Proofs.YtnkdmgekpajfhaeDoor
open Go.RowKit Dist

set_option maxRecDepth 100000 in
set_option maxHeartbeats 16000000 in
theorem swapRef_behind (h k : Hk) (am : Option Addr) (cm : Nat) (an : Option Addr) (cn : Nat) (w : World) (hm : Mks w am h.2.2) (hl : h.2.2.length ≤ maxLen) (hs : ∀ m ∈ h.2.2, m.2.size ≤ maxLen) (hc : h.2.2.length ≤ cm) (km : Mks w an k.2.2) (kl : k.2.2.length ≤ maxLen) (ks : ∀ m ∈ k.2.2, m.2.size ≤ maxLen) (kc : k.2.2.length ≤ cn) (z1 : (hf [h]).2 = 0) (z2 : (hf [k]).2 = 0) (z3 : ahd h k = false) (z4 : bhd h k = true) :
    Calls Tryd.prog 14 #[.agg #[.int .i64 h.1, .int .i64 h.2.1, .slice am h.2.2.length cm], .agg #[.int .i64 k.1, .int .i64 k.2.1, .slice an k.2.2.length cn]] w fun e w' => SwP h k e w' ∧ Below w.heap.size w w' := by
  have Z1 : Hid ((hf [h]).2 = 0) := z1
  have Z2 : Hid ((hf [k]).2 = 0) := z2
  have Z3 : Hid (ahd h k = false) := z3
  have Z4 : Hid (bhd h k = true) := z4
  clear z1 z2 z3 z4
  have HFT : Hid (∀ (o n : Int) (W : World) (D : Nat), Below w.heap.size w W → Bx W D o n am h.2.2.length cm → Calls Tryd.prog 35 #[.slice (some ⟨D, 0, none⟩) 1 1] W fun e w' => e = .returned (.tuple #[.int .i64 (hf [(o, n, h.2.2)]).1, .int .i64 (hf [(o, n, h.2.2)]).2]) ∧ Below W.heap.size W w') := fun o n W D hb hx =>
    refHunks (some ⟨D, 0, none⟩) [(o, n, h.2.2)] 1 W (hks_block hx (hm.below hb) hc) (by unfold maxLen; simp) (fun x hx => by rw [List.mem_singleton] at hx; rw [hx]; exact hl) (fun x hx => by rw [List.mem_singleton] at hx; rw [hx]; exact hs)
  have KFT : Hid (∀ (o n : Int) (W : World) (D : Nat), Below w.heap.size w W → Bx W D o n an k.2.2.length cn → Calls Tryd.prog 35 #[.slice (some ⟨D, 0, none⟩) 1 1] W fun e w' => e = .returned (.tuple #[.int .i64 (hf [(o, n, k.2.2)]).1, .int .i64 (hf [(o, n, k.2.2)]).2]) ∧ Below W.heap.size W w') := fun o n W D hb hx =>
    refHunks (some ⟨D, 0, none⟩) [(o, n, k.2.2)] 1 W (hks_block hx (km.below hb) kc) (by unfold maxLen; simp) (fun x hx => by rw [List.mem_singleton] at hx; rw [hx]; exact kl) (fun x hx => by rw [List.mem_singleton] at hx; rw [hx]; exact ks)
  have P0 : Hid (∀ f w', swF h k = f → f ≠ 0 → SwP h k (.returned (.tuple #[.agg #[.int .i64 0, .int .i64 0, .slice none 0 0], .agg #[.int .i64 0, .int .i64 0, .slice none 0 0], .int .i64 f])) w') := fun f w' e hf => SwP.bad e hf w'
  have HM : Hid (Mks w am h.2.2) := hm
  have KM : Hid (Mks w an k.2.2) := km
  obtain ⟨B, hB⟩ : ∃ B, w.heap.size = B := ⟨_, rfl⟩
  obtain ⟨p1, hp1⟩ : ∃ p, (hf [h]).1 = p := ⟨_, rfl⟩
  obtain ⟨f1, hf1⟩ : ∃ p, (hf [h]).2 = p := ⟨_, rfl⟩
  obtain ⟨p2, hp2⟩ : ∃ p, (hf [k]).1 = p := ⟨_, rfl⟩
  obtain ⟨f2, hf2⟩ : ∃ p, (hf [k]).2 = p := ⟨_, rfl⟩
  have E1 : Hid (f1 ≠ 0 → swF h k = f1) := fun e => by rw [← hf1]; exact swF_h (by rw [hf1]; exact e)
  have E2 : Hid (f1 = 0 → f2 ≠ 0 → swF h k = f2) := fun e0 e => by rw [← hf2]; exact swF_k (by rw [hf1]; exact e0) (by rw [hf2]; exact e)
  have H1 : Hid ((hf [h]).2 = f1) := hf1
  have H2 : Hid ((hf [k]).2 = f2) := hf2
  have HF1 := fun (W : World) (D : Nat) hb hx => HFT.out h.1 h.2.1 W D hb hx
  have HF2 := fun (W : World) (D : Nat) hb hx => KFT.out k.1 k.2.1 W D hb hx
  rw [show ((h.1, h.2.1, h.2.2) : Hk) = h from rfl, hp1, hf1] at HF1
  rw [show ((k.1, k.2.1, k.2.2) : Hk) = k from rfl, hp2, hf2] at HF2
  obtain ⟨ho, hho⟩ : ∃ x, h.1 = x := ⟨_, rfl⟩
  obtain ⟨hn, hhn⟩ : ∃ x, h.2.1 = x := ⟨_, rfl⟩
  obtain ⟨hq, hhq⟩ : ∃ x, h.2.2.length = x := ⟨_, rfl⟩
  obtain ⟨ko, hko⟩ : ∃ x, k.1 = x := ⟨_, rfl⟩
  obtain ⟨kn, hkn⟩ : ∃ x, k.2.1 = x := ⟨_, rfl⟩
  obtain ⟨kq, hkq⟩ : ∃ x, k.2.2.length = x := ⟨_, rfl⟩
  have LH : Hid (h.1 = ho ∧ h.2.1 = hn ∧ h.2.2.length = hq) := ⟨hho, hhn, hhq⟩
  have LK : Hid (k.1 = ko ∧ k.2.1 = kn ∧ k.2.2.length = kq) := ⟨hko, hkn, hkq⟩
  rw [hho, hhn, hhq] at HF1
  rw [hko, hkn, hkq] at HF2
  rw [hhq] at HFT
  rw [hkq] at KFT
  rw [hB] at HFT KFT HF1 HF2
  rw [hho, hhn, hhq, hko, hkn, hkq]
  have HB : Hid (w.heap.size = B) := hB
  have hq0 := Sq.start hB ho hn am hq cm ko kn an kq cn
  rw [hB]
  clear hho hhn hhq hko hkn hkq hp1 hf1 hp2 hf2 hB hm hl hs hc km kl ks kc
  go_enter Tryd.func14, Tryd.ntmps14
  go_wp2_with fail
  rw [HB.out]
  obtain ⟨hqs, hsz⟩ := hq0
  generalize (((w.alloc (.cells #[.int .i64 ho, .int .i64 hn, .slice am hq cm] 40)).alloc (.cells #[.int .i64 ko, .int .i64 kn, .slice an kq cn] 40)).alloc (.cells #[.int .i64 0, .int .i64 0, .slice none 0 0] 40)).alloc (.cells #[.int .i64 0, .int .i64 0, .slice none 0 0] 40) = W at hqs hsz ⊢
  have hx1 : Bx (W.alloc (.cells #[.int .i64 ho, .int .i64 hn, .slice am hq cm] 40)) (B + 1 + 1 + 1 + 1) ho hn am hq cm := by rw [← hsz]; exact heap_alloc_new W _
  have hqa := hqs.below (below_alloc W (.cells #[.int .i64 ho, .int .i64 hn, .slice am hq cm] 40))
  have hc1 := HF1 _ _ hqa.2.2.2.2 hx1
  clear hx1 hqs hsz HF1
  generalize W.alloc (.cells #[.int .i64 ho, .int .i64 hn, .slice am hq cm] 40) = Wa at hqa hc1 ⊢
  have HQA : Hid (Sq w Wa B ho hn am hq cm ko kn an kq cn) := hqa
  clear hqa
  go_wp2_with (go_at_call 35; refine hc1.mono ?_)
  rintro e w1 ⟨rfl, hb1⟩
  have HQ1 : Hid (Sq w w1 B ho hn am hq cm ko kn an kq cn) := HQA.out.below hb1
  clear hc1 hb1 HQA
  by_cases e1 : f1 = 0
  case' neg => exact absurd (H1.out.symm.trans Z1.out) e1
  case' pos =>
    have E2 : Hid (f2 ≠ 0 → swF h k = f2) := E2.out e1
    have H1 : Hid ((hf [h]).2 = 0) := by show (hf [h]).2 = 0; rw [← e1]; exact H1.out
    rw [e1]
    clear E1 e1
    obtain ⟨k0, k1, k2⟩ := HQ1.out.2.1.cells
    have hx2 : Bx (w1.alloc (.cells #[.int .i64 ko, .int .i64 kn, .slice an kq cn] 40)) w1.heap.size ko kn an kq cn := heap_alloc_new w1 _
    have hqb := HQ1.out.below (below_alloc w1 (.cells #[.int .i64 ko, .int .i64 kn, .slice an kq cn] 40))
    have hc2 := HF2 _ _ hqb.2.2.2.2 hx2
    have HQB : Hid (Sq w (w1.alloc (.cells #[.int .i64 ko, .int .i64 kn, .slice an kq cn] 40)) B ho hn am hq cm ko kn an kq cn) := hqb
    clear hx2 hqb HF2 HQ1
    go_wp2_with (go_at_call 35; refine hc2.mono ?_)
    rintro e w2 ⟨rfl, hb2⟩
    have HQ2 : Hid (Sq w w2 B ho hn am hq cm ko kn an kq cn) := HQB.out.below hb2
    clear hc2 hb2 HQB k0 k1 k2
    by_cases e2 : f2 = 0
    case' neg => exact absurd (H2.out.symm.trans Z2.out) e2
    case' pos =>
      have H2 : Hid ((hf [k]).2 = 0) := by show (hf [k]).2 = 0; rw [← e2]; exact H2.out
      rw [e2]
      clear E2 e2
      obtain ⟨hsf, hr0, hr1, hr2, hl, hsg⟩ := hf_one H1.out
      obtain ⟨ksf, kr0, kr1, kr2, kl, ksg⟩ := hf_one H2.out
      have hoh := fun W (hb : Below w.heap.size w W) => oldOf am h.2.2 cm W (HM.out.below hb) hsf
      have hnh := fun W (hb : Below w.heap.size w W) => newOf am h.2.2 cm W (HM.out.below hb) hsf
      have hok := fun W (hb : Below w.heap.size w W) => oldOf an k.2.2 cn W (KM.out.below hb) ksf
      have hnk := fun W (hb : Below w.heap.size w W) => newOf an k.2.2 cn W (KM.out.below hb) ksf
      rw [ob_less _ hsg] at hoh
      rw [nb_less _ hsg] at hnh
      rw [ob_less _ ksg] at hok
      rw [nb_less _ ksg] at hnk
      rw [LH.out.2.2] at hoh hnh
      rw [LK.out.2.2] at hok hnk
      have bo1 := ob_le h.2.2
      have bn1 := nb_le h.2.2
      have bo2 := ob_le k.2.2
      have bn2 := nb_le k.2.2
      rw [LH.out.1] at hr0 hr1 hr2
      rw [LH.out.2.1] at hr2
      rw [LK.out.1] at kr0 kr1 kr2
      rw [LK.out.2.1] at kr2
      have HRH : Hid (hn = ho) := hr2
      have HRK : Hid (kn = ko) := kr2
      have hn0 : 0 ≤ hn ∧ hn ≤ 60 := by omega
      have kn0 : 0 ≤ kn ∧ kn ≤ 60 := by omega
      clear hr2 kr2
      have HAH : Hid (ahd h k = decide (ko + (ob k.2.2 : Int) ≤ hn)) := by show ahd h k = _; unfold ahd; rw [LK.out.1, LH.out.2.1]
      have HBH : Hid (bhd h k = decide (hn + (Dist.nb h.2.2 : Int) ≤ ko)) := by show bhd h k = _; unfold bhd; rw [LK.out.1, LH.out.2.1]
      obtain ⟨oh, hoh'⟩ : ∃ x, ob h.2.2 = x := ⟨_, rfl⟩
      obtain ⟨nh, hnh'⟩ : ∃ x, Dist.nb h.2.2 = x := ⟨_, rfl⟩
      obtain ⟨ok, hok'⟩ : ∃ x, ob k.2.2 = x := ⟨_, rfl⟩
      obtain ⟨nk, hnk'⟩ : ∃ x, Dist.nb k.2.2 = x := ⟨_, rfl⟩
      have LN : Hid (ob h.2.2 = oh ∧ Dist.nb h.2.2 = nh ∧ ob k.2.2 = ok ∧ Dist.nb k.2.2 = nk) := ⟨hoh', hnh', hok', hnk'⟩
      rw [hoh'] at hoh bo1
      rw [hnh'] at hnh bn1 HBH
      rw [hok'] at hok bo2 HAH
      rw [hnk'] at hnk bn2
      have HOH : Hid (∀ W, Below w.heap.size w W → Calls Tryd.prog 36 #[.slice am hq cm] W fun e w' => ∃ a c, e = .returned (.slice a oh c) ∧ Below W.heap.size W w') := fun W hb => (hoh W hb).mono fun _ _ ⟨a, c, e, _, b⟩ => ⟨a, c, e, b⟩
      have HNH : Hid (∀ W, Below w.heap.size w W → Calls Tryd.prog 37 #[.slice am hq cm] W fun e w' => ∃ a c, e = .returned (.slice a nh c) ∧ Below W.heap.size W w') := fun W hb => (hnh W hb).mono fun _ _ ⟨a, c, e, _, b⟩ => ⟨a, c, e, b⟩
      have HOK : Hid (∀ W, Below w.heap.size w W → Calls Tryd.prog 36 #[.slice an kq cn] W fun e w' => ∃ a c, e = .returned (.slice a ok c) ∧ Below W.heap.size W w') := fun W hb => (hok W hb).mono fun _ _ ⟨a, c, e, _, b⟩ => ⟨a, c, e, b⟩
      have HNK : Hid (∀ W, Below w.heap.size w W → Calls Tryd.prog 37 #[.slice an kq cn] W fun e w' => ∃ a c, e = .returned (.slice a nk c) ∧ Below W.heap.size W w') := fun W hb => (hnk W hb).mono fun _ _ ⟨a, c, e, _, b⟩ => ⟨a, c, e, b⟩
      clear hoh hnh hok hnk hoh' hnh' hok' hnk' hsf ksf hsg ksg
      have hkl : kq ≤ 120 := by rw [← LK.out.2.2]; exact kl
      have hhl : hq ≤ 120 := by rw [← LH.out.2.2]; exact hl
      rw [LK.out.2.2] at bo2 bn2
      rw [LH.out.2.2] at bo1 bn1
      have q1 : IntKind.i64.wrap (ko + (ok : Int)) = ko + ok := by rw [IntKind.wrap_i64] <;> omega
      have q2 : IntKind.i64.wrap (hn + (nh : Int)) = hn + nh := by rw [IntKind.wrap_i64] <;> omega
      have q3 : IntKind.i64.wrap ((nk : Int) - ok) = nk - ok := by rw [IntKind.wrap_i64] <;> omega
      have q4 : IntKind.i64.wrap ((oh : Int) - nh) = oh - nh := by rw [IntKind.wrap_i64] <;> omega
      clear hl kl
      have HQw2 : Hid (Sq w w2 B ho hn am hq cm ko kn an kq cn) := HQ2.out
      clear HQ2
      have cA : ¬ (ko + (ok : Int) ≤ hn) := by have e := HAH.out; rw [Z3.out] at e; exact of_decide_eq_false e.symm
      have cB : hn + (nh : Int) ≤ ko := by have e := HBH.out; rw [Z4.out] at e; exact of_decide_eq_true e.symm
      have HNE : Hid (ahd h k ≠ bhd h k) := by show ahd h k ≠ bhd h k; rw [HAH.out, HBH.out, decide_eq_false cA, decide_eq_true cB]; decide
      have HSP : Hid (swP h k = (h, ((ko + ((oh : Int) - nh)), (kn + ((oh : Int) - nh)), k.2.2))) := by
        show swP h k = _
        unfold swP shf
        rw [if_neg (by rw [HAH.out, decide_eq_false cA]; decide), LN.out.1, LN.out.2.1, LK.out.1, LK.out.2.1]
      go_wp2_with fail
      have hdrw2 : Below w2.heap.size w2 w2.drew := ⟨rfl, rfl, rfl, Nat.le_refl _, fun _ _ => rfl⟩
      have Dw2 : Hid (Sq w w2.drew B ho hn am hq cm ko kn an kq cn) := HQw2.out.below hdrw2
      have CCw2 : Hid (∀ W', Sq w W' B ho hn am hq cm ko kn an kq cn → W'.cell? ⟨B + 1, 0, none⟩ = some (.int .i64 ko) ∧ W'.cell? ⟨B + 1, 2, none⟩ = some (.slice an kq cn) ∧ W'.cell? ⟨B, 1, none⟩ = some (.int .i64 hn)) := fun W' hb => by
        obtain ⟨x0, x1, x2⟩ := hb.1.cells
        obtain ⟨y0, y1, y2⟩ := hb.2.1.cells
        exact ⟨y0, y2, x1⟩
      clear hdrw2
      refine wp_region_held_drew (S := fun W' => W'.cell? ⟨B + 1, 0, none⟩ = some (.int .i64 ko) ∧ W'.cell? ⟨B + 1, 2, none⟩ = some (.slice an kq cn) ∧ W'.cell? ⟨B, 1, none⟩ = some (.int .i64 hn)) (by kernel_rfl) ?_ (fun hHeld => ?_)
      · exact CCw2.out _ Dw2.out
      refine wpAnyH_take (i := 0) (v := ?_) rfl (by kernel_rfl) (by kernel_rfl) (by kernel_rfl) (fun _ _ _ h => h) (Or.inl ⟨by rfl, ?_⟩) (by assumption) ?_
      rotate_left
      · intro w' hSw
        (try dsimp only at hSw)
        go_simp
        try with_reducible rfl
      simp only [Act.put, List.getElem_toArray, List.getElem_cons_zero, List.setIfInBounds_toArray, List.set_cons_zero, List.set_cons_succ]
      refine wpAnyH_take (i := 1) (v := ?_) rfl (by kernel_rfl) (by kernel_rfl) (by kernel_rfl) (fun _ _ _ h => h) (Or.inl ⟨by rfl, ?_⟩) (by assumption) ?_
      rotate_left
      · intro w' hSw
        (try dsimp only at hSw)
        go_simp
        try with_reducible rfl
      simp only [Act.put, List.getElem_toArray, List.getElem_cons_zero, List.getElem_cons_succ, List.setIfInBounds_toArray, List.set_cons_zero, List.set_cons_succ]
      refine wpAnyH_take (i := 2) (v := ?_) rfl (by kernel_rfl) (by kernel_rfl) (by kernel_rfl) (fun _ _ _ h => h) (Or.inl ⟨by rfl, ?_⟩) (by assumption) ?_
      rotate_left
      · intro w' hSw
        (try dsimp only at hSw)
        go_simp
        try with_reducible rfl
      simp only [Act.put, List.getElem_toArray, List.getElem_cons_zero, List.getElem_cons_succ, List.setIfInBounds_toArray, List.set_cons_zero, List.set_cons_succ]
      refine wpAnyH_take (i := 3) (v := ?_) rfl (by kernel_rfl) (by kernel_rfl) (by kernel_rfl) (fun _ _ _ h => h) (Or.inl ⟨by rfl, ?_⟩) (by assumption) ?_
      rotate_left
      · intro w' hSw
        (try dsimp only at hSw)
        go_simp
        try with_reducible rfl
      simp only [Act.put, List.getElem_toArray, List.getElem_cons_zero, List.getElem_cons_succ, List.setIfInBounds_toArray, List.set_cons_zero, List.set_cons_succ]
      refine wpAnyH_take (i := 7) (v := ?_) rfl (by kernel_rfl) (by kernel_rfl) (by kernel_rfl) (fun _ _ _ h => h) (Or.inl ⟨by rfl, ?_⟩) (by assumption) ?_
      rotate_left
      · intro w' hSw
        (try dsimp only at hSw)
        go_simp
        try with_reducible rfl
      simp only [Act.put, List.getElem_toArray, List.getElem_cons_zero, List.getElem_cons_succ, List.setIfInBounds_toArray, List.set_cons_zero, List.set_cons_succ]
      refine wpAnyH_take (i := 8) (v := ?_) rfl (by kernel_rfl) (by kernel_rfl) (by kernel_rfl) (fun _ _ _ h => h) (Or.inl ⟨by rfl, ?_⟩) (by assumption) ?_
      rotate_left
      · intro w' hSw
        (try dsimp only at hSw)
        go_simp
        try with_reducible rfl
      simp only [Act.put, List.getElem_toArray, List.getElem_cons_zero, List.getElem_cons_succ, List.setIfInBounds_toArray, List.set_cons_zero, List.set_cons_succ]
      refine wpAnyH_ready (rs := [4]) (by kernel_rfl) (by simp) ?_
      refine AllReadyH.cons rfl (fun K hK => ?_) AllReadyH.nil
      go_simp
      go_at_call 36; refine (HOK.out _ (by rw [HB.out]; exact (Dw2.out).2.2.2.2)).mono ?_; rintro e w3 ⟨aw3, cw3, rfl, hbw3⟩; have HQw3 : Hid (Sq w w3 B ho hn am hq cm ko kn an kq cn) := (Dw2.out).below hbw3; clear hbw3
      go_wp2_with fail
      refine hK.out _ _ ?_ (fun hHeld => ?_)
      · exact CCw2.out _ HQw3.out
      clear hK K
      refine wpAnyH_take (i := 5) (v := ?_) rfl (by kernel_rfl) (by kernel_rfl) (by kernel_rfl) (fun _ _ _ h => h) (Or.inl ⟨by rfl, ?_⟩) (by assumption) ?_
      rotate_left
      · intro w' hSw
        (try dsimp only at hSw)
        go_simp
        try with_reducible rfl
      simp only [Act.put, List.getElem_toArray, List.getElem_cons_zero, List.getElem_cons_succ, List.setIfInBounds_toArray, List.set_cons_zero, List.set_cons_succ]
      refine wpAnyH_take (i := 6) (v := ?_) rfl (by kernel_rfl) (by kernel_rfl) (by kernel_rfl) (fun _ _ _ h => h) (Or.inl ⟨by rfl, ?_⟩) (by assumption) ?_
      rotate_left
      · intro w' hSw
        (try dsimp only at hSw)
        go_simp
        try with_reducible rfl
      simp only [Act.put, List.getElem_toArray, List.getElem_cons_zero, List.getElem_cons_succ, List.setIfInBounds_toArray, List.set_cons_zero, List.set_cons_succ]
      refine wpAnyH_take (i := 9) (v := ?_) rfl (by kernel_rfl) (by kernel_rfl) (by kernel_rfl) (fun _ _ _ h => h) (Or.inl ⟨by rfl, ?_⟩) (by assumption) ?_
      rotate_left
      · intro w' hSw
        (try dsimp only at hSw)
        go_simp
        try with_reducible rfl
      simp only [Act.put, List.getElem_toArray, List.getElem_cons_zero, List.getElem_cons_succ, List.setIfInBounds_toArray, List.set_cons_zero, List.set_cons_succ]
      refine wpAnyH_take (i := 10) (v := ?_) rfl (by kernel_rfl) (by kernel_rfl) (by kernel_rfl) (fun _ _ _ h => h) (Or.inl ⟨by rfl, ?_⟩) (by assumption) ?_
      rotate_left
      · intro w' hSw
        (try dsimp only at hSw)
        go_simp
        try with_reducible rfl
      simp only [Act.put, List.getElem_toArray, List.getElem_cons_zero, List.getElem_cons_succ, List.setIfInBounds_toArray, List.set_cons_zero, List.set_cons_succ]
      refine wpAnyH_done (by kernel_rfl) ?_ _
      clear CCw2 Dw2 hHeld
      go_wp2_with fail
      have hdrw3 : Below w3.heap.size w3 w3.drew := ⟨rfl, rfl, rfl, Nat.le_refl _, fun _ _ => rfl⟩
      have Dw3 : Hid (Sq w w3.drew B ho hn am hq cm ko kn an kq cn) := HQw3.out.below hdrw3
      have CCw3 : Hid (∀ W', Sq w W' B ho hn am hq cm ko kn an kq cn → W'.cell? ⟨B + 1, 0, none⟩ = some (.int .i64 ko) ∧ W'.cell? ⟨B, 1, none⟩ = some (.int .i64 hn) ∧ W'.cell? ⟨B, 2, none⟩ = some (.slice am hq cm)) := fun W' hb => by
        obtain ⟨x0, x1, x2⟩ := hb.1.cells
        obtain ⟨y0, y1, y2⟩ := hb.2.1.cells
        exact ⟨y0, x1, x2⟩
      clear hdrw3
      refine wp_region_held_drew (S := fun W' => W'.cell? ⟨B + 1, 0, none⟩ = some (.int .i64 ko) ∧ W'.cell? ⟨B, 1, none⟩ = some (.int .i64 hn) ∧ W'.cell? ⟨B, 2, none⟩ = some (.slice am hq cm)) (by kernel_rfl) ?_ (fun hHeld => ?_)
      · exact CCw3.out _ Dw3.out
      refine wpAnyH_take (i := 0) (v := ?_) rfl (by kernel_rfl) (by kernel_rfl) (by kernel_rfl) (fun _ _ _ h => h) (Or.inl ⟨by rfl, ?_⟩) (by assumption) ?_
      rotate_left
      · intro w' hSw
        (try dsimp only at hSw)
        go_simp
        try with_reducible rfl
      simp only [Act.put, List.getElem_toArray, List.getElem_cons_zero, List.setIfInBounds_toArray, List.set_cons_zero, List.set_cons_succ]
      refine wpAnyH_take (i := 1) (v := ?_) rfl (by kernel_rfl) (by kernel_rfl) (by kernel_rfl) (fun _ _ _ h => h) (Or.inl ⟨by rfl, ?_⟩) (by assumption) ?_
      rotate_left
      · intro w' hSw
        (try dsimp only at hSw)
        go_simp
        try with_reducible rfl
      simp only [Act.put, List.getElem_toArray, List.getElem_cons_zero, List.getElem_cons_succ, List.setIfInBounds_toArray, List.set_cons_zero, List.set_cons_succ]
      refine wpAnyH_take (i := 2) (v := ?_) rfl (by kernel_rfl) (by kernel_rfl) (by kernel_rfl) (fun _ _ _ h => h) (Or.inl ⟨by rfl, ?_⟩) (by assumption) ?_
      rotate_left
      · intro w' hSw
        (try dsimp only at hSw)
        go_simp
        try with_reducible rfl
      simp only [Act.put, List.getElem_toArray, List.getElem_cons_zero, List.getElem_cons_succ, List.setIfInBounds_toArray, List.set_cons_zero, List.set_cons_succ]
      refine wpAnyH_take (i := 3) (v := ?_) rfl (by kernel_rfl) (by kernel_rfl) (by kernel_rfl) (fun _ _ _ h => h) (Or.inl ⟨by rfl, ?_⟩) (by assumption) ?_
      rotate_left
      · intro w' hSw
        (try dsimp only at hSw)
        go_simp
        try with_reducible rfl
      simp only [Act.put, List.getElem_toArray, List.getElem_cons_zero, List.getElem_cons_succ, List.setIfInBounds_toArray, List.set_cons_zero, List.set_cons_succ]
      refine wpAnyH_take (i := 4) (v := ?_) rfl (by kernel_rfl) (by kernel_rfl) (by kernel_rfl) (fun _ _ _ h => h) (Or.inl ⟨by rfl, ?_⟩) (by assumption) ?_
      rotate_left
      · intro w' hSw
        (try dsimp only at hSw)
        go_simp
        try with_reducible rfl
      simp only [Act.put, List.getElem_toArray, List.getElem_cons_zero, List.getElem_cons_succ, List.setIfInBounds_toArray, List.set_cons_zero, List.set_cons_succ]
      refine wpAnyH_take (i := 5) (v := ?_) rfl (by kernel_rfl) (by kernel_rfl) (by kernel_rfl) (fun _ _ _ h => h) (Or.inl ⟨by rfl, ?_⟩) (by assumption) ?_
      rotate_left
      · intro w' hSw
        (try dsimp only at hSw)
        go_simp
        try with_reducible rfl
      simp only [Act.put, List.getElem_toArray, List.getElem_cons_zero, List.getElem_cons_succ, List.setIfInBounds_toArray, List.set_cons_zero, List.set_cons_succ]
      refine wpAnyH_ready (rs := [6]) (by kernel_rfl) (by simp) ?_
      refine AllReadyH.cons rfl (fun K hK => ?_) AllReadyH.nil
      go_simp
      go_at_call 37; refine (HNH.out _ (by rw [HB.out]; exact (Dw3.out).2.2.2.2)).mono ?_; rintro e w4 ⟨aw4, cw4, rfl, hbw4⟩; have HQw4 : Hid (Sq w w4 B ho hn am hq cm ko kn an kq cn) := (Dw3.out).below hbw4; clear hbw4
      go_wp2_with fail
      refine hK.out _ _ ?_ (fun hHeld => ?_)
      · exact CCw3.out _ HQw4.out
      clear hK K
      refine wpAnyH_take (i := 7) (v := ?_) rfl (by kernel_rfl) (by kernel_rfl) (by kernel_rfl) (fun _ _ _ h => h) (Or.inl ⟨by rfl, ?_⟩) (by assumption) ?_
      rotate_left
      · intro w' hSw
        (try dsimp only at hSw)
        go_simp
        try with_reducible rfl
      simp only [Act.put, List.getElem_toArray, List.getElem_cons_zero, List.getElem_cons_succ, List.setIfInBounds_toArray, List.set_cons_zero, List.set_cons_succ]
      refine wpAnyH_take (i := 8) (v := ?_) rfl (by kernel_rfl) (by kernel_rfl) (by kernel_rfl) (fun _ _ _ h => h) (Or.inl ⟨by rfl, ?_⟩) (by assumption) ?_
      rotate_left
      · intro w' hSw
        (try dsimp only at hSw)
        go_simp
        try with_reducible rfl
      simp only [Act.put, List.getElem_toArray, List.getElem_cons_zero, List.getElem_cons_succ, List.setIfInBounds_toArray, List.set_cons_zero, List.set_cons_succ]
      refine wpAnyH_take (i := 9) (v := ?_) rfl (by kernel_rfl) (by kernel_rfl) (by kernel_rfl) (fun _ _ _ h => h) (Or.inl ⟨by rfl, ?_⟩) (by assumption) ?_
      rotate_left
      · intro w' hSw
        (try dsimp only at hSw)
        go_simp
        try with_reducible rfl
      simp only [Act.put, List.getElem_toArray, List.getElem_cons_zero, List.getElem_cons_succ, List.setIfInBounds_toArray, List.set_cons_zero, List.set_cons_succ]
      refine wpAnyH_take (i := 10) (v := ?_) rfl (by kernel_rfl) (by kernel_rfl) (by kernel_rfl) (fun _ _ _ h => h) (Or.inl ⟨by rfl, ?_⟩) (by assumption) ?_
      rotate_left
      · intro w' hSw
        (try dsimp only at hSw)
        go_simp
        try with_reducible rfl
      simp only [Act.put, List.getElem_toArray, List.getElem_cons_zero, List.getElem_cons_succ, List.setIfInBounds_toArray, List.set_cons_zero, List.set_cons_succ]
      refine wpAnyH_done (by kernel_rfl) ?_ _
      clear CCw3 Dw3 hHeld
      go_wp2_with fail
      have hdrw4 : Below w4.heap.size w4 w4.drew := ⟨rfl, rfl, rfl, Nat.le_refl _, fun _ _ => rfl⟩
      have Dw4 : Hid (Sq w w4.drew B ho hn am hq cm ko kn an kq cn) := HQw4.out.below hdrw4
      have CCw4 : Hid (∀ W', Sq w W' B ho hn am hq cm ko kn an kq cn → W'.cell? ⟨B, 2, none⟩ = some (.slice am hq cm)) := fun W' hb => by
        obtain ⟨x0, x1, x2⟩ := hb.1.cells
        obtain ⟨y0, y1, y2⟩ := hb.2.1.cells
        exact x2
      clear hdrw4
      refine wp_region_held_drew (S := fun W' => W'.cell? ⟨B, 2, none⟩ = some (.slice am hq cm)) (by kernel_rfl) ?_ (fun hHeld => ?_)
      · exact CCw4.out _ Dw4.out
      refine wpAnyH_take (i := 0) (v := ?_) rfl (by kernel_rfl) (by kernel_rfl) (by kernel_rfl) (fun _ _ _ h => h) (Or.inl ⟨by rfl, ?_⟩) (by assumption) ?_
      rotate_left
      · intro w' hSw
        (try dsimp only at hSw)
        go_simp
        try with_reducible rfl
      simp only [Act.put, List.getElem_toArray, List.getElem_cons_zero, List.setIfInBounds_toArray, List.set_cons_zero, List.set_cons_succ]
      refine wpAnyH_take (i := 1) (v := ?_) rfl (by kernel_rfl) (by kernel_rfl) (by kernel_rfl) (fun _ _ _ h => h) (Or.inl ⟨by rfl, ?_⟩) (by assumption) ?_
      rotate_left
      · intro w' hSw
        (try dsimp only at hSw)
        go_simp
        try with_reducible rfl
      simp only [Act.put, List.getElem_toArray, List.getElem_cons_zero, List.getElem_cons_succ, List.setIfInBounds_toArray, List.set_cons_zero, List.set_cons_succ]
      refine wpAnyH_take (i := 4) (v := ?_) rfl (by kernel_rfl) (by kernel_rfl) (by kernel_rfl) (fun _ _ _ h => h) (Or.inl ⟨by rfl, ?_⟩) (by assumption) ?_
      rotate_left
      · intro w' hSw
        (try dsimp only at hSw)
        go_simp
        try with_reducible rfl
      simp only [Act.put, List.getElem_toArray, List.getElem_cons_zero, List.getElem_cons_succ, List.setIfInBounds_toArray, List.set_cons_zero, List.set_cons_succ]
      refine wpAnyH_take (i := 5) (v := ?_) rfl (by kernel_rfl) (by kernel_rfl) (by kernel_rfl) (fun _ _ _ h => h) (Or.inl ⟨by rfl, ?_⟩) (by assumption) ?_
      rotate_left
      · intro w' hSw
        (try dsimp only at hSw)
        go_simp
        try with_reducible rfl
      simp only [Act.put, List.getElem_toArray, List.getElem_cons_zero, List.getElem_cons_succ, List.setIfInBounds_toArray, List.set_cons_zero, List.set_cons_succ]
      refine wpAnyH_ready (rs := [2]) (by kernel_rfl) (by simp) ?_
      refine AllReadyH.cons rfl (fun K hK => ?_) AllReadyH.nil
      go_simp
      go_at_call 36; refine (HOH.out _ (by rw [HB.out]; exact (Dw4.out).2.2.2.2)).mono ?_; rintro e w5 ⟨aw5, cw5, rfl, hbw5⟩; have HQw5 : Hid (Sq w w5 B ho hn am hq cm ko kn an kq cn) := (Dw4.out).below hbw5; clear hbw5
      go_wp2_with fail
      refine hK.out _ _ ?_ (fun hHeld => ?_)
      · exact CCw4.out _ HQw5.out
      clear hK K
      refine wpAnyH_take (i := 3) (v := ?_) rfl (by kernel_rfl) (by kernel_rfl) (by kernel_rfl) (fun _ _ _ h => h) (Or.inl ⟨by rfl, ?_⟩) (by assumption) ?_
      rotate_left
      · intro w' hSw
        (try dsimp only at hSw)
        go_simp
        try with_reducible rfl
      simp only [Act.put, List.getElem_toArray, List.getElem_cons_zero, List.getElem_cons_succ, List.setIfInBounds_toArray, List.set_cons_zero, List.set_cons_succ]
      refine wpAnyH_ready (rs := [6]) (by kernel_rfl) (by simp) ?_
      refine AllReadyH.cons rfl (fun K hK => ?_) AllReadyH.nil
      go_simp
      go_at_call 37; refine (HNH.out _ (by rw [HB.out]; exact (HQw5.out).2.2.2.2)).mono ?_; rintro e w6 ⟨aw6, cw6, rfl, hbw6⟩; have HQw6 : Hid (Sq w w6 B ho hn am hq cm ko kn an kq cn) := (HQw5.out).below hbw6; clear hbw6
      go_wp2_with fail
      refine hK.out _ _ ?_ (fun hHeld => ?_)
      · exact CCw4.out _ HQw6.out
      clear hK K
      refine wpAnyH_take (i := 7) (v := ?_) rfl (by kernel_rfl) (by kernel_rfl) (by kernel_rfl) (fun _ _ _ h => h) (Or.inl ⟨by rfl, ?_⟩) (by assumption) ?_
      rotate_left
      · intro w' hSw
        (try dsimp only at hSw)
        go_simp
        try with_reducible rfl
      simp only [Act.put, List.getElem_toArray, List.getElem_cons_zero, List.getElem_cons_succ, List.setIfInBounds_toArray, List.set_cons_zero, List.set_cons_succ]
      refine wpAnyH_take (i := 8) (v := ?_) rfl (by kernel_rfl) (by kernel_rfl) (by kernel_rfl) (fun _ _ _ h => h) (Or.inl ⟨by rfl, ?_⟩) (by assumption) ?_
      rotate_left
      · intro w' hSw
        (try dsimp only at hSw)
        go_simp
        try with_reducible rfl
      simp only [Act.put, List.getElem_toArray, List.getElem_cons_zero, List.getElem_cons_succ, List.setIfInBounds_toArray, List.set_cons_zero, List.set_cons_succ]
      refine wpAnyH_take (i := 9) (v := ?_) rfl (by kernel_rfl) (by kernel_rfl) (by kernel_rfl) (fun _ _ _ h => h) (Or.inl ⟨by rfl, ?_⟩) (by assumption) ?_
      rotate_left
      · intro w' hSw
        (try dsimp only at hSw)
        go_simp
        try with_reducible rfl
      simp only [Act.put, List.getElem_toArray, List.getElem_cons_zero, List.getElem_cons_succ, List.setIfInBounds_toArray, List.set_cons_zero, List.set_cons_succ]
      refine wpAnyH_done (by kernel_rfl) ?_ _
      clear CCw4 Dw4 hHeld
      obtain ⟨x0, x1, x2⟩ := HQw6.out.2.1.cells
      obtain ⟨g0, g1, g2⟩ := HQw6.out.1.cells
      obtain ⟨z0, z1, z2⟩ := HQw6.out.2.1.frozen
      have HQ7 := HQw6.out.moveK (ko + ((oh : Int) - nh)) (kn + ((oh : Int) - nh))
      obtain ⟨y0, y1, y2⟩ := HQ7.1.cells
      go_wp2_with fail
      have hs7 : ((w6.setCell ⟨B + 1, 0, none⟩ (.int .i64 (ko + ((oh : Int) - nh)))).setCell ⟨B + 1, 1, none⟩ (.int .i64 (kn + ((oh : Int) - nh)))).heap.size = w6.heap.size := by simp
      have hx : Bx (((w6.setCell ⟨B + 1, 0, none⟩ (.int .i64 (ko + ((oh : Int) - nh)))).setCell ⟨B + 1, 1, none⟩ (.int .i64 (kn + ((oh : Int) - nh)))).alloc (.cells #[.int .i64 ho, .int .i64 hn, .slice am hq cm] 40)) w6.heap.size ho hn am hq cm := by
        have := heap_alloc_new ((w6.setCell ⟨B + 1, 0, none⟩ (.int .i64 (ko + ((oh : Int) - nh)))).setCell ⟨B + 1, 1, none⟩ (.int .i64 (kn + ((oh : Int) - nh)))) (.cells #[.int .i64 ho, .int .i64 hn, .slice am hq cm] 40)
        rw [hs7] at this
        exact this
      have hq8 := HQ7.below (below_alloc ((w6.setCell ⟨B + 1, 0, none⟩ (.int .i64 (ko + ((oh : Int) - nh)))).setCell ⟨B + 1, 1, none⟩ (.int .i64 (kn + ((oh : Int) - nh)))) (.cells #[.int .i64 ho, .int .i64 hn, .slice am hq cm] 40))
      have hc3 := HFT.out ho hn _ _ hq8.2.2.2.2 hx
      have eh : ((ho, hn, h.2.2) : Hk) = h := by rw [← LH.out.1, ← LH.out.2.1]
      rw [eh, H1.out] at hc3
      clear x0 x1 x2 y0 y1 y2 z0 z1 z2 g0 g1 g2 HQ7 hx hs7 eh
      generalize ((w6.setCell ⟨B + 1, 0, none⟩ (.int .i64 (ko + ((oh : Int) - nh)))).setCell ⟨B + 1, 1, none⟩ (.int .i64 (kn + ((oh : Int) - nh)))).alloc (.cells #[.int .i64 ho, .int .i64 hn, .slice am hq cm] 40) = w8 at hq8 hc3 ⊢
      have HQw8 : Hid (Sq w w8 B ho hn am hq cm (ko + ((oh : Int) - nh)) (kn + ((oh : Int) - nh)) an kq cn) := hq8
      obtain ⟨p3, hp3⟩ : ∃ x, (hf [h]).1 = x := ⟨_, rfl⟩
      rw [hp3] at hc3
      clear hq8 hp3
      go_wp2_with (go_at_call 35; refine hc3.mono ?_)
      rintro e w9 ⟨rfl, hb9⟩
      have HQw9 : Hid (Sq w w9 B ho hn am hq cm (ko + ((oh : Int) - nh)) (kn + ((oh : Int) - nh)) an kq cn) := HQw8.out.below hb9
      clear hc3 hb9 HQw8
      obtain ⟨k0, k1, k2⟩ := HQw9.out.2.1.cells
      have hx2 : Bx (w9.alloc (.cells #[.int .i64 (ko + ((oh : Int) - nh)), .int .i64 (kn + ((oh : Int) - nh)), .slice an kq cn] 40)) w9.heap.size (ko + ((oh : Int) - nh)) (kn + ((oh : Int) - nh)) an kq cn := heap_alloc_new w9 _
      have hqb := HQw9.out.below (below_alloc w9 (.cells #[.int .i64 (ko + ((oh : Int) - nh)), .int .i64 (kn + ((oh : Int) - nh)), .slice an kq cn] 40))
      have hc4 := KFT.out (ko + ((oh : Int) - nh)) (kn + ((oh : Int) - nh)) _ _ hqb.2.2.2.2 hx2
      obtain ⟨p4, hp4⟩ : ∃ x, (hf [((ko + ((oh : Int) - nh)), (kn + ((oh : Int) - nh)), k.2.2)]).1 = x := ⟨_, rfl⟩
      obtain ⟨f4, hf4⟩ : ∃ x, (hf [((ko + ((oh : Int) - nh)), (kn + ((oh : Int) - nh)), k.2.2)]).2 = x := ⟨_, rfl⟩
      have H4 : Hid (swF h k = f4) := by
        show swF h k = f4
        rw [swF_n H1.out H2.out HNE.out (by rw [HSP.out]; exact H1.out), HSP.out]
        exact hf4
      rw [hp4, hf4] at hc4
      have HQB : Hid (Sq w (w9.alloc (.cells #[.int .i64 (ko + ((oh : Int) - nh)), .int .i64 (kn + ((oh : Int) - nh)), .slice an kq cn] 40)) B ho hn am hq cm (ko + ((oh : Int) - nh)) (kn + ((oh : Int) - nh)) an kq cn) := hqb
      clear hx2 hqb hp4 hf4
      go_wp2_with (go_at_call 35; refine hc4.mono ?_)
      rintro e w10 ⟨rfl, hb10⟩
      have HQ10 : Hid (Sq w w10 B ho hn am hq cm (ko + ((oh : Int) - nh)) (kn + ((oh : Int) - nh)) an kq cn) := HQB.out.below hb10
      clear hc4 hb10 HQB k0 k1 k2 HQw9
      by_cases e4 : f4 = 0
      case' neg =>
        have hz2 : (f4 != 0) = true := by simpa using e4
        obtain ⟨_, _, s3, s4, _⟩ := HQ10.out
        obtain ⟨a0, a1, a2⟩ := s3.cells
        obtain ⟨a3, a4, a5⟩ := s4.cells
        obtain ⟨z0, z1, z2⟩ := s3.frozen
        obtain ⟨z3, z4, z5⟩ := s4.frozen
        obtain ⟨u1, u2, u3⟩ := HQ10.out.empty (x := .int .i64 0) (y := .int .i64 0) (z := .slice none 0 0) (x' := .int .i64 0) (y' := .int .i64 0) (z' := .slice none 0 0)
        have v0 := Lib.cell_of_heap u1 0
        have v1 := Lib.cell_of_heap u1 1
        have v2 := Lib.cell_of_heap u1 2
        have v3 := Lib.cell_of_heap u2 0
        have v4 := Lib.cell_of_heap u2 1
        have v5 := Lib.cell_of_heap u2 2
        simp at v0 v1 v2 v3 v4 v5
        have HU := u3
        have HE : Hid (swF h k = f4) := H4.out
        have HNE : Hid ((f4 : Int) ≠ 0) := e4
        clear s3 s4 u1 u2 u3 e4
        go_wp2
        refine bodyPost_ret (v := .tuple #[.agg #[.int .i64 0, .int .i64 0, .slice none 0 0], .agg #[.int .i64 0, .int .i64 0, .slice none 0 0], .int .i64 f4]) (by simp [results, Tryd.results14, go_sem, v0, v1, v2, v3, v4, v5]) rfl ⟨P0.out _ _ HE.out HNE.out, HU⟩
      case' pos =>
        rw [e4]
        have HF0 : Hid (swF h k = 0) := by show swF h k = 0; rw [H4.out]; exact e4
        clear e4 H4
        obtain ⟨x0, x1, x2⟩ := HQ10.out.1.cells
        obtain ⟨k0, k1, k2⟩ := HQ10.out.2.1.cells
        obtain ⟨_, _, s3, s4, _⟩ := HQ10.out
        obtain ⟨a0, a1, a2⟩ := s3.cells
        obtain ⟨a3, a4, a5⟩ := s4.cells
        obtain ⟨z0, z1, z2⟩ := s3.frozen
        obtain ⟨z3, z4, z5⟩ := s4.frozen
        obtain ⟨u1, u2, u3⟩ := HQ10.out.empty (x := .int .i64 (ko + ((oh : Int) - nh))) (y := .int .i64 (kn + ((oh : Int) - nh))) (z := .slice an kq cn) (x' := .int .i64 ho) (y' := .int .i64 hn) (z' := .slice am hq cm)
        have v0 := Lib.cell_of_heap (drew_heap u1) 0
        have v1 := Lib.cell_of_heap (drew_heap u1) 1
        have v2 := Lib.cell_of_heap (drew_heap u1) 2
        have v3 := Lib.cell_of_heap (drew_heap u2) 0
        have v4 := Lib.cell_of_heap (drew_heap u2) 1
        have v5 := Lib.cell_of_heap (drew_heap u2) 2
        simp at v0 v1 v2 v3 v4 v5
        have HU := drew_below u3
        clear s3 s4 u1 u2 u3
        go_wp2_with fail
        go_region
        go_wp2
        refine bodyPost_ret (v := .tuple #[.agg #[.int .i64 (ko + ((oh : Int) - nh)), .int .i64 (kn + ((oh : Int) - nh)), .slice an kq cn], .agg #[.int .i64 ho, .int .i64 hn, .slice am hq cm], .int .i64 0]) (by simp [results, Tryd.results14, go_sem, v0, v1, v2, v3, v4, v5]) rfl ⟨SwP.ok HF0.out HSP.out ⟨LH.out.1, LH.out.2.1, LH.out.2.2⟩ ⟨rfl, rfl, LK.out.2.2⟩ (HM.out.below (by rw [HB.out]; exact HU)) (KM.out.below (by rw [HB.out]; exact HU)), HU⟩

end Go.Proofs.YtnkdmgekpajfhaeDoor
