/-
  The walk of the law SwapIs: any two hunks the other way round, as the document says.
-/
import Derived.Test.YtnkdmgekpajfhaeDoorRsw
import Derived.Test.YtnkdmgekpajfhaeDoorAs4
import Derived.Test.YtnkdmgekpajfhaeDoorEtv

namespace Go.Proofs.YtnkdmgekpajfhaeDoor
open Go.RowKit Dist

theorem swO_small {h k : Hk} (hh : h.2.2.length ≤ maxLen) (hk : k.2.2.length ≤ maxLen) : (swO h k).1.2.2.length ≤ maxLen ∧ (swO h k).2.2.2.length ≤ maxLen := by
  unfold swO
  by_cases e : swF h k = 0
  · rw [if_pos e]
    unfold swP shf
    by_cases a : ahd h k = true
    · rw [if_pos a]; exact ⟨hk, hh⟩
    · rw [if_neg a]; exact ⟨hk, hh⟩
  · rw [if_neg e]
    exact ⟨Nat.zero_le _, Nat.zero_le _⟩

/-- Two structs of three cells in blocks that come one behind the other. -/
theorem Bzz.two (w : World) (x y z x' y' z' : Value) : Bzz ((w.alloc (.cells #[x, y, z] 40)).alloc (.cells #[x', y', z'] 40)) w.heap.size x y z ∧ Bzz ((w.alloc (.cells #[x, y, z] 40)).alloc (.cells #[x', y', z'] 40)) (w.heap.size + 1) x' y' z' ∧ Below w.heap.size w ((w.alloc (.cells #[x, y, z] 40)).alloc (.cells #[x', y', z'] 40)) := by
  have h1 := heap_alloc_new w (.cells #[x, y, z] 40)
  have b1 := below_alloc w (.cells #[x, y, z] 40)
  have b2 := below_alloc (w.alloc (.cells #[x, y, z] 40)) (.cells #[x', y', z'] 40)
  have h2 := heap_alloc_new (w.alloc (.cells #[x, y, z] 40)) (.cells #[x', y', z'] 40)
  rw [World.size_alloc] at h2
  exact ⟨blk_below b2 (by simp) h1, h2, b1.trans (b2.mono b1.size)⟩

set_option maxRecDepth 100000 in
set_option maxHeartbeats 4000000 in
theorem swapIs_any (o p : Int) (am : Option Addr) (ms : List (Int × ByteArray)) (cm : Nat) (o' p' : Int) (an : Option Addr) (ns : List (Int × ByteArray)) (cn : Nat) (w : World) (hl : ms.length ≤ maxLen) (hm : Mks w am ms) (hs : ∀ m ∈ ms, m.2.size ≤ maxLen) (hc : ms.length ≤ cm) (kl : ns.length ≤ maxLen) (km : Mks w an ns) (ks : ∀ m ∈ ns, m.2.size ≤ maxLen) (kc : ns.length ≤ cn) (htl : TypeLaid w) :
    Calls Tryd.prog 5 #[.agg #[.int .i64 o, .int .i64 p, .slice am ms.length cm], .agg #[.int .i64 o', .int .i64 p', .slice an ns.length cn]] w fun e w' => e = .returned (.bool true) ∧ Below w.heap.size w w' := by
  have HSR : Hid (∀ w', Below w.heap.size w w' → Calls Tryd.prog 14 #[.agg #[.int .i64 o, .int .i64 p, .slice am ms.length cm], .agg #[.int .i64 o', .int .i64 p', .slice an ns.length cn]] w' fun e w'' => SwP (o, p, ms) (o', p', ns) e w'' ∧ Below w'.heap.size w' w'') := fun w' h => swapRef (o, p, ms) (o', p', ns) am cm an cn w' (hm.below h) hl hs hc (km.below h) kl ks kc
  have HSA : Hid (∀ w', Below w.heap.size w w' → Calls Tryd.prog 15 #[.agg #[.int .i64 o, .int .i64 p, .slice am ms.length cm], .agg #[.int .i64 o', .int .i64 p', .slice an ns.length cn]] w' fun e w'' => SwV (o, p, ms) (o', p', ns) e w'' ∧ Below w'.heap.size w' w'') := fun w' h => swapOfA o p am ms cm o' p' an ns cn w' (hm.below h) hl hc (km.below h) kl kc
  obtain ⟨l1, l2⟩ := swO_small (h := (o, p, ms)) (k := (o', p', ns)) hl kl
  obtain ⟨O, hO⟩ : ∃ O, swO (o, p, ms) (o', p', ns) = O := ⟨_, rfl⟩
  obtain ⟨F, hF⟩ : ∃ O, swF (o, p, ms) (o', p', ns) = O := ⟨_, rfl⟩
  unfold SwP at HSR
  unfold SwV at HSA
  rw [hO, hF] at HSR HSA
  rw [hO] at l1 l2
  have HE : Hid (∀ w', Below w.heap.size w w' → Calls Tryd.prog 13 #[errV F, .int .i64 F] w' fun e w'' => e = .returned (.bool true) ∧ Below w'.heap.size w' w'') := fun w' h => (errV_told F F w' (htl.below h)).mono fun e w'' ⟨he, hb⟩ => ⟨by rw [he]; simp, hb⟩
  obtain ⟨⟨xo, xn, xm⟩, ⟨yo, yn, ym⟩⟩ := O
  have HX : Hid (∀ w' a b ca cb, Mks w' a xm → Mks w' b xm → Calls Tryd.prog 16 #[.agg #[.int .i64 xo, .int .i64 xn, .slice a xm.length ca], .agg #[.int .i64 xo, .int .i64 xn, .slice b xm.length cb]] w' fun e w'' => e = .returned (.bool true) ∧ Below w'.heap.size w' w'') := fun w' a b ca cb h1 h2 => hunk_eq xo xn a b xm ca cb w' h1 h2 l1
  have HY : Hid (∀ w' a b ca cb, Mks w' a ym → Mks w' b ym → Calls Tryd.prog 16 #[.agg #[.int .i64 yo, .int .i64 yn, .slice a ym.length ca], .agg #[.int .i64 yo, .int .i64 yn, .slice b ym.length cb]] w' fun e w'' => e = .returned (.bool true) ∧ Below w'.heap.size w' w'') := fun w' a b ca cb h1 h2 => hunk_eq yo yn a b ym ca cb w' h1 h2 l2
  dsimp only at HSR HSA
  obtain ⟨q1, hq1⟩ : ∃ n, ms.length = n := ⟨_, rfl⟩
  obtain ⟨q2, hq2⟩ : ∃ n, ns.length = n := ⟨_, rfl⟩
  obtain ⟨nx, hnx⟩ : ∃ n, xm.length = n := ⟨_, rfl⟩
  obtain ⟨ny, hny⟩ : ∃ n, ym.length = n := ⟨_, rfl⟩
  obtain ⟨EV, hEV⟩ : ∃ v, errV F = v := ⟨_, rfl⟩
  rw [hq1, hq2, hnx, hny] at HSR HSA
  rw [hEV] at HSA HE
  rw [hnx] at HX
  rw [hny] at HY
  rw [hq1, hq2]
  obtain ⟨B, hB⟩ : ∃ B, w.heap.size = B := ⟨_, rfl⟩
  have HB : Hid (w.heap.size = B) := hB
  obtain ⟨b1, b2, b3⟩ := Bzz.two w (.int .i64 o) (.int .i64 p) (.slice am q1 cm) (.int .i64 o') (.int .i64 p') (.slice an q2 cn)
  rw [hB] at HSR HSA HE b1 b2 b3 ⊢
  clear hm hl hs hc km kl ks kc htl l1 l2 hO hF hq1 hq2 hnx hny hEV hB
  go_enter Tryd.func5, Tryd.ntmps5
  go_wp2_with fail
  rw [HB.out]
  generalize (w.alloc (.cells #[.int .i64 o, .int .i64 p, .slice am q1 cm] 40)).alloc (.cells #[.int .i64 o', .int .i64 p', .slice an q2 cn] 40) = W at b1 b2 b3 ⊢
  have hsr := HSR.out W b3
  have B1 : Hid (Bzz W B (.int .i64 o) (.int .i64 p) (.slice am q1 cm)) := b1
  have B2 : Hid (Bzz W (B + 1) (.int .i64 o') (.int .i64 p') (.slice an q2 cn)) := b2
  have B3 : Hid (Below B w W) := b3
  clear b1 b2 b3 HSR
  go_wp2_with (go_at_call 14; refine hsr.mono ?_)
  rintro e w1 ⟨⟨a1, c1, a2, c2, rfl, m1, m2⟩, hb1⟩
  obtain ⟨t1, t2, t3⟩ := Bzz.two w1 (.int .i64 xo) (.int .i64 xn) (.slice a1 nx c1) (.int .i64 yo) (.int .i64 yn) (.slice a2 ny c2)
  have B1 : Hid (Bzz w1 B (.int .i64 o) (.int .i64 p) (.slice am q1 cm)) := B1.out.below hb1
  have B2 : Hid (Bzz w1 (B + 1) (.int .i64 o') (.int .i64 p') (.slice an q2 cn)) := B2.out.below hb1
  have B3 : Hid (Below B w w1) := B3.out.trans (hb1.mono (by rw [← HB.out]; exact B3.out.size))
  have hsa := HSA.out _ (B3.out.trans (t3.mono (by rw [← HB.out]; exact B3.out.size)))
  obtain ⟨x0, x1, x2⟩ := (B1.out.below t3).cells
  obtain ⟨y0, y1, y2⟩ := (B2.out.below t3).cells
  have T1 : Hid (Bzz _ w1.heap.size (.int .i64 xo) (.int .i64 xn) (.slice a1 nx c1)) := t1
  have T2 : Hid (Bzz _ (w1.heap.size + 1) (.int .i64 yo) (.int .i64 yn) (.slice a2 ny c2)) := t2
  have T3 : Hid (Below B w _) := B3.out.trans (t3.mono (by rw [← HB.out]; exact B3.out.size))
  have M1 : Hid (Mks _ a1 xm) := m1.below t3
  have M2 : Hid (Mks _ a2 ym) := m2.below t3
  clear hsr hb1 t1 t2 t3 m1 m2 B1 B2 B3 HSA
  go_wp2_with (go_at_call 15; refine hsa.mono ?_)
  rintro e w2 ⟨⟨a3, c3, a4, c4, rfl, m3, m4⟩, hb2⟩
  obtain ⟨t1, t2, t3⟩ := Bzz.two w2 (.int .i64 xo) (.int .i64 xn) (.slice a3 nx c3) (.int .i64 yo) (.int .i64 yn) (.slice a4 ny c4)
  have hb3 := hb2.trans (t3.mono hb2.size)
  have T1 : Hid (Bzz _ w1.heap.size (.int .i64 xo) (.int .i64 xn) (.slice a1 nx c1)) := T1.out.below hb3
  have T2 : Hid (Bzz _ (w1.heap.size + 1) (.int .i64 yo) (.int .i64 yn) (.slice a2 ny c2)) := T2.out.below hb3
  have T3 : Hid (Below B w _) := T3.out.trans (hb3.mono (by rw [← HB.out]; exact T3.out.size))
  have M1 : Hid (Mks _ a1 xm) := M1.out.below hb3
  have M2 : Hid (Mks _ a2 ym) := M2.out.below hb3
  have M3 : Hid (Mks _ a3 xm) := m3.below t3
  have M4 : Hid (Mks _ a4 ym) := m4.below t3
  have T4 : Hid (Bzz _ w2.heap.size (.int .i64 xo) (.int .i64 xn) (.slice a3 nx c3)) := t1
  have T5 : Hid (Bzz _ (w2.heap.size + 1) (.int .i64 yo) (.int .i64 yn) (.slice a4 ny c4)) := t2
  have hee := HE.out _ T3.out
  clear hsa hb2 hb3 t1 t2 t3 m3 m4 HE x0 x1 x2 y0 y1 y2
  go_wp2_with (go_at_call 13; refine hee.mono ?_)
  rintro e w3 ⟨rfl, hb3⟩
  obtain ⟨x0, x1, x2⟩ := (T4.out.below hb3).cells
  obtain ⟨y0, y1, y2⟩ := (T1.out.below hb3).cells
  have hxx := HX.out w3 a3 a1 c3 c1 (M3.out.below hb3) (M1.out.below hb3)
  have T2 : Hid (Bzz w3 (w1.heap.size + 1) (.int .i64 yo) (.int .i64 yn) (.slice a2 ny c2)) := T2.out.below hb3
  have T5 : Hid (Bzz w3 (w2.heap.size + 1) (.int .i64 yo) (.int .i64 yn) (.slice a4 ny c4)) := T5.out.below hb3
  have M2 : Hid (Mks w3 a2 ym) := M2.out.below hb3
  have M4 : Hid (Mks w3 a4 ym) := M4.out.below hb3
  have T3 : Hid (Below B w w3) := T3.out.trans (hb3.mono (by rw [← HB.out]; exact T3.out.size))
  clear hee hb3 T1 T4 M1 M3 HX
  go_wp2_with (go_at_call 16; refine hxx.mono ?_)
  rintro e w4 ⟨rfl, hb4⟩
  obtain ⟨x0, x1, x2⟩ := (T5.out.below hb4).cells
  obtain ⟨y0, y1, y2⟩ := (T2.out.below hb4).cells
  have hyy := HY.out w4 a4 a2 c4 c2 (M4.out.below hb4) (M2.out.below hb4)
  have T3 : Hid (Below B w w4) := T3.out.trans (hb4.mono (by rw [← HB.out]; exact T3.out.size))
  clear hxx hb4 T2 T5 M2 M4 HY
  go_wp2_with (go_at_call 16; refine hyy.mono ?_)
  rintro e w5 ⟨rfl, hb5⟩
  have T3 : Hid (Below B w w5) := T3.out.trans (hb5.mono (by rw [← HB.out]; exact T3.out.size))
  clear hyy hb5
  go_wp2
  go_ret
  exact ⟨rfl, T3.out⟩

end Go.Proofs.YtnkdmgekpajfhaeDoor
