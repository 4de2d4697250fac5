/-
  Walk of the document's own answer for hunks turned. The document's own answer for a script in pieces: which marks are near, mark by mark; rows of hunks of which the last one's marks are lengthened. Walk of the document's own answer for a script in pieces.
-/
import Derived.Test.YtnkdmgekpajfhadGreatDoorXy
import Derived.Deep.RegionWith
import Derived.Deep.DrawnRows
import Derived.Deep.AppendLies
import Derived.Test.YtnkdmgekpajfhadGreatDoorXl
import Derived.Test.YtnkdmgekpajfhadGreatDoorRefE
import Derived.Deep.RegionHeld3
import Derived.Deep.RegionLaw

namespace Go.Proofs.YtnkdmgekpajfhadGreatDoor
open Go.RowKit Dist

attribute [local go_sem] Go.wp_at_zero Go.wp_at_succ

theorem mcells_one (c : Int) (x : ByteArray) : mcells [(c, x)] = [.int .u8 c, .string x] := rfl

end Go.Proofs.YtnkdmgekpajfhadGreatDoor

namespace Go.Proofs.YtnkdmgekpajfhadGreatDoor
open Go.RowKit Dist

attribute [local go_sem] Go.wp_at_zero Go.wp_at_succ

/-- Of the first marks one that changes something is near. -/
def nt (ms : List (Int × ByteArray)) (n i t : Nat) : Bool := (List.range t).any fun k => (ms.getD k (0, ByteArray.empty)).1 != 32 && (decide (k ≤ i + n) && decide (i ≤ k + n))

theorem nt_succ (ms : List (Int × ByteArray)) (n i t : Nat) : nt ms n i (t + 1) = (nt ms n i t || ((ms.getD t (0, ByteArray.empty)).1 != 32 && (decide (t ≤ i + n) && decide (i ≤ t + n)))) := by
  unfold nt; rw [List.range_succ, List.any_append]; simp

/-- The mark at i itself, or one of the first t. -/
def ni (ms : List (Int × ByteArray)) (n i t : Nat) : Bool := (ms.getD i (0, ByteArray.empty)).1 != 32 || nt ms n i t

theorem ni_near (ms : List (Int × ByteArray)) (n i : Nat) (hi : i < ms.length) : ni ms n i ms.length = near ms n i := by
  have e : nt ms n i ms.length = near ms n i := by unfold near nt; rw [decide_eq_true hi, Bool.true_and]
  unfold ni
  rw [e]
  by_cases h : (ms.getD i (0, ByteArray.empty)).1 = 32
  · rw [h]; simp
  · have : near ms n i = true := (near_iff _ _ _).2 ⟨hi, i, hi, h, by omega, by omega⟩
    rw [this]; simp

/-- The row of hunks, the last one's marks in a row that grows. -/
def COwn (w : World) (B : Nat) (v : Value) (hs : List (Int × Int × List (Int × ByteArray))) (o p : Int) (cur : List (Int × ByteArray)) : Prop :=
  ∃ (xs : List Value) (vl : Value) (g c B1 : Nat), v = .slice (some ⟨g, 0, none⟩) (hs.length + 1) c ∧ w.ownsRow B 57 3 v (hs.length + 1) (xs ++ [.int .i64 o, .int .i64 p, vl]) ∧ g < B1 ∧ B1 ≤ w.heap.size ∧ w.ownsRow B1 97 2 vl cur.length (mcells cur) ∧ xs.length = hs.length * 3 ∧
    ∀ i, i < hs.length → ∃ gm cap, xs[i * 3]? = some (.int .i64 (hs.getD i (0, 0, [])).1) ∧ xs[i * 3 + 1]? = some (.int .i64 (hs.getD i (0, 0, [])).2.1) ∧ xs[i * 3 + 2]? = some (.slice (some ⟨gm, 0, none⟩) (hs.getD i (0, 0, [])).2.2.length cap) ∧ gm ≠ g ∧ gm < B1 ∧ Mks w (some ⟨gm, 0, none⟩) (hs.getD i (0, 0, [])).2.2 ∧ (hs.getD i (0, 0, [])).2.2.length ≤ cap ∧ B ≤ gm

theorem COwn.below {w w' : World} {B : Nat} {v : Value} {hs : List (Int × Int × List (Int × ByteArray))} {o p : Int} {cur : List (Int × ByteArray)} (h : COwn w B v hs o p cur) (hb : Below w.heap.size w w') : COwn w' B v hs o p cur := by
  obtain ⟨xs, vl, g, c, B1, hv, h1, h2, h3, h4, h5, h6⟩ := h
  refine ⟨xs, vl, g, c, B1, hv, own_later h1 hb, h2, Nat.le_trans h3 hb.size, own_later h4 hb, h5, fun i hi => ?_⟩
  obtain ⟨gm, cap, a1, a2, a3, a4, a5, a6, a7, a8⟩ := h6 i hi
  exact ⟨gm, cap, a1, a2, a3, a4, a5, a6.below hb, a7, a8⟩

/-- The last hunk's marks are full: it is a hunk like the others. -/
theorem COwn.shut {w : World} {B : Nat} {v : Value} {hs : List (Int × Int × List (Int × ByteArray))} {o p : Int} {cur : List (Int × ByteArray)} (h : COwn w B v hs o p cur) (hc : 0 < cur.length) : HOwn w B v (hs ++ [(o, p, cur)]) := by
  obtain ⟨xs, vl, g, c, B1, rfl, h1, h2, h3, h4, h5, h6⟩ := h
  obtain ⟨gl, cl', rfl, hg1, hg2⟩ := h4.form hc
  have hcl : cur.length ≤ cl' := by
    rcases h4.2 with ⟨e, _⟩ | ⟨_, _, _, e, _, _, h7, _⟩
    · simp at e
    · simp only [Value.slice.injEq] at e; omega
  obtain ⟨a', cap', ea, hmk⟩ := mks_of_own h4
  simp only [Value.slice.injEq] at ea
  rw [← ea.1] at hmk
  refine ⟨_, by rw [List.length_append]; exact h1, fun i hi => ?_⟩
  rw [List.length_append] at hi
  simp only [List.length_cons, List.length_nil, Nat.zero_add] at hi
  have hob : ∀ {x y z : Nat}, (Value.slice (some ⟨g, 0, none⟩) y z).ownBlock ≠ some x ↔ x ≠ g := fun {x y z} => by
    simp [Value.ownBlock]; exact ⟨fun h e => h e.symm, fun h e => h e.symm⟩
  by_cases e : i < hs.length
  · obtain ⟨g1, c1, a1, a2, a3, a4, a5, a6, a7, a8⟩ := h6 i e
    have e2 : (hs ++ [(o, p, cur)]).getD i (0, 0, []) = hs.getD i (0, 0, []) := by simp [List.getElem?_append, e]
    rw [e2, List.getElem?_append_left (by omega), List.getElem?_append_left (by omega), List.getElem?_append_left (by omega)]
    exact ⟨g1, c1, a1, a2, a3, hob.2 a4, by omega, a6, a7, a8⟩
  · obtain rfl : i = hs.length := by omega
    have e2 : (hs ++ [(o, p, cur)]).getD hs.length (0, 0, []) = (o, p, cur) := by simp
    rw [e2, List.getElem?_append_right (by omega), List.getElem?_append_right (by omega), List.getElem?_append_right (by omega), h5]
    exact ⟨gl, cl', by simp, by simp, by simp, hob.2 (by omega), hg2, hmk, hcl, by have := (h1.lt g rfl).1; omega⟩

/-- A hunk is opened. -/
theorem COwn.begin {w w' : World} {B g c : Nat} {v : Value} {hs : List (Int × Int × List (Int × ByteArray))} {xs : List Value} {o p : Int}
    (hown : w.ownsRow B 57 3 v hs.length xs)
    (h2 : ∀ i, i < hs.length → ∃ g cap, xs[i * 3]? = some (.int .i64 (hs.getD i (0, 0, [])).1) ∧ xs[i * 3 + 1]? = some (.int .i64 (hs.getD i (0, 0, [])).2.1) ∧ xs[i * 3 + 2]? = some (.slice (some ⟨g, 0, none⟩) (hs.getD i (0, 0, [])).2.2.length cap) ∧ v.ownBlock ≠ some g ∧ g < w.heap.size ∧ Mks w (some ⟨g, 0, none⟩) (hs.getD i (0, 0, [])).2.2 ∧ (hs.getD i (0, 0, [])).2.2.length ≤ cap ∧ B ≤ g)
    (hown' : w'.ownsRow B 57 3 (.slice (some ⟨g, 0, none⟩) (hs.length + 1) c) (hs.length + 1) (xs ++ [.int .i64 o, .int .i64 p, .slice none 0 0])) (hg : w.grownBy w' v.ownBlock) (hv : v.ownBlock = some g ∨ g = w.heap.size) (hlt : g < w'.heap.size) :
    COwn w' B (.slice (some ⟨g, 0, none⟩) (hs.length + 1) c) hs o p [] := by
  refine ⟨xs, .slice none 0 0, g, c, w'.heap.size, rfl, hown', hlt, Nat.le_refl _, World.ownsRow_nil _ _ _ _, hown.1, fun i hi => ?_⟩
  obtain ⟨g1, c1, a1, a2, a3, a4, a5, a6, a7, a8⟩ := h2 i hi
  refine ⟨g1, c1, a1, a2, a3, ?_, Nat.lt_of_lt_of_le a5 hg.size, a6.grown hg a4, a7, a8⟩
  intro e
  rcases hv with h | h
  · exact a4 (by rw [h, e])
  · omega

/-- A mark more in the last hunk. -/
theorem COwn.push {w W2 w3 : World} {B g c B1 X : Nat} {xs : List Value} {vl vl' : Value} {hs : List (Int × Int × List (Int × ByteArray))} {o p : Int} {cur : List (Int × ByteArray)} {c' : Int} {t : ByteArray}
    (h1 : w.ownsRow B 57 3 (.slice (some ⟨g, 0, none⟩) (hs.length + 1) c) (hs.length + 1) (xs ++ [.int .i64 o, .int .i64 p, vl])) (h2 : g < B1) (h3 : B1 ≤ w.heap.size) (h4 : w.ownsRow B1 97 2 vl cur.length (mcells cur)) (h5 : xs.length = hs.length * 3)
    (h6 : ∀ i, i < hs.length → ∃ gm cap, xs[i * 3]? = some (.int .i64 (hs.getD i (0, 0, [])).1) ∧ xs[i * 3 + 1]? = some (.int .i64 (hs.getD i (0, 0, [])).2.1) ∧ xs[i * 3 + 2]? = some (.slice (some ⟨gm, 0, none⟩) (hs.getD i (0, 0, [])).2.2.length cap) ∧ gm ≠ g ∧ gm < B1 ∧ Mks w (some ⟨gm, 0, none⟩) (hs.getD i (0, 0, [])).2.2 ∧ (hs.getD i (0, 0, [])).2.2.length ≤ cap ∧ B ≤ gm)
    (hb2 : Below w.heap.size w W2) (hX : w.heap.size ≤ X) (hX2 : X < W2.heap.size) (hgrow : W2.grownBy w3 vl.ownBlock) (hown3 : w3.ownsRow B1 97 2 vl' (cur.length + 1) (mcells cur ++ [.int .u8 c', .string t])) (hat : vl'.ownBlock = vl.ownBlock ∨ vl'.ownBlock = some W2.heap.size) :
    COwn ((((w3.setCell ⟨X, 2, none⟩ vl').setCell ⟨g, hs.length * 3, none⟩ (.int .i64 o)).setCell ⟨g, hs.length * 3 + 1, none⟩ (.int .i64 p)).setCell ⟨g, hs.length * 3 + 2, none⟩ vl') B (.slice (some ⟨g, 0, none⟩) (hs.length + 1) c) hs o p (cur ++ [(c', t)]) := by
  have hgX : g ≠ X := by omega
  have hvb : ∀ y, vl.ownBlock = some y → B1 ≤ y ∧ y < w.heap.size := fun y hy => h4.lt y hy
  have hv'X : vl'.ownBlock ≠ some X := by
    intro e
    rcases hat with h | h
    · have := hvb X (by rw [← h]; exact e); omega
    · rw [h] at e; simp at e; omega
  have hv'g : vl'.ownBlock ≠ some g := by
    intro e
    have := (hown3.lt g e).1
    omega
  have hr1 : W2.ownsRow B 57 3 (.slice (some ⟨g, 0, none⟩) (hs.length + 1) c) (hs.length + 1) (xs ++ [.int .i64 o, .int .i64 p, vl]) := own_later h1 hb2
  have hr2 := hr1.kept hgrow (.inr (fun e => by have := (hvb g (by rw [← e]; rfl)).1; omega))
  have hr3 := own_ne hr2 (G := X) (i := 2) (by simp [Value.ownBlock]; exact hgX) vl'
  have hr4 := (((hr3.stored (hs.length * 3) (.int .i64 o)).1.stored (hs.length * 3 + 1) (.int .i64 p)).1.stored (hs.length * 3 + 2) vl').1
  refine ⟨xs, vl', g, c, B1, rfl, ?_, h2, ?_, ?_, h5, fun i hi => ?_⟩
  · have e : (((xs ++ [.int .i64 o, .int .i64 p, vl]).set (hs.length * 3) (.int .i64 o)).set (hs.length * 3 + 1) (.int .i64 p)).set (hs.length * 3 + 2) vl' = xs ++ [.int .i64 o, .int .i64 p, vl'] := by
      rw [← h5]; simp
    rw [e] at hr4
    exact hr4
  · simp
    have := hgrow.size
    have := hb2.size
    omega
  · rw [List.length_append, mcells_append]
    exact own_ne (own_ne (own_ne (own_ne hown3 hv'X _) hv'g _) hv'g _) hv'g _
  · obtain ⟨gm, cap, a1, a2, a3, a4, a5, a6, a7, a8⟩ := h6 i hi
    refine ⟨gm, cap, a1, a2, a3, a4, a5, ?_⟩
    have m1 := (a6.below hb2).grown hgrow (fun e => by have := (hvb gm e).1; omega)
    exact ⟨(((m1.other (show gm ≠ X by omega) _).other a4 _).other a4 _).other a4 _, a7, a8⟩

end Go.Proofs.YtnkdmgekpajfhadGreatDoor

namespace Go.Proofs.YtnkdmgekpajfhadGreatDoor
open Go.RowKit Dist

attribute [local go_sem] Go.wp_at_zero Go.wp_at_succ

theorem own_slice {w : World} {B : Nat} {e : TypeId} {k : Nat} {v : Value} {n : Nat} {xs : List Value} (h : w.ownsRow B e k v n xs) : ∃ a m c, v = .slice a m c := by
  rcases h.2 with ⟨h0, _⟩ | ⟨g, cap, cur, hv, _⟩
  · exact ⟨_, _, _, h0⟩
  · exact ⟨_, _, _, hv⟩

theorem sf_tk {ms : List (Int × ByteArray)} (h : sf ms = 0) (k : Nat) : sf (ms.take k) = 0 := by
  have := sf_part h 0 k
  rwa [List.drop_zero] at this

theorem oldK (a : Option Addr) (ms : List (Int × ByteArray)) (ca k : Nat) (w : World) (ha : Mks w a ms) (hf : sf ms = 0) (hk : k ≤ ms.length) :
    Calls Tryz.prog 22 #[.slice a k ca] w fun e w' => ∃ a' cap, e = .returned (.slice a' (ob (ms.take k)) cap) ∧ Below w.heap.size w w' := by
  have h := oldOf a (ms.take k) ca w (ha.tk k) (sf_tk hf k)
  rw [List.length_take, Nat.min_eq_left hk] at h
  exact h.mono fun e w' ⟨a', cap, he, _, hb⟩ => ⟨a', cap, by rw [he, ob_less (ms.take k) fun m hm => ((sf_zero (sf_tk hf k)).2 m hm).1], hb⟩

theorem newK (a : Option Addr) (ms : List (Int × ByteArray)) (ca k : Nat) (w : World) (ha : Mks w a ms) (hf : sf ms = 0) (hk : k ≤ ms.length) :
    Calls Tryz.prog 23 #[.slice a k ca] w fun e w' => ∃ a' cap, e = .returned (.slice a' (nb (ms.take k)) cap) ∧ Below w.heap.size w w' := by
  have h := newOf a (ms.take k) ca w (ha.tk k) (sf_tk hf k)
  rw [List.length_take, Nat.min_eq_left hk] at h
  exact h.mono fun e w' ⟨a', cap, he, _, hb⟩ => ⟨a', cap, by rw [he, nb_less (ms.take k) fun m hm => ((sf_zero (sf_tk hf k)).2 m hm).1], hb⟩

set_option maxRecDepth 100000 in
set_option maxHeartbeats 4000000 in
theorem refCut (a : Option Addr) (ms : List (Int × ByteArray)) (ca n : Nat) (w : World) (ha : Mks w a ms) (hca : ms.length ≤ ca) (hc : cf ms n = 0) :
    Calls Tryz.prog 40 #[.slice a ms.length ca, .int .i64 n] w fun e w' => ∃ v, e = .returned v ∧ Below w.heap.size w w' ∧ HOwn w' w.heap.size v (cut ms n) := by
  obtain ⟨hf, _, hn, _, _⟩ := cf_zero hc
  have hm := (sf_zero hf).1
  obtain ⟨i0, hi0, hz0, hz1, hz2⟩ := info_parts Tryz.infoHunk
  obtain ⟨j0, hj0, hy0, hy1, hy2⟩ := info_parts Tryz.infoMark
  obtain ⟨q, hq⟩ : ∃ q, ms.length = q := ⟨_, rfl⟩
  rw [hq] at hm hca ⊢
  have HQ : Hid (ms.length = q) := hq
  have HA : Hid (Mks w a ms) := ha
  have HF : Hid (sf ms = 0) := hf
  have hn' : n ≤ 1000 := by omega
  clear hq ha hf hc hn
  obtain ⟨B, hB⟩ : ∃ B, w.heap.size = B := ⟨_, rfl⟩
  have HB : Hid (w.heap.size = B) := hB
  rw [hB]
  clear hB
  go_enter Tryz.func40, Tryz.ntmps40
  go_wp2
  go_loopw [5, 6, 7] (fun v u j w1 => ∃ i : Nat, i ≤ q ∧ j = .int .i64 i ∧ u = .bool (decide (rl ms n i ≠ 0)) ∧ Below B w w1 ∧ ((rl ms n i = 0 ∧ HOwn w1 B v (cl ms n i)) ∨ (rl ms n i ≠ 0 ∧ COwn w1 B v (cl ms n i) (ob (ms.take (i - rl ms n i))) (nb (ms.take (i - rl ms n i))) ((ms.take i).drop (i - rl ms n i))))) (fun _ _ j _ => q - (intOf j).toNat)
  case atStart => exact ⟨0, Nat.zero_le _, rfl, rfl, Below.refl _ _, .inl ⟨rfl, HOwn.zero _ _⟩⟩
  case round =>
    obtain ⟨wa, rfl⟩ : ∃ wa, wa = wr := ⟨_, rfl⟩
    obtain ⟨i, hi, rfl, rfl, hbl, hor⟩ := hrel
    have HOR : Hid ((rl ms n i = 0 ∧ HOwn wa B u5 (cl ms n i)) ∨ (rl ms n i ≠ 0 ∧ COwn wa B u5 (cl ms n i) (ob (ms.take (i - rl ms n i))) (nb (ms.take (i - rl ms n i))) ((ms.take i).drop (i - rl ms n i)))) := hor
    clear hor
    have hb' : Below w.heap.size w wa := by rw [HB.out]; exact hbl
    by_cases hlt : i < q
    · have ha := HA.out
      obtain ⟨b, off, rfl, hc1, hc2⟩ := ha.at (i := i) (by rw [HQ.out]; exact hlt)
      have HMA : Hid (Mks wa (some ⟨b, off, none⟩) ms) := ha.below hb'
      clear ha
      replace hc1 := cell_later hb' hc1
      replace hc2 := cell_later hb' hc2
      obtain ⟨c, hcc⟩ : ∃ c, (ms.getD i (0, ByteArray.empty)).1 = c := ⟨_, rfl⟩
      obtain ⟨t, htt⟩ : ∃ t, (ms.getD i (0, ByteArray.empty)).2 = t := ⟨_, rfl⟩
      have HCT : Hid (ms.getD i (0, ByteArray.empty) = (c, t)) := getD_eta ms i hcc htt
      rw [hcc] at hc1
      rw [htt] at hc2
      have HNI : Hid (ni ms n i 0 = (c != 32)) := by show ni ms n i 0 = _; unfold ni nt; rw [hcc]; simp
      have C1 : Hid (wa.cell? ⟨b, off + i * 2, none⟩ = some (.int .u8 c)) := hc1
      have C2 : Hid (wa.cell? ⟨b, off + i * 2 + 1, none⟩ = some (.string t)) := hc2
      obtain ⟨wb, hwb⟩ : ∃ wb : Bool, decide (rl ms n i ≠ 0) = wb := ⟨_, rfl⟩
      have HWB : Hid (decide (rl ms n i ≠ 0) = wb) := hwb
      rw [hwb]
      clear hcc htt hwb hc2
      go_wp2
      go_loop [8, 9] (fun v j => ∃ k : Nat, k ≤ q ∧ j = .int .i64 k ∧ v = .bool (ni ms n i k)) (fun _ j => q - (intOf j).toNat)
      case atStart => exact ⟨0, Nat.zero_le _, rfl, by rw [HNI.out]⟩
      case round =>
        obtain ⟨k, hk, rfl, rfl⟩ := hrel
        by_cases hkq : k < q
        · have hma := HMA.out
          obtain ⟨b', off', ea, hx1, _⟩ := hma.at (i := k) (by rw [HQ.out]; exact hkq)
          simp only [Option.some.injEq, Addr.mk.injEq] at ea
          obtain ⟨rfl, rfl, _⟩ := ea
          clear hma
          have HS : Hid (ni ms n i (k + 1) = (ni ms n i k || ((ms.getD k (0, ByteArray.empty)).1 != 32 && (decide (k ≤ i + n) && decide (i ≤ k + n))))) := by
            show ni ms n i (k + 1) = _
            unfold ni
            rw [nt_succ, Bool.or_assoc]
          obtain ⟨d, hd⟩ : ∃ d, (ms.getD k (0, ByteArray.empty)).1 = d := ⟨_, rfl⟩
          rw [hd] at hx1 HS
          obtain ⟨r, hr⟩ : ∃ r, ni ms n i k = r := ⟨_, rfl⟩
          rw [hr] at HS ⊢
          clear hd hr
          by_cases h1 : d = 32
          · subst h1
            have HS2 : Hid (ni ms n i (k + 1) = r) := by show ni ms n i (k + 1) = r; rw [HS.out]; simp
            go_wp2
            go_round
            case rel => exact ⟨k + 1, by omega, by go_num, by rw [HS2.out]⟩
            case measure => simp [intOf]; omega
          · have h1' : (d != 32) = true := by simpa using h1
            by_cases h2 : (k : Int) - i ≤ n
            · by_cases h3 : (i : Int) - k ≤ n
              · have HS2 : Hid (ni ms n i (k + 1) = true) := by show ni ms n i (k + 1) = true; rw [HS.out, h1', decide_eq_true (show k ≤ i + n by omega), decide_eq_true (show i ≤ k + n by omega)]; simp
                clear h1
                go_wp2
                go_round
                case rel => exact ⟨k + 1, by omega, by go_num, by rw [HS2.out]⟩
                case measure => simp [intOf]; omega
              · have HS2 : Hid (ni ms n i (k + 1) = r) := by show ni ms n i (k + 1) = r; rw [HS.out, decide_eq_false (show ¬ i ≤ k + n by omega)]; simp
                clear h1
                go_wp2
                go_round
                case rel => exact ⟨k + 1, by omega, by go_num, by rw [HS2.out]⟩
                case measure => simp [intOf]; omega
            · have HS2 : Hid (ni ms n i (k + 1) = r) := by show ni ms n i (k + 1) = r; rw [HS.out, decide_eq_false (show ¬ k ≤ i + n by omega)]; simp
              clear h1
              go_wp2
              go_round
              case rel => exact ⟨k + 1, by omega, by go_num, by rw [HS2.out]⟩
              case measure => simp [intOf]; omega
        · have hkk : ni ms n i k = near ms n i := by rw [show k = ms.length by rw [HQ.out]; omega]; exact ni_near ms n i (by rw [HQ.out]; exact hlt)
          rw [hkk]
          clear hkk hk
          by_cases hnr : near ms n i = true
          case' neg =>
            have hnr : near ms n i = false := by simpa using hnr
            rw [hnr]
            have HNX : Hid (HOwn wa B u5 (cl ms n (i + 1))) := by
              show HOwn wa B u5 (cl ms n (i + 1))
              rcases HOR.out with ⟨h1, h2⟩ | ⟨h1, h2⟩
              · rw [cl_out hnr h1]; exact h2
              · rw [cl_end hnr h1]
                refine h2.shut ?_
                have := (rl_run (ms := ms) (n := n) i).1
                rw [List.length_drop, List.length_take, HQ.out]
                omega
            have HR0 : Hid (rl ms n (i + 1) = 0) := rl_out hnr
            clear hnr
            go_wp2
            go_roundw
            case rel => exact ⟨i + 1, by omega, by go_num, by rw [HR0.out]; rfl, hbl, .inl ⟨HR0.out, HNX.out⟩⟩
            case measure => simp [intOf]; omega
          rw [hnr]
          have HNR : Hid (near ms n i = true) := hnr
          clear hnr
          have HCL : Hid ((cl ms n i).length ≤ 200) := by
            have h6 := (cl_holds ms (fun m hm => ((sf_zero HF.out).2 m hm).1) n i (by rw [HQ.out]; omega)).2.2.2.2.2
            have h7 := ob_le (ms.take (i - rl ms n i))
            have h8 := nb_le (ms.take (i - rl ms n i))
            rw [List.length_take, HQ.out] at h7 h8
            show (cl ms n i).length ≤ 200
            split at h6 <;> omega
          rcases HOR.out with ⟨h1, h2⟩ | ⟨h1, h2⟩
          case' inl =>
            obtain rfl : wb = false := by rw [← HWB.out]; simp [h1]
            have H1 : Hid (rl ms n i = 0) := h1
            have H2 : Hid (HOwn wa B u5 (cl ms n i)) := h2
            have OL := oldK (some ⟨b, off, none⟩) ms ca i wa.drew HMA.out HF.out (by rw [HQ.out]; omega)
            have NW : ∀ w2, Below wa.drew.heap.size wa.drew w2 → Calls Tryz.prog 23 #[.slice (some ⟨b, off, none⟩) i ca] w2 fun e w' => ∃ a' cap, e = .returned (.slice a' (nb (ms.take i)) cap) ∧ Below w2.heap.size w2 w' := fun w2 h => newK _ ms ca i w2 ((show Mks wa.drew (some ⟨b, off, none⟩) ms from HMA.out).below h) HF.out (by rw [HQ.out]; omega)
            obtain ⟨o, ho⟩ : ∃ o, ob (ms.take i) = o := ⟨_, rfl⟩
            obtain ⟨p, hp⟩ : ∃ p, nb (ms.take i) = p := ⟨_, rfl⟩
            have HO : Hid (ob (ms.take i) = o) := ho
            have HP : Hid (nb (ms.take i) = p) := hp
            rw [ho] at OL
            rw [hp] at NW
            have ib0 : (0 : Int) ≤ (i : Int) := by omega
            have ib1 : (i : Int) ≤ (ca : Int) := by omega
            have ib2 : ¬ ca = 0 := by omega
            clear h1 h2 ho hp
            go_wp2
            refine wp_region_held_drew (S := fun _ => True) (by kernel_rfl) ?_ (fun hHeld => ?_)
            · trivial
            refine wpAnyH_take (i := 0) (v := ?_) rfl (by kernel_rfl) (by kernel_rfl) (by kernel_rfl) (fun _ _ _ h => h) (Or.inl ⟨by rfl, ?_⟩) (by assumption) ?_
            rotate_left
            · intro w' hSw
              (try dsimp only at hSw)
              go_simp
              try with_reducible rfl
            simp only [Act.put, List.getElem_toArray, List.getElem_cons_zero, List.setIfInBounds_toArray, List.set_cons_zero, List.set_cons_succ]
            refine wpAnyH_take (i := 1) (v := ?_) rfl (by kernel_rfl) (by kernel_rfl) (by kernel_rfl) (fun _ _ _ h => h) (Or.inl ⟨by rfl, ?_⟩) (by assumption) ?_
            rotate_left
            · intro w' hSw
              (try dsimp only at hSw)
              go_simp
              try with_reducible rfl
            simp only [Act.put, List.getElem_toArray, List.getElem_cons_zero, List.getElem_cons_succ, List.setIfInBounds_toArray, List.set_cons_zero, List.set_cons_succ]
            refine wpAnyH_take (i := 2) (v := ?_) rfl (by kernel_rfl) (by kernel_rfl) (by kernel_rfl) (fun _ _ _ h => h) (Or.inl ⟨by rfl, ?_⟩) (by assumption) ?_
            rotate_left
            · intro w' hSw
              (try dsimp only at hSw)
              go_simp
              try with_reducible rfl
            simp only [Act.put, List.getElem_toArray, List.getElem_cons_zero, List.getElem_cons_succ, List.setIfInBounds_toArray, List.set_cons_zero, List.set_cons_succ]
            refine wpAnyH_take (i := 3) (v := ?_) rfl (by kernel_rfl) (by kernel_rfl) (by kernel_rfl) (fun _ _ _ h => h) (Or.inl ⟨by rfl, ?_⟩) (by assumption) ?_
            rotate_left
            · intro w' hSw
              (try dsimp only at hSw)
              go_simp
              try with_reducible rfl
            simp only [Act.put, List.getElem_toArray, List.getElem_cons_zero, List.getElem_cons_succ, List.setIfInBounds_toArray, List.set_cons_zero, List.set_cons_succ]
            refine wpAnyH_take (i := 6) (v := ?_) rfl (by kernel_rfl) (by kernel_rfl) (by kernel_rfl) (fun _ _ _ h => h) (Or.inl ⟨by rfl, ?_⟩) (by assumption) ?_
            rotate_left
            · intro w' hSw
              (try dsimp only at hSw)
              go_simp
              try with_reducible rfl
            simp only [Act.put, List.getElem_toArray, List.getElem_cons_zero, List.getElem_cons_succ, List.setIfInBounds_toArray, List.set_cons_zero, List.set_cons_succ]
            refine wpAnyH_take (i := 7) (v := ?_) rfl (by kernel_rfl) (by kernel_rfl) (by kernel_rfl) (fun _ _ _ h => h) (Or.inl ⟨by rfl, ?_⟩) (by assumption) ?_
            rotate_left
            · intro w' hSw
              (try dsimp only at hSw)
              go_simp
              try with_reducible rfl
            simp only [Act.put, List.getElem_toArray, List.getElem_cons_zero, List.getElem_cons_succ, List.setIfInBounds_toArray, List.set_cons_zero, List.set_cons_succ]
            refine wpAnyH_take (i := 8) (v := ?_) rfl (by kernel_rfl) (by kernel_rfl) (by kernel_rfl) (fun _ _ _ h => h) (Or.inl ⟨by rfl, ?_⟩) (by assumption) ?_
            rotate_left
            · intro w' hSw
              (try dsimp only at hSw)
              go_simp
              try with_reducible rfl
            simp only [Act.put, List.getElem_toArray, List.getElem_cons_zero, List.getElem_cons_succ, List.setIfInBounds_toArray, List.set_cons_zero, List.set_cons_succ]
            refine wpAnyH_ready (rs := [4]) (by kernel_rfl) (by simp) ?_
            refine AllReadyH.cons rfl (fun K hK => ?_) AllReadyH.nil
            go_simp
            go_at_call 22; refine OL.mono ?_; rintro e w2 ⟨a2, c2, rfl, hb2⟩
            go_wp2_with fail
            refine hK.out _ _ ?_ (fun hHeld => ?_)
            · trivial
            clear hK K
            refine wpAnyH_take (i := 5) (v := ?_) rfl (by kernel_rfl) (by kernel_rfl) (by kernel_rfl) (fun _ _ _ h => h) (Or.inl ⟨by rfl, ?_⟩) (by assumption) ?_
            rotate_left
            · intro w' hSw
              (try dsimp only at hSw)
              go_simp
              try with_reducible rfl
            simp only [Act.put, List.getElem_toArray, List.getElem_cons_zero, List.getElem_cons_succ, List.setIfInBounds_toArray, List.set_cons_zero, List.set_cons_succ]
            refine wpAnyH_ready (rs := [9]) (by kernel_rfl) (by simp) ?_
            refine AllReadyH.cons rfl (fun K hK => ?_) AllReadyH.nil
            go_simp
            go_at_call 23; refine (NW w2 hb2).mono ?_; rintro e w3 ⟨a3, c3, rfl, hb3⟩
            go_wp2_with fail
            refine hK.out _ _ ?_ (fun hHeld => ?_)
            · trivial
            clear hK K
            refine wpAnyH_take (i := 10) (v := ?_) rfl (by kernel_rfl) (by kernel_rfl) (by kernel_rfl) (fun _ _ _ h => h) (Or.inl ⟨by rfl, ?_⟩) (by assumption) ?_
            rotate_left
            · intro w' hSw
              (try dsimp only at hSw)
              go_simp
              try with_reducible rfl
            simp only [Act.put, List.getElem_toArray, List.getElem_cons_zero, List.getElem_cons_succ, List.setIfInBounds_toArray, List.set_cons_zero, List.set_cons_succ]
            refine wpAnyH_take (i := 11) (v := ?_) rfl (by kernel_rfl) (by kernel_rfl) (by kernel_rfl) (fun _ _ _ h => h) (Or.inl ⟨by rfl, ?_⟩) (by assumption) ?_
            rotate_left
            · intro w' hSw
              (try dsimp only at hSw)
              go_simp
              try with_reducible rfl
            simp only [Act.put, List.getElem_toArray, List.getElem_cons_zero, List.getElem_cons_succ, List.setIfInBounds_toArray, List.set_cons_zero, List.set_cons_succ]
            have hbw3 : Below wa.heap.size wa w3 := ((show Below wa.heap.size wa wa.drew from ⟨rfl, rfl, rfl, Nat.le_refl _, fun _ _ => rfl⟩).trans hb2).trans (hb3.mono hb2.size)
            have hb4 := (hbl.trans (hbw3.mono (by have := hbl.size; have := HB.out; omega))).alloc (by have := hbl.size; have := hbw3.size; have := HB.out; omega) (.cells #[.int .i64 o, .int .i64 p, .slice none 0 0] 57)
            obtain ⟨xs, hown, hat⟩ := (H2.out.below hbw3).below (below_alloc w3 (.cells #[.int .i64 o, .int .i64 p, .slice none 0 0] 57))
            have HAT := hat
            have HB4 : Hid (Below B w (w3.alloc (.cells #[.int .i64 o, .int .i64 p, .slice none 0 0] 57))) := hb4
            have hbw4 : Below wa.heap.size wa (w3.alloc (.cells #[.int .i64 o, .int .i64 p, .slice none 0 0] 57)) := hbw3.trans ((below_alloc w3 _).mono hbw3.size)
            have HBW4 : Hid (Below wa.heap.size wa (w3.alloc (.cells #[.int .i64 o, .int .i64 p, .slice none 0 0] 57))) := hbw4
            have hBw3 : B ≤ w3.heap.size := by have := hbl.size; have := hbw3.size; have := HB.out; omega
            clear hat hb4 hbw4
            refine wpAnyH_ready (rs := [12]) (by kernel_rfl) (by simp) ?_
            refine AllReadyH.cons rfl (fun K hK => ?_) AllReadyH.nil
            go_simp
            refine hK.out _ _ ?_ (fun hHeld => ?_)
            · trivial
            clear hK K
            refine wpAnyH_ready (rs := [13]) (by kernel_rfl) (by simp) ?_
            refine AllReadyH.cons rfl (fun K hK => ?_) AllReadyH.nil
            refine step_append_lies _ (by rfl) _ _ 38 (by rfl) B 57 i0 (.agg #[.int .i64 0, .int .i64 0, .slice none 0 0]) 3 40 Tryz.underlying38 hi0 hz0 hz1 hz2 rfl (by decide) _ _ _ (by rfl) hown ⟨w3.heap.size, 0, none⟩ 1 1 [.int .i64 o, .int .i64 p, .slice none 0 0] (by rfl) rfl (cell_three_new _ _ _ _ _) (fun x hx => by simp at hx; rcases hx with rfl | rfl | rfl <;> rfl) (by decide) (by have := HCL.out; unfold maxLen; omega) (by have := HCL.out; omega) (by simp; omega) (w3.heap.size + 1) (by simp) ?_; intro g c5 W5 hown5 hgrow5 hat5 hlt5
            refine hK.out _ _ ?_ (fun hHeld => ?_)
            · trivial
            clear hK K
            simp only [Act.put, List.getElem_toArray, List.getElem_cons_zero, List.getElem_cons_succ, List.setIfInBounds_toArray, List.set_cons_zero, List.set_cons_succ]
            refine wpAnyH_take (i := 14) (v := ?_) rfl (by kernel_rfl) (by kernel_rfl) (by kernel_rfl) (fun _ _ _ h => h) (Or.inl ⟨by rfl, ?_⟩) (by assumption) ?_
            rotate_left
            · intro w' hSw
              (try dsimp only at hSw)
              go_simp
              try with_reducible rfl
            simp only [Act.put, List.getElem_toArray, List.getElem_cons_zero, List.getElem_cons_succ, List.setIfInBounds_toArray, List.set_cons_zero, List.set_cons_succ]
            refine wpAnyH_done (by kernel_rfl) ?_ _
            have hco := COwn.begin (o := o) (p := p) hown HAT hown5 hgrow5 (by simpa using hat5) hlt5
            have hb5 : Below B w W5 := HB4.out.grown hgrow5 (by simp; omega) (fun j hj => (hown.lt j hj).1)
            obtain ⟨cur', hcur⟩ : ∃ cur' : List (Int × ByteArray), cur' = [] := ⟨_, rfl⟩
            have HCUR : Hid ((ms.take (i + 1)).drop (i + 1 - rl ms n (i + 1)) = cur' ++ [(c, t)]) := by
              show (ms.take (i + 1)).drop (i + 1 - rl ms n (i + 1)) = cur' ++ [(c, t)]
              rw [hcur, rl_in HNR.out, H1.out, tk_snoc ms i (by rw [HQ.out]; exact hlt), HCT.out, Nat.zero_add, Nat.add_sub_cancel, List.drop_left' (by rw [List.length_take, HQ.out]; omega)]; rfl
            have HOX : Hid (ob (ms.take (i + 1 - rl ms n (i + 1))) = o) := by
              show ob (ms.take (i + 1 - rl ms n (i + 1))) = o
              rw [rl_in HNR.out, H1.out, Nat.zero_add, Nat.add_sub_cancel]; exact HO.out
            have HPX : Hid (nb (ms.take (i + 1 - rl ms n (i + 1))) = p) := by
              show nb (ms.take (i + 1 - rl ms n (i + 1))) = p
              rw [rl_in HNR.out, H1.out, Nat.zero_add, Nat.add_sub_cancel]; exact HP.out
            replace hco : COwn W5 B (.slice (some ⟨g, 0, none⟩) ((cl ms n i).length + 1) c5) (cl ms n i) o p cur' := by rw [hcur]; exact hco
            clear hcur hown HAT hown5 hgrow5 hat5 hHeld H2 NW OL
          case' inr =>
            obtain rfl : wb = true := by rw [← HWB.out]; simp [h1]
            obtain ⟨o, ho⟩ : ∃ o, ob (ms.take (i - rl ms n i)) = o := ⟨_, rfl⟩
            obtain ⟨p, hp⟩ : ∃ p, nb (ms.take (i - rl ms n i)) = p := ⟨_, rfl⟩
            obtain ⟨cur', hcur⟩ : ∃ cur', (ms.take i).drop (i - rl ms n i) = cur' := ⟨_, rfl⟩
            rw [ho, hp, hcur] at h2
            have hrn := (rl_run (ms := ms) (n := n) i).1
            have HCUR : Hid ((ms.take (i + 1)).drop (i + 1 - rl ms n (i + 1)) = cur' ++ [(c, t)]) := by
              show (ms.take (i + 1)).drop (i + 1 - rl ms n (i + 1)) = cur' ++ [(c, t)]
              rw [rl_in HNR.out, tk_snoc ms i (by rw [HQ.out]; exact hlt), HCT.out, Nat.add_sub_add_right, List.drop_append_of_le_length (by rw [List.length_take, HQ.out]; omega), hcur]
            have HOX : Hid (ob (ms.take (i + 1 - rl ms n (i + 1))) = o) := by
              show ob (ms.take (i + 1 - rl ms n (i + 1))) = o
              rw [rl_in HNR.out, Nat.add_sub_add_right]; exact ho
            have HPX : Hid (nb (ms.take (i + 1 - rl ms n (i + 1))) = p) := by
              show nb (ms.take (i + 1 - rl ms n (i + 1))) = p
              rw [rl_in HNR.out, Nat.add_sub_add_right]; exact hp
            have hco := h2
            obtain ⟨_, _, g, c5, _, rfl, _⟩ := h2
            obtain ⟨W5, rfl⟩ : ∃ W5, W5 = wa := ⟨_, rfl⟩
            have hb5 := hbl
            clear h1 ho hp hcur hrn
          all_goals
            have HRX : Hid (rl ms n (i + 1) ≠ 0) := by show rl ms n (i + 1) ≠ 0; rw [rl_in HNR.out]; omega
            have HCX : Hid (cl ms n (i + 1) = cl ms n i) := cl_in HNR.out
            have hb5' : Below w.heap.size w W5 := by rw [HB.out]; exact hb5
            have ha := HA.out
            obtain ⟨b', off', ea, hx1, hx2⟩ := ha.at (i := i) (by rw [HQ.out]; exact hlt)
            simp only [Option.some.injEq, Addr.mk.injEq] at ea
            obtain ⟨rfl, rfl, _⟩ := ea
            rw [HCT.out] at hx1 hx2
            replace hx1 := cell_later hb5' hx1
            replace hx2 := cell_later hb5' hx2
            have HLEN : Hid (cur'.length ≤ 200) := by
              have e := congrArg List.length HCUR.out
              rw [List.length_append, List.length_drop, List.length_take, HQ.out] at e
              simp at e
              show cur'.length ≤ 200
              omega
            obtain ⟨xs, vl, g', c', B1, hv, w1, w2', w3', w4, w5, w6⟩ := hco
            simp only [Value.slice.injEq, Option.some.injEq, Addr.mk.injEq] at hv
            obtain ⟨⟨rfl, _⟩, _, rfl⟩ := hv
            obtain ⟨al, nl, el, rfl⟩ := own_slice w4
            have V1 : Hid (W5.ownsRow B 57 3 (.slice (some ⟨g, 0, none⟩) ((cl ms n i).length + 1) c5) ((cl ms n i).length + 1) (xs ++ [.int .i64 o, .int .i64 p, .slice al nl el])) := w1
            have V4 : Hid (W5.ownsRow B1 97 2 (.slice al nl el) cur'.length (mcells cur')) := w4
            have V6 := w6
            have q0 := w1.cellAt ((cl ms n i).length * 3) (by omega)
            have q1 := w1.cellAt ((cl ms n i).length * 3 + 1) (by omega)
            have q2 := w1.cellAt ((cl ms n i).length * 3 + 2) (by omega)
            rw [List.getElem?_append_right (by omega), w5] at q0 q1 q2
            simp at q0 q1 q2
            clear w1 w4 w6 ha
            obtain ⟨m, hm'⟩ : ∃ m, (cl ms n i).length = m := ⟨_, rfl⟩
            rw [hm'] at q0 q1 q2
            have hm200 : m ≤ 200 := by rw [← hm']; exact HCL.out
            have HM' : Hid ((cl ms n i).length = m) := hm'
            rw [hm'] at w5
            have hgW : g < W5.heap.size := by omega
            have x0 := cell_later (below_alloc W5 (.cells #[.int .i64 o, .int .i64 p, .slice al nl el] 57)) hx1
            have x1 := cell_later (below_alloc W5 (.cells #[.int .i64 o, .int .i64 p, .slice al nl el] 57)) hx2
            obtain ⟨d0, d1, d2⟩ := cells_later (Below.refl (W5.alloc (.cells #[.int .i64 o, .int .i64 p, .slice al nl el] 57)).heap.size (W5.alloc (.cells #[.int .i64 o, .int .i64 p, .slice al nl el] 57)))
            have hb6 := below_alloc W5 (.cells #[.int .i64 o, .int .i64 p, .slice al nl el] 57)
            have hx6 := heap_alloc_new W5 (.cells #[.int .i64 o, .int .i64 p, .slice al nl el] 57)
            have HS6 : Hid ((W5.alloc (.cells #[.int .i64 o, .int .i64 p, .slice al nl el] 57)).heap.size = W5.heap.size + 1) := by show (W5.alloc (.cells #[.int .i64 o, .int .i64 p, .slice al nl el] 57)).heap.size = W5.heap.size + 1; simp
            have hbB : b < B := by
              obtain ⟨_, _, e, h, _⟩ := (HA.out).at (i := i) (by rw [HQ.out]; exact hlt)
              simp only [Option.some.injEq, Addr.mk.injEq] at e
              obtain ⟨rfl, rfl, _⟩ := e
              have := World.block_lt_of_cell? w _ h
              rw [HB.out] at this; exact this
            go_wp2
            obtain ⟨X, hX⟩ : ∃ X, W5.heap.size = X := ⟨_, rfl⟩
            have HX : Hid (W5.heap.size = X) := hX
            generalize (W5.alloc (.cells #[.int .i64 o, .int .i64 p, .slice al nl el] 57)) = W6 at x0 x1 d0 d1 d2 hb6 HS6 hx6 ⊢
            rw [hX] at d0 d1 d2 hx6 ⊢
            have XX : Hid (∀ w2, Below W6.heap.size W6 w2 → w2.cell? ⟨X, 2, none⟩ = some (.slice al nl el) ∧ w2.cell? ⟨b, off + i * 2, none⟩ = some (.int .u8 c) ∧ w2.cell? ⟨b, off + i * 2 + 1, none⟩ = some (.string t)) := fun w2 h => ⟨cell_later h d2, cell_later h x0, cell_later h x1⟩
            have ib3 : (i : Int) < (q : Int) := by omega
            have ib4 : (0 : Int) ≤ (i : Int) := by omega
            have hbd : Below W6.heap.size W6 W6.drew := ⟨rfl, rfl, rfl, Nat.le_refl _, fun _ _ => rfl⟩
            have hb7 : Below W6.heap.size W6 (W6.alloc (.cells #[.int .u8 c, .string t] 97)).drew := (below_alloc W6 _).trans ⟨rfl, rfl, rfl, Nat.le_refl _, fun _ _ => rfl⟩
            have hown7 : (W6.alloc (.cells #[.int .u8 c, .string t] 97)).drew.ownsRow B1 97 2 (.slice al nl el) cur'.length (mcells cur') := own_later (own_later V4.out hb6) hb7
            have hblk7 : (W6.alloc (.cells #[.int .u8 c, .string t] 97)).drew.heap[X]? = some (.cells #[.int .i64 o, .int .i64 p, .slice al nl el] 57 (0, 0)) := blk_below hb7 (by rw [HS6.out, HX.out]; omega) hx6
            have hs7 : (W6.alloc (.cells #[.int .u8 c, .string t] 97)).drew.heap.size = W6.heap.size + 1 := by simp
            have HB7 : Hid (Below W5.heap.size W5 (W6.alloc (.cells #[.int .u8 c, .string t] 97)).drew) := hb6.trans (hb7.mono hb6.size)
            have HOWN7 : Hid ((W6.alloc (.cells #[.int .u8 c, .string t] 97)).drew.ownsRow B1 97 2 (.slice al nl el) cur'.length (mcells cur')) := hown7
            have HBLK7 : Hid ((W6.alloc (.cells #[.int .u8 c, .string t] 97)).drew.heap[X]? = some (.cells #[.int .i64 o, .int .i64 p, .slice al nl el] 57 (0, 0))) := hblk7
            have HS7 : Hid ((W6.alloc (.cells #[.int .u8 c, .string t] 97)).drew.heap.size = W6.heap.size + 1) := hs7
            have HNEWS : Hid (∀ j u, ([.int .u8 c, .string t] : List Value)[j]? = some u → (W6.alloc (.cells #[.int .u8 c, .string t] 97)).drew.cell? ((⟨W6.heap.size, 0, none⟩ : Addr).add j) = some u) := cell_two_new W6 (.int .u8 c) (.string t) 97
            have HVB : Hid (∀ y, (Value.slice al nl el).ownBlock = some y → B1 ≤ y ∧ y < X) := fun y hy => by have := V4.out.lt y hy; rw [HX.out] at this; exact this
            have HBG : B ≤ g := (V1.out.lt g rfl).1
            have BB : Hid (Below W6.heap.size W6 W6.drew) := hbd
            have B7 : Hid (Below W6.heap.size W6 (W6.alloc (.cells #[.int .u8 c, .string t] 97)).drew) := hb7
            have hB1 : B1 ≤ X := by rw [← hX]; exact w3'
            have HXW : Hid (X < (W6.alloc (.cells #[.int .u8 c, .string t] 97)).drew.heap.size) := by show X < (W6.alloc (.cells #[.int .u8 c, .string t] 97)).drew.heap.size; rw [HS7.out, HS6.out, HX.out]; omega
            have KK : Hid (∀ w8, (W6.alloc (.cells #[.int .u8 c, .string t] 97)).drew.grownBy w8 (Value.slice al nl el).ownBlock → w8.heap[X]? = some (.cells #[.int .i64 o, .int .i64 p, .slice al nl el] 57 (0, 0)) ∧ w8.cell? ⟨X, 2, none⟩ = some (.slice al nl el) ∧ w8.cell? ⟨b, off + i * 2, none⟩ = some (.int .u8 c) ∧ w8.cell? ⟨b, off + i * 2 + 1, none⟩ = some (.string t)) := fun w8 hg => by
              have k1 : w8.heap[X]? = some (.cells #[.int .i64 o, .int .i64 p, .slice al nl el] 57 (0, 0)) := (hg.block X HXW.out (fun e => by have := (HVB.out X e.symm).2; omega)).trans HBLK7.out
              obtain ⟨z1, z2, z3⟩ := XX.out _ B7.out
              exact ⟨k1, Lib.cell_of_heap k1 2, hg.cell z2 (fun e => by have := (HVB.out b e.symm).1; omega), hg.cell z3 (fun e => by have := (HVB.out b e.symm).1; omega)⟩
            have D2 : Hid (W6.cell? ⟨X, 2, none⟩ = some (.slice al nl el)) := d2
            have D2' : Hid ((W6.alloc (.cells #[.int .u8 c, .string t] 97)).cell? ⟨X, 2, none⟩ = some (.slice al nl el)) := Lib.cell_of_heap hblk7 2
            clear x0 x1 d0 d1 d2 hx1 hx2 hb6 hx6 hbd hb7 hown7 hblk7 hs7
            refine wp_region_held_drew (S := fun w' => w'.cell? ⟨b, off + i * 2, none⟩ = some (.int .u8 c) ∧ w'.cell? ⟨b, off + i * 2 + 1, none⟩ = some (.string t)) (by kernel_rfl) ?_ (fun hHeld => ?_)
            · exact (XX.out _ BB.out).2
            refine wpAnyH_take (i := 0) (v := ?_) rfl (by kernel_rfl) (by kernel_rfl) (by kernel_rfl) (fun _ _ _ h => h) (Or.inl ⟨by rfl, ?_⟩) (by assumption) ?_
            rotate_left
            · intro w' hSw
              (try dsimp only at hSw)
              go_simp
              try with_reducible rfl
            simp only [Act.put, List.getElem_toArray, List.getElem_cons_zero, List.setIfInBounds_toArray, List.set_cons_zero, List.set_cons_succ]
            refine wpAnyH_take (i := 2) (v := ?_) rfl (by kernel_rfl) (by kernel_rfl) (by kernel_rfl) (fun _ _ _ h => h) (Or.inl ⟨by rfl, ?_⟩) (by assumption) ?_
            rotate_left
            · intro w' hSw
              (try dsimp only at hSw)
              go_simp
              try with_reducible rfl
            simp only [Act.put, List.getElem_toArray, List.getElem_cons_zero, List.getElem_cons_succ, List.setIfInBounds_toArray, List.set_cons_zero, List.set_cons_succ]
            refine wpAnyH_take (i := 3) (v := ?_) rfl (by kernel_rfl) (by kernel_rfl) (by kernel_rfl) (fun _ _ _ h => h) (Or.inl ⟨by rfl, ?_⟩) (by assumption) ?_
            rotate_left
            · intro w' hSw
              (try dsimp only at hSw)
              go_simp
              try with_reducible rfl
            simp only [Act.put, List.getElem_toArray, List.getElem_cons_zero, List.getElem_cons_succ, List.setIfInBounds_toArray, List.set_cons_zero, List.set_cons_succ]
            refine wpAnyH_take (i := 4) (v := ?_) rfl (by kernel_rfl) (by kernel_rfl) (by kernel_rfl) (fun _ _ _ h => h) (Or.inl ⟨by rfl, ?_⟩) (by assumption) ?_
            rotate_left
            · intro w' hSw
              (try dsimp only at hSw)
              go_simp
              try with_reducible rfl
            simp only [Act.put, List.getElem_toArray, List.getElem_cons_zero, List.getElem_cons_succ, List.setIfInBounds_toArray, List.set_cons_zero, List.set_cons_succ]
            refine wpAnyH_take (i := 5) (v := ?_) rfl (by kernel_rfl) (by kernel_rfl) (by kernel_rfl) (fun _ _ _ h => h) (Or.inl ⟨by rfl, ?_⟩) (by assumption) ?_
            rotate_left
            · intro w' hSw
              (try dsimp only at hSw)
              go_simp
              try with_reducible rfl
            simp only [Act.put, List.getElem_toArray, List.getElem_cons_zero, List.getElem_cons_succ, List.setIfInBounds_toArray, List.set_cons_zero, List.set_cons_succ]
            refine wpAnyH_ready (rs := [1, 6]) (by kernel_rfl) (by simp) ?_
            refine AllReadyH.cons rfl (fun K hK => ?_) (AllReadyH.cons rfl (fun K hK => ?_) AllReadyH.nil)
            case' refine_1 =>
              have d2 := D2.out
              go_simp
              refine hK.out _ _ ?_ (fun hHeld => ?_)
              · exact (XX.out _ BB.out).2
              clear hK K
              refine wpAnyH_ready (rs := [6]) (by kernel_rfl) (by simp) ?_
              refine AllReadyH.cons rfl (fun K hK => ?_) AllReadyH.nil
              go_simp
              refine hK.out _ _ ?_ (fun hHeld => ?_)
              · exact (XX.out _ B7.out).2
              clear hK K
            case' refine_2 =>
              go_simp
              refine hK.out _ _ ?_ (fun hHeld => ?_)
              · exact (XX.out _ B7.out).2
              clear hK K
              have d2 := D2'.out
              refine wpAnyH_ready (rs := [1]) (by kernel_rfl) (by simp) ?_
              refine AllReadyH.cons rfl (fun K hK => ?_) AllReadyH.nil
              go_simp
              refine hK.out _ _ ?_ (fun hHeld => ?_)
              · exact (XX.out _ B7.out).2
              clear hK K
            all_goals
              refine wpAnyH_ready (rs := [7]) (by kernel_rfl) (by simp) ?_
              refine AllReadyH.cons rfl (fun K hK => ?_) AllReadyH.nil
              refine step_append_lies _ (by rfl) _ _ 55 (by rfl) B1 97 j0 (.agg #[.int .u8 0, .string ByteArray.empty]) 2 24 Tryz.underlying55 hj0 hy0 hy1 hy2 rfl (by decide) _ _ _ (by rfl) HOWN7.out ⟨W6.heap.size, 0, none⟩ 1 1 [.int .u8 c, .string t] (by rfl) rfl HNEWS.out (fun x hx => by simp at hx; rcases hx with rfl | rfl <;> rfl) (by decide) (by have := HLEN.out; unfold maxLen; omega) (by have := HLEN.out; omega) (by rw [HS7.out, HS6.out, HX.out]; omega) (W6.heap.size + 1) HS7.out ?_; intro g8 c8 w8 hown8 hgrow8 hat8 hlt8
              refine hK.out _ _ ?_ (fun hHeld => ?_)
              · exact (KK.out w8 hgrow8).2.2
              clear hK K
              simp only [Act.put, List.getElem_toArray, List.getElem_cons_zero, List.getElem_cons_succ, List.setIfInBounds_toArray, List.set_cons_zero, List.set_cons_succ]
              refine wpAnyH_take (i := 8) (v := ?_) rfl (by kernel_rfl) (by kernel_rfl) (by kernel_rfl) (fun _ _ _ h => h) (Or.inl ⟨by rfl, ?_⟩) (by assumption) ?_
              rotate_left
              · intro w' hSw
                (try dsimp only at hSw)
                go_simp
                try with_reducible rfl
              simp only [Act.put, List.getElem_toArray, List.getElem_cons_zero, List.getElem_cons_succ, List.setIfInBounds_toArray, List.set_cons_zero, List.set_cons_succ]
              obtain ⟨hblk8, k2, _, _⟩ := KK.out w8 hgrow8
              have f8 := Lib.frozen_of_heap hblk8 2
              have hbX : b ≠ X := by omega
              have hset := blk_set (i := 2) hblk8 (.slice (some ⟨g8, 0, none⟩) (cur'.length + 1) c8)
              have HSET : Hid ((w8.setCell ⟨X, 2, none⟩ (.slice (some ⟨g8, 0, none⟩) (cur'.length + 1) c8)).heap[X]? = some (.cells #[.int .i64 o, .int .i64 p, .slice (some ⟨g8, 0, none⟩) (cur'.length + 1) c8] 57 (0, 0))) := by
                show (w8.setCell ⟨X, 2, none⟩ (.slice (some ⟨g8, 0, none⟩) (cur'.length + 1) c8)).heap[X]? = some (.cells #[.int .i64 o, .int .i64 p, .slice (some ⟨g8, 0, none⟩) (cur'.length + 1) c8] 57 (0, 0))
                simpa using hset
              have KB : Hid ((w8.setCell ⟨X, 2, none⟩ (.slice (some ⟨g8, 0, none⟩) (cur'.length + 1) c8)).cell? ⟨b, off + i * 2, none⟩ = some (.int .u8 c) ∧ (w8.setCell ⟨X, 2, none⟩ (.slice (some ⟨g8, 0, none⟩) (cur'.length + 1) c8)).cell? ⟨b, off + i * 2 + 1, none⟩ = some (.string t)) := by
                obtain ⟨z2, z3⟩ := (KK.out w8 hgrow8).2.2
                refine ⟨?_, ?_⟩
                · rw [World.cell?_setCell_other]
                  · exact z2
                  · intro e; have := congrArg Addr.block e; simp only at this; omega
                · rw [World.cell?_setCell_other]
                  · exact z3
                  · intro e; have := congrArg Addr.block e; simp only at this; omega
              clear hset
              refine wpAnyH_ready (rs := [9]) (by kernel_rfl) (by simp) ?_
              refine AllReadyH.cons rfl (fun K hK => ?_) AllReadyH.nil
              go_simp
              refine hK.out _ _ ?_ (fun hHeld => ?_)
              · exact KB.out
              clear hK K
              refine wpAnyH_done (by kernel_rfl) ?_ _
              have hrow8 : w8.ownsRow B 57 3 (.slice (some ⟨g, 0, none⟩) ((cl ms n i).length + 1) c5) ((cl ms n i).length + 1) (xs ++ [.int .i64 o, .int .i64 p, .slice al nl el]) := (own_later V1.out HB7.out).kept hgrow8 (.inr (fun e => by have := (HVB.out g (by rw [← e]; rfl)).1; omega))
              have hrow9 := own_ne hrow8 (G := X) (i := 2) (by simp [Value.ownBlock]; omega) (.slice (some ⟨g8, 0, none⟩) (cur'.length + 1) c8)
              have HPUSH : Hid (COwn ((((w8.setCell ⟨X, 2, none⟩ (.slice (some ⟨g8, 0, none⟩) (cur'.length + 1) c8)).setCell ⟨g, (cl ms n i).length * 3, none⟩ (.int .i64 o)).setCell ⟨g, (cl ms n i).length * 3 + 1, none⟩ (.int .i64 p)).setCell ⟨g, (cl ms n i).length * 3 + 2, none⟩ (.slice (some ⟨g8, 0, none⟩) (cur'.length + 1) c8)) B (.slice (some ⟨g, 0, none⟩) ((cl ms n i).length + 1) c5) (cl ms n i) o p (cur' ++ [(c, t)])) := COwn.push V1.out w2' w3' V4.out (by rw [HM'.out]; exact w5) V6 HB7.out (by rw [HX.out]; exact Nat.le_refl _) HXW.out hgrow8 hown8 (by rcases hat8 with h | h; exact .inl (by rw [h]; rfl); exact .inr (by rw [h, HS7.out]; rfl))
              have q0' := hrow9.cellAt ((cl ms n i).length * 3) (by omega)
              have q1' := hrow9.cellAt ((cl ms n i).length * 3 + 1) (by omega)
              have q2' := hrow9.cellAt ((cl ms n i).length * 3 + 2) (by omega)
              have f0' := hrow9.frozenAt ((cl ms n i).length * 3)
              have f1' := hrow9.frozenAt ((cl ms n i).length * 3 + 1)
              have f2' := hrow9.frozenAt ((cl ms n i).length * 3 + 2)
              rw [HM'.out] at q0' q1' q2' f0' f1' f2' HPUSH
              rw [List.getElem?_append_right (by omega), w5] at q0' q1' q2'
              simp only [Nat.sub_self, Nat.add_sub_cancel_left, List.getElem?_cons_zero, List.getElem?_cons_succ] at q0' q1' q2'
              have z0 := Lib.cell_of_heap HSET.out 0
              have z1 := Lib.cell_of_heap HSET.out 1
              have z2 := Lib.cell_of_heap HSET.out 2
              simp only [List.getElem?_toArray, List.getElem?_cons_zero, List.getElem?_cons_succ] at z0 z1 z2
              have hb9 : Below B w (w8.setCell ⟨X, 2, none⟩ (.slice (some ⟨g8, 0, none⟩) (cur'.length + 1) c8)) := ((hb5.trans (HB7.out.mono (by have := hb5.size; have := HB.out; omega))).grown hgrow8 (by have := HXW.out; have := hb5.size; have := HB.out; omega) (fun j hj => by have := (HVB.out j hj).1; omega)).setCell (show B ≤ X by omega) _
              generalize w8.setCell ⟨X, 2, none⟩ (.slice (some ⟨g8, 0, none⟩) (cur'.length + 1) c8) = W9 at q0' q1' q2' f0' f1' f2' HPUSH z0 z1 z2 hb9 ⊢
              clear HSET KB hrow8 hrow9 hgrow8 hown8 hblk8 k2 f8 hHeld D2 D2' KK XX V6 q0 q1 q2
              go_wp2
              go_roundw
              case rel =>
                refine ⟨i + 1, by omega, by go_num, by rw [decide_eq_true HRX.out], ((hb9.setCell (show B ≤ g from HBG) _).setCell (show B ≤ g from HBG) _).setCell (show B ≤ g from HBG) _, .inr ⟨HRX.out, ?_⟩⟩
                rw [HCX.out, HOX.out, HPX.out, HCUR.out, ← HM'.out]
                rw [← HM'.out] at HPUSH
                exact HPUSH.out
              case measure => simp [intOf]; omega
    · have HE : Hid (HOwn wa B u5 (cut ms n)) := by
        show HOwn wa B u5 (cut ms n)
        have hiq : i = q := by omega
        unfold cut
        rw [HQ.out]
        rcases HOR.out with ⟨h1, h2⟩ | ⟨h1, h2⟩
        · rw [← hiq, cl_out (by rw [hiq, ← HQ.out]; exact near_end ms n) h1]; exact h2
        · rw [← hiq, cl_end (by rw [hiq, ← HQ.out]; exact near_end ms n) h1]
          refine h2.shut ?_
          have := (rl_run (ms := ms) (n := n) i).1
          rw [List.length_drop, List.length_take, HQ.out]
          omega
      go_wp2
      go_ret
      exact ⟨_, rfl, hbl, HE.out⟩

end Go.Proofs.YtnkdmgekpajfhadGreatDoor
