/-
  Walk of the document's own answer for hunks turned.
-/
import Derived.Test.YtmidbhikhbbpbacGreatDoorHown
import Derived.Deep.RegionWith
import Derived.Deep.DrawnRows
import Derived.Deep.AppendLies

namespace Go.Proofs.YtmidbhikhbbpbacGreatDoor
open Go.RowKit Dist

attribute [local go_sem] Go.wp_at_zero Go.wp_at_succ

theorem own_other {w : World} {B : Nat} {e : TypeId} {k : Nat} {v : Value} {n : Nat} {xs : List Value} (h : w.ownsRow B e k v n xs) {G i : Nat} (hG : G < B) (x : Value) : (w.setCell ⟨G, i, none⟩ x).ownsRow B e k v n xs := by
  refine ⟨h.1, ?_⟩
  rcases h.2 with h0 | ⟨g, cap, cur, hv, hB, hh, hr⟩
  · exact .inl h0
  · refine .inr ⟨g, cap, cur, hv, hB, ?_, hr⟩
    have e : (w.setCell ⟨G, i, none⟩ x).heap[g]? = w.heap[g]? := by
      simp only [World.setCell, Array.getElem?_modify]
      rw [if_neg (by omega)]
    rw [e]; exact hh

theorem swm_snoc (ms : List (Int × ByteArray)) (t : Nat) (ht : t < ms.length) {c : Int} {x : ByteArray} (h : ms.getD t (0, ByteArray.empty) = (c, x)) : swm (ms.take (t + 1)) = swm (ms.take t) ++ [(sw c, x)] := by
  rw [tk_snoc ms t ht, h]; simp [swm]

theorem mcells_one (c : Int) (x : ByteArray) : mcells [(c, x)] = [.int .u8 c, .string x] := rfl

theorem trn_snoc (l : List (Int × Int × List (Int × ByteArray))) (k : Nat) (hk : k < l.length) {o p : Int} {ms : List (Int × ByteArray)} (h : l.getD k (0, 0, []) = (o, p, ms)) : trn (l.take (k + 1)) = trn (l.take k) ++ [(p, o, swm ms)] := by
  rw [tk_snoc3 l k hk, h]; simp [trn, tn]

set_option maxRecDepth 100000 in
set_option maxHeartbeats 4000000 in
theorem refTurn (a : Option Addr) (l : List (Int × Int × List (Int × ByteArray))) (ca : Nat) (w : World) (ha : Hks w a l) (hf0 : (hf l).2 = 0) :
    Calls Tryz.prog 17 #[.slice a l.length ca] w fun e w' => ∃ v, e = .returned v ∧ Below w.heap.size w w' ∧ HOwn w' w.heap.size v (trn l) := by
  obtain ⟨hl, hall⟩ := hf_zero hf0
  have hone : ∀ k, k < l.length → sf (l.getD k (0, 0, [])).2.2 = 0 ∧ 0 < chg (l.getD k (0, 0, [])).2.2 := fun k hk => ⟨(hOne_zero (hAt_zero (hall k hk)).1).1, (hOne_zero (hAt_zero (hall k hk)).1).2.1⟩
  obtain ⟨i0, hi0, hz0, hz1, hz2⟩ := info_parts Tryz.infoHunk
  obtain ⟨j0, hj0, hy0, hy1, hy2⟩ := info_parts Tryz.infoMark
  obtain ⟨n, hn⟩ : ∃ n, l.length = n := ⟨_, rfl⟩
  rw [hn] at hl ⊢
  have HN : Hid (l.length = n) := hn
  have HONE : Hid (∀ k, k < n → sf (l.getD k (0, 0, [])).2.2 = 0 ∧ 0 < chg (l.getD k (0, 0, [])).2.2) := by rw [← hn]; exact hone
  have HA : Hid (Hks w a l) := ha
  clear hn ha hf0 hall hone
  obtain ⟨B, hB⟩ : ∃ B, w.heap.size = B := ⟨_, rfl⟩
  have HB : Hid (w.heap.size = B) := hB
  rw [hB]
  clear hB
  go_enter Tryz.func17, Tryz.ntmps17
  go_wp2
  go_loopw [3, 4] (fun v i w1 => ∃ k : Nat, k ≤ n ∧ i = .int .i64 k ∧ Below B w w1 ∧ HOwn w1 B v (trn (l.take k))) (fun _ i _ => n - (intOf i).toNat)
  case atStart => exact ⟨0, Nat.zero_le _, rfl, Below.refl _ _, HOwn.zero _ _⟩
  case round =>
    obtain ⟨wa, rfl⟩ : ∃ wa, wa = wr := ⟨_, rfl⟩
    obtain ⟨k, hk, rfl, hbl, hown⟩ := hrel
    have HOW : Hid (HOwn wa B u3 (trn (l.take k))) := hown
    clear hown
    by_cases hlt : k < n
    · have ha := HA.out
      have hkl : k < l.length := by rw [HN.out]; exact hlt
      obtain ⟨b, off, am, cm, rfl, hc1, hc2, hc3, hmk⟩ := ha.at (i := k) hkl
      clear ha
      have hb' : Below w.heap.size w wa := by rw [HB.out]; exact hbl
      replace hc1 := cell_later hb' hc1
      replace hc2 := cell_later hb' hc2
      replace hc3 := cell_later hb' hc3
      replace hmk := hmk.below hb'
      obtain ⟨hsf, hch⟩ := HONE.out k hlt
      obtain ⟨o, ho⟩ : ∃ o, (l.getD k (0, 0, [])).1 = o := ⟨_, rfl⟩
      obtain ⟨p, hp⟩ : ∃ p, (l.getD k (0, 0, [])).2.1 = p := ⟨_, rfl⟩
      obtain ⟨ms, hms⟩ : ∃ ms, (l.getD k (0, 0, [])).2.2 = ms := ⟨_, rfl⟩
      have HTS : Hid (trn (l.take (k + 1)) = trn (l.take k) ++ [(p, o, swm ms)]) := trn_snoc l k hkl (getD_eta3 l k ho hp hms)
      rw [ho] at hc1
      rw [hp] at hc2
      rw [hms] at hc3 hmk hsf hch
      have HPOS : Hid (0 < ms.length) := by have := Nat.le_trans hch (show chg ms ≤ ms.length from List.length_filter_le _ _); exact this
      have hq120 := (sf_zero hsf).1
      obtain ⟨q, hq⟩ : ∃ q, ms.length = q := ⟨_, rfl⟩
      have HQ : Hid (ms.length = q) := hq
      rw [hq] at hc3 hq120 HPOS
      have HMK : Hid (Mks wa am ms) := hmk
      have C3 : Hid (wa.cell? ⟨b, off + k * 3 + 2, none⟩ = some (.slice am q cm)) := hc3
      obtain ⟨G, hG⟩ : ∃ G, wa.heap.size = G := ⟨_, rfl⟩
      have HG : Hid (wa.heap.size = G) := hG
      have hBG : B ≤ G := by have := hbl.size; have := HB.out; omega
      clear ho hp hms hb' hsf hkl hq hch hmk
      have x1 := cell_later (below_alloc wa (.cells #[.int .i64 0, .int .i64 0, .slice none 0 0] 42)) hc1
      have x2 := cell_later (below_alloc wa (.cells #[.int .i64 0, .int .i64 0, .slice none 0 0] 42)) hc2
      go_wp2
      go_region
      have hb1 : Below G wa (wa.alloc (.cells #[.int .i64 p, .int .i64 o, .slice none 0 0] 42)).drew := ((Below.refl G wa).alloc (by omega) _).trans ⟨rfl, rfl, rfl, Nat.le_refl _, fun _ _ => rfl⟩
      have hblk : (wa.alloc (.cells #[.int .i64 p, .int .i64 o, .slice none 0 0] 42)).drew.heap[G]? = some (.cells #[.int .i64 p, .int .i64 o, .slice none 0 0] 42 (0, 0)) := by rw [← hG]; exact heap_alloc_new wa _
      generalize (wa.alloc (.cells #[.int .i64 p, .int .i64 o, .slice none 0 0] 42)).drew = W1 at hb1 hblk ⊢
      have HB1 : Hid (Below G wa W1) := hb1
      have HBK : Hid (W1.heap[G]? = some (.cells #[.int .i64 p, .int .i64 o, .slice none 0 0] 42 (0, 0))) := hblk
      clear hb1 hblk x1 x2 hc1 hc2 hc3 hG
      go_wp2
      go_loopw [6] (fun j w1 => ∃ (t : Nat) (v : Value), t ≤ q ∧ j = .int .i64 t ∧ Below G wa w1 ∧ w1.heap[G]? = some (.cells #[.int .i64 p, .int .i64 o, v] 42 (0, 0)) ∧ w1.ownsRow (G + 1) 39 2 v t (mcells (swm (ms.take t)))) (fun j _ => q - (intOf j).toNat)
      case atStart => exact ⟨0, _, Nat.zero_le _, rfl, HB1.out, HBK.out, ⟨rfl, Or.inl ⟨rfl, rfl⟩⟩⟩
      case round =>
        obtain ⟨t, v, htq, rfl, hbt, hbk, hot⟩ := hrel
        have hbw : Below wa.heap.size wa wr := by rw [HG.out]; exact hbt
        have hGl : G < wr.heap.size := by
          by_cases e : G < wr.heap.size
          · exact e
          · rw [Array.getElem?_eq_none (by omega)] at hbk; cases hbk
        have c3 := cell_later hbw C3.out
        have y0 := Lib.cell_of_heap hbk 0
        have y1 := Lib.cell_of_heap hbk 1
        have y2 := Lib.cell_of_heap hbk 2
        simp at y0 y1 y2
        by_cases htl : t < q
        · have hmk := HMK.out
          have htm : t < ms.length := by rw [HQ.out]; exact htl
          obtain ⟨bm, om, rfl, hx1, hx2⟩ := hmk.at (i := t) htm
          clear hmk
          replace hx1 := cell_later hbw hx1
          replace hx2 := cell_later hbw hx2
          obtain ⟨c, hc⟩ : ∃ c, (ms.getD t (0, ByteArray.empty)).1 = c := ⟨_, rfl⟩
          obtain ⟨x, hx⟩ : ∃ x, (ms.getD t (0, ByteArray.empty)).2 = x := ⟨_, rfl⟩
          have HSS : Hid (swm (ms.take (t + 1)) = swm (ms.take t) ++ [(sw c, x)]) := swm_snoc ms t htm (getD_eta ms t hc hx)
          rw [hc] at hx1
          rw [hx] at hx2
          clear hc hx htm
          have HBK2 : Hid (wr.heap[G]? = some (.cells #[.int .i64 p, .int .i64 o, v] 42 (0, 0))) := hbk
          clear hbk
          by_cases h1 : c = 43
          · subst h1
            have E : sw 43 = 45 := rfl
            have hota := (hot.alloc (.cells #[.int .u8 45, .string x] 39)).alloc (.cells #[.int .u8 45, .string x] 39)
            have hbka := blk_below ((below_alloc wr (.cells #[.int .u8 45, .string x] 39)).trans ((below_alloc (wr.alloc (.cells #[.int .u8 45, .string x] 39)) (.cells #[.int .u8 45, .string x] 39)).mono (by simp))) hGl HBK2.out
            have hba : Below G wa ((wr.alloc (.cells #[.int .u8 45, .string x] 39)).alloc (.cells #[.int .u8 45, .string x] 39)) := (hbt.alloc (by omega) _).alloc (by simp; omega) _
            have HBA : Hid (Below G wa ((wr.alloc (.cells #[.int .u8 45, .string x] 39)).alloc (.cells #[.int .u8 45, .string x] 39))) := hba
            have HBKA : Hid (((wr.alloc (.cells #[.int .u8 45, .string x] 39)).alloc (.cells #[.int .u8 45, .string x] 39)).heap[G]? = some (.cells #[.int .i64 p, .int .i64 o, v] 42 (0, 0))) := hbka
            have hnews : ∀ j u, ([.int .u8 45, .string x] : List Value)[j]? = some u → ((wr.alloc (.cells #[.int .u8 45, .string x] 39)).alloc (.cells #[.int .u8 45, .string x] 39)).cell? ((⟨wr.heap.size + 1, 0, none⟩ : Addr).add j) = some u := by
              have h := cell_two_new (wr.alloc (.cells #[.int .u8 45, .string x] 39)) (.int .u8 45) (.string x) 39
              rw [show (wr.alloc (.cells #[.int .u8 45, .string x] 39)).heap.size = wr.heap.size + 1 by simp] at h
              exact h
            have HNEWS := hnews
            have HVB : Hid (∀ y, v.ownBlock = some y → G + 1 ≤ y) := fun y hy => (hot.lt y hy).1
            clear hba hbka hnews hbt
            go_wp2_with (at_builtin; refine wpList_append_lies _ rfl _ _ 40 rfl (G + 1) 39 j0 (.agg #[.int .u8 0, .string ByteArray.empty]) 2 24 Tryz.underlying40 hj0 hy0 hy1 hy2 rfl (by decide) _ _ _ rfl hota ⟨wr.heap.size + 1, 0, none⟩ 1 1 [.int .u8 45, .string x] rfl rfl HNEWS (fun z hz => by simp at hz; rcases hz with rfl | rfl <;> rfl) (by decide) (by unfold maxLen; omega) (by omega) (by simp; omega) (wr.heap.size + 2) (by simp) ?_; intro g' cap' w3 hown' hgrow3 hat3 hlt3; have hbk3 : w3.heap[G]? = some (.cells #[.int .i64 p, .int .i64 o, v] 42 (0, 0)) := (hgrow3.block G (by simp; omega) (fun e => by have := HVB.out _ e.symm; omega)).trans HBKA.out; have k2 := Lib.cell_of_heap hbk3 2; have f2 := Lib.frozen_of_heap hbk3 2; simp at k2)
            have hb3 : Below G wa w3 := HBA.out.grown hgrow3 (by simp; omega) (fun y hy => by have := HVB.out _ hy; omega)
            have hset := blk_set (i := 2) hbk3 (.slice (some ⟨g', 0, none⟩) (t + 1) cap')
            have HSET : Hid ((w3.setCell ⟨G, 2, none⟩ (.slice (some ⟨g', 0, none⟩) (t + 1) cap')).heap[G]? = some (.cells (#[.int .i64 p, .int .i64 o, v].setIfInBounds 2 (.slice (some ⟨g', 0, none⟩) (t + 1) cap')) 42 (0, 0))) := hset
            clear hset hbk3 hota HNEWS HBKA HBA y0 y1 y2 c3 hx1 hx2
            go_roundw
            case rel =>
              refine ⟨t + 1, .slice (some ⟨g', 0, none⟩) (t + 1) cap', by omega, by go_num, hb3.setCell (Nat.le_refl _) _, by simpa using HSET.out, own_other ?_ (by omega) _⟩
              rw [HSS.out, mcells_append, E, mcells_one]
              exact hown'
            case measure => simp [intOf]; omega
          have h1' : (c == 43) = false := by simpa using h1
          by_cases h2 : c = 45
          · subst h2
            have E : sw 45 = 43 := rfl
            have hota := (hot.alloc (.cells #[.int .u8 43, .string x] 39)).alloc (.cells #[.int .u8 43, .string x] 39)
            have hbka := blk_below ((below_alloc wr (.cells #[.int .u8 43, .string x] 39)).trans ((below_alloc (wr.alloc (.cells #[.int .u8 43, .string x] 39)) (.cells #[.int .u8 43, .string x] 39)).mono (by simp))) hGl HBK2.out
            have hba : Below G wa ((wr.alloc (.cells #[.int .u8 43, .string x] 39)).alloc (.cells #[.int .u8 43, .string x] 39)) := (hbt.alloc (by omega) _).alloc (by simp; omega) _
            have HBA : Hid (Below G wa ((wr.alloc (.cells #[.int .u8 43, .string x] 39)).alloc (.cells #[.int .u8 43, .string x] 39))) := hba
            have HBKA : Hid (((wr.alloc (.cells #[.int .u8 43, .string x] 39)).alloc (.cells #[.int .u8 43, .string x] 39)).heap[G]? = some (.cells #[.int .i64 p, .int .i64 o, v] 42 (0, 0))) := hbka
            have hnews : ∀ j u, ([.int .u8 43, .string x] : List Value)[j]? = some u → ((wr.alloc (.cells #[.int .u8 43, .string x] 39)).alloc (.cells #[.int .u8 43, .string x] 39)).cell? ((⟨wr.heap.size + 1, 0, none⟩ : Addr).add j) = some u := by
              have h := cell_two_new (wr.alloc (.cells #[.int .u8 43, .string x] 39)) (.int .u8 43) (.string x) 39
              rw [show (wr.alloc (.cells #[.int .u8 43, .string x] 39)).heap.size = wr.heap.size + 1 by simp] at h
              exact h
            have HNEWS := hnews
            have HVB : Hid (∀ y, v.ownBlock = some y → G + 1 ≤ y) := fun y hy => (hot.lt y hy).1
            clear hba hbka hnews hbt
            go_wp2_with (at_builtin; refine wpList_append_lies _ rfl _ _ 40 rfl (G + 1) 39 j0 (.agg #[.int .u8 0, .string ByteArray.empty]) 2 24 Tryz.underlying40 hj0 hy0 hy1 hy2 rfl (by decide) _ _ _ rfl hota ⟨wr.heap.size + 1, 0, none⟩ 1 1 [.int .u8 43, .string x] rfl rfl HNEWS (fun z hz => by simp at hz; rcases hz with rfl | rfl <;> rfl) (by decide) (by unfold maxLen; omega) (by omega) (by simp; omega) (wr.heap.size + 2) (by simp) ?_; intro g' cap' w3 hown' hgrow3 hat3 hlt3; have hbk3 : w3.heap[G]? = some (.cells #[.int .i64 p, .int .i64 o, v] 42 (0, 0)) := (hgrow3.block G (by simp; omega) (fun e => by have := HVB.out _ e.symm; omega)).trans HBKA.out; have k2 := Lib.cell_of_heap hbk3 2; have f2 := Lib.frozen_of_heap hbk3 2; simp at k2)
            have hb3 : Below G wa w3 := HBA.out.grown hgrow3 (by simp; omega) (fun y hy => by have := HVB.out _ hy; omega)
            have hset := blk_set (i := 2) hbk3 (.slice (some ⟨g', 0, none⟩) (t + 1) cap')
            have HSET : Hid ((w3.setCell ⟨G, 2, none⟩ (.slice (some ⟨g', 0, none⟩) (t + 1) cap')).heap[G]? = some (.cells (#[.int .i64 p, .int .i64 o, v].setIfInBounds 2 (.slice (some ⟨g', 0, none⟩) (t + 1) cap')) 42 (0, 0))) := hset
            clear hset hbk3 hota HNEWS HBKA HBA y0 y1 y2 c3 hx1 hx2
            go_roundw
            case rel =>
              refine ⟨t + 1, .slice (some ⟨g', 0, none⟩) (t + 1) cap', by omega, by go_num, hb3.setCell (Nat.le_refl _) _, by simpa using HSET.out, own_other ?_ (by omega) _⟩
              rw [HSS.out, mcells_append, E, mcells_one]
              exact hown'
            case measure => simp [intOf]; omega
          have h2' : (c == 45) = false := by simpa using h2
          have E : sw c = c := by unfold sw; rw [if_neg h2, if_neg h1]
          have EE : Hid (sw c = c) := E
          clear E h1 h2
          have hota := (hot.alloc (.cells #[.int .u8 c, .string x] 39)).alloc (.cells #[.int .u8 c, .string x] 39)
          have hbka := blk_below ((below_alloc wr (.cells #[.int .u8 c, .string x] 39)).trans ((below_alloc (wr.alloc (.cells #[.int .u8 c, .string x] 39)) (.cells #[.int .u8 c, .string x] 39)).mono (by simp))) hGl HBK2.out
          have hba : Below G wa ((wr.alloc (.cells #[.int .u8 c, .string x] 39)).alloc (.cells #[.int .u8 c, .string x] 39)) := (hbt.alloc (by omega) _).alloc (by simp; omega) _
          have HBA : Hid (Below G wa ((wr.alloc (.cells #[.int .u8 c, .string x] 39)).alloc (.cells #[.int .u8 c, .string x] 39))) := hba
          have HBKA : Hid (((wr.alloc (.cells #[.int .u8 c, .string x] 39)).alloc (.cells #[.int .u8 c, .string x] 39)).heap[G]? = some (.cells #[.int .i64 p, .int .i64 o, v] 42 (0, 0))) := hbka
          have hnews : ∀ j u, ([.int .u8 c, .string x] : List Value)[j]? = some u → ((wr.alloc (.cells #[.int .u8 c, .string x] 39)).alloc (.cells #[.int .u8 c, .string x] 39)).cell? ((⟨wr.heap.size + 1, 0, none⟩ : Addr).add j) = some u := by
            have h := cell_two_new (wr.alloc (.cells #[.int .u8 c, .string x] 39)) (.int .u8 c) (.string x) 39
            rw [show (wr.alloc (.cells #[.int .u8 c, .string x] 39)).heap.size = wr.heap.size + 1 by simp] at h
            exact h
          have HNEWS := hnews
          have HVB : Hid (∀ y, v.ownBlock = some y → G + 1 ≤ y) := fun y hy => (hot.lt y hy).1
          clear hba hbka hnews hbt
          go_wp2_with (at_builtin; refine wpList_append_lies _ rfl _ _ 40 rfl (G + 1) 39 j0 (.agg #[.int .u8 0, .string ByteArray.empty]) 2 24 Tryz.underlying40 hj0 hy0 hy1 hy2 rfl (by decide) _ _ _ rfl hota ⟨wr.heap.size + 1, 0, none⟩ 1 1 [.int .u8 c, .string x] rfl rfl HNEWS (fun z hz => by simp at hz; rcases hz with rfl | rfl <;> rfl) (by decide) (by unfold maxLen; omega) (by omega) (by simp; omega) (wr.heap.size + 2) (by simp) ?_; intro g' cap' w3 hown' hgrow3 hat3 hlt3; have hbk3 : w3.heap[G]? = some (.cells #[.int .i64 p, .int .i64 o, v] 42 (0, 0)) := (hgrow3.block G (by simp; omega) (fun e => by have := HVB.out _ e.symm; omega)).trans HBKA.out; have k2 := Lib.cell_of_heap hbk3 2; have f2 := Lib.frozen_of_heap hbk3 2; simp at k2)
          have hb3 : Below G wa w3 := HBA.out.grown hgrow3 (by simp; omega) (fun y hy => by have := HVB.out _ hy; omega)
          have hset := blk_set (i := 2) hbk3 (.slice (some ⟨g', 0, none⟩) (t + 1) cap')
          have HSET : Hid ((w3.setCell ⟨G, 2, none⟩ (.slice (some ⟨g', 0, none⟩) (t + 1) cap')).heap[G]? = some (.cells (#[.int .i64 p, .int .i64 o, v].setIfInBounds 2 (.slice (some ⟨g', 0, none⟩) (t + 1) cap')) 42 (0, 0))) := hset
          clear hset hbk3 hota HNEWS HBKA HBA y0 y1 y2 c3 hx1 hx2
          go_roundw
          case rel =>
            refine ⟨t + 1, .slice (some ⟨g', 0, none⟩) (t + 1) cap', by omega, by go_num, hb3.setCell (Nat.le_refl _) _, by simpa using HSET.out, own_other ?_ (by omega) _⟩
            rw [HSS.out, mcells_append, EE.out, mcells_one]
            exact hown'
          case measure => simp [intOf]; omega
        · obtain rfl : t = q := by omega
          rw [List.take_of_length_le (by have := HQ.out; omega)] at hot
          obtain ⟨gm, cpm, rfl, hgm1, hgm2⟩ := hot.form HPOS.out
          have HLN : Hid ((swm ms).length = t) := by show (swm ms).length = t; rw [swm_length]; exact HQ.out
          have HCP : Hid (t ≤ cpm) := by
            show t ≤ cpm
            rcases hot.2 with ⟨e, _⟩ | ⟨g, cap', cur, e, _, _, h1, _⟩
            · simp at e
            · simp only [Value.slice.injEq] at e; omega
          have hmk := mks_of_own (v := .slice (some ⟨gm, 0, none⟩) t cpm) (ms := swm ms) (w := wr) (B := G + 1) (by rw [HLN.out]; exact hot)
          obtain ⟨a', cap', ea, hmk⟩ := hmk
          simp only [Value.slice.injEq] at ea
          rw [← ea.1] at hmk
          clear ea
          have hownr := (HOW.out.below hbw).below (below_alloc wr (.cells #[.int .i64 p, .int .i64 o, .slice (some ⟨gm, 0, none⟩) t cpm] 42))
          have hm4 := hmk.below (below_alloc wr (.cells #[.int .i64 p, .int .i64 o, .slice (some ⟨gm, 0, none⟩) t cpm] 42))
          have hb4 := (hbl.trans (hbt.mono hBG)).alloc (by omega) (.cells #[.int .i64 p, .int .i64 o, .slice (some ⟨gm, 0, none⟩) t cpm] 42)
          have HUB : Hid (∀ y, u3.ownBlock = some y → y < G) := fun y hy => by
            obtain ⟨xs, h1, _⟩ := HOW.out
            have := (h1.lt y hy).2
            rw [HG.out] at this; exact this
          have hcl : (trn (l.take k)).length ≤ 60 := by simp [trn]; omega
          obtain ⟨xs, hown, hat⟩ := hownr
          have HAT := hat
          have HB4 : Hid (Below B w (wr.alloc (.cells #[.int .i64 p, .int .i64 o, .slice (some ⟨gm, 0, none⟩) t cpm] 42))) := hb4
          have HM4 : Hid (Mks (wr.alloc (.cells #[.int .i64 p, .int .i64 o, .slice (some ⟨gm, 0, none⟩) t cpm] 42)) (some ⟨gm, 0, none⟩) (swm ms)) := hm4
          clear hat hb4 hm4 hmk hot hbk
          go_wp2_with (at_builtin; refine wpList_append_own_at _ rfl _ _ 22 rfl B 42 i0 (.agg #[.int .i64 0, .int .i64 0, .slice none 0 0]) 3 40 Tryz.underlying22 hi0 hz0 hz1 hz2 rfl (by decide) _ _ _ rfl hown ⟨wr.heap.size, 0, none⟩ 1 1 [.int .i64 p, .int .i64 o, .slice (some ⟨gm, 0, none⟩) t cpm] rfl rfl (cell_three_new _ _ _ _ _) (fun x hx => by simp at hx; rcases hx with rfl | rfl | rfl <;> rfl) (by unfold maxLen; omega) (by omega) (by simp; omega) ?_; intro v' w5 hown' hgrow5 hnil5 hblk5)
          go_roundw
          case rel =>
            refine ⟨k + 1, by omega, by go_num, ?_, ?_⟩
            · exact HB4.out.grown hgrow5 (by simp; omega) (fun j hj => (hown.lt j hj).1)
            · rw [HTS.out]
              refine HOwn.snoc hown HAT (by rw [HLN.out]; exact hown') hgrow5 hblk5 (by simp; omega) (fun e => ?_) HM4.out (by rw [HLN.out]; exact HCP.out) (by omega)
              have := HUB.out _ e
              omega
          case measure => simp [intOf]; omega
    · go_wp2
      go_ret
      refine ⟨_, rfl, hbl, ?_⟩
      have h := HOW.out
      rw [List.take_of_length_le (by have := HN.out; omega)] at h
      exact h

end Go.Proofs.YtmidbhikhbbpbacGreatDoor
