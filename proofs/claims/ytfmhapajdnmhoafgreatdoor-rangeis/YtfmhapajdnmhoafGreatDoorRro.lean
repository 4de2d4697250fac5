/-
  Walk of the document's own account of which is which of two series.
-/
import Derived.Test.YtfmhapajdnmhoafGreatDoorXq
import Derived.Test.YtfmhapajdnmhoafGreatDoorXs
import Derived.Test.YtfmhapajdnmhoafGreatDoorXk
import Derived.Test.YtfmhapajdnmhoafGreatDoorRgt
import Derived.Test.YtfmhapajdnmhoafGreatDoorRkf
import Derived.Test.YtfmhapajdnmhoafGreatDoorXb
namespace Go.Proofs.YtfmhapajdnmhoafGreatDoor
open Go.RowKit Dist

theorem rfF_app {p q : List (List Ch)} (h1 : p.length ≤ 4) (h2 : q.length ≤ 4) : rfF p q = srF (p ++ q) := by
  unfold rfF
  rw [if_neg (by omega), srF_app]
theorem txs_app (p q : List (List Ch)) : txs (p ++ q) = txs p ++ txs q := by unfold txs; rw [List.map_append]
theorem txs_take {ps : List (List Ch)} {k : Nat} (hk : k < ps.length) : txs (ps.take (k + 1)) = txs (ps.take k) ++ [tx1 (ps.getD k [])] := by
  unfold txs
  rw [List.take_succ_eq_append_getElem hk, List.map_append]
  simp [hk]

/-- What comes of the document's account. -/
def RoV (p q : List (List Ch)) (e : Ending) (w w' : World) : Prop := ∃ g c, e = .returned (.tuple #[.slice g (rgP p q).length c, .int .i64 (rfF p q)]) ∧ Pai w' g (rgP p q) ∧ Below w.heap.size w w'
theorem RoV.bad {p q : List (List Ch)} {f : Int} (h : rfF p q = f) (hf : f ≠ 0) {w w' : World} (hb : Below w.heap.size w w') : RoV p q (.returned (.tuple #[.slice none 0 0, .int .i64 f])) w w' := by
  refine ⟨none, 0, ?_, ?_, hb⟩
  · rw [rgP_bad (by rw [h]; exact hf), h]; rfl
  · rw [rgP_bad (by rw [h]; exact hf)]; exact Pai.nil _ _

/-- The pairs so far: of the first; of those alone there. -/
def fA (nq : Nat) (M : List Nat) (k : Nat) : List (Int × Int) := (List.range k).map fun (i : Nat) => ((i : Int), if M.getD i 0 < nq then (M.getD i 0 : Int) else -1)
def fC (np : Nat) (M : List Nat) (k j : Nat) : List (Int × Int) := ((List.range' np j).filter fun (i : Nat) => decide (M.getD i 0 = k)).map fun _ => ((-1 : Int), (k : Int))
def fB (np nq : Nat) (M : List Nat) (k : Nat) : List (Int × Int) := (List.range k).flatMap fun (k : Nat) => fC np M k nq
theorem fA_zero (nq : Nat) (M : List Nat) : fA nq M 0 = [] := rfl
theorem fA_succ (nq : Nat) (M : List Nat) (k : Nat) : fA nq M (k + 1) = fA nq M k ++ [((k : Int), if M.getD k 0 < nq then (M.getD k 0 : Int) else -1)] := by
  unfold fA
  rw [List.range_succ, List.map_append]; rfl
theorem fA_len (nq : Nat) (M : List Nat) (k : Nat) : (fA nq M k).length = k := by simp [fA]
theorem fC_zero (np : Nat) (M : List Nat) (k : Nat) : fC np M k 0 = [] := rfl
theorem fC_succ (np : Nat) (M : List Nat) (k j : Nat) : fC np M k (j + 1) = fC np M k j ++ if M.getD (np + j) 0 = k then [((-1 : Int), (k : Int))] else [] := by
  unfold fC
  rw [List.range'_1_concat, List.filter_append, List.map_append]
  by_cases h : M.getD (np + j) 0 = k
  · rw [if_pos h, List.filter_cons_of_pos (by simpa using h)]; rfl
  · rw [if_neg h, List.filter_cons_of_neg (by simpa using h)]; rfl
theorem fC_len (np : Nat) (M : List Nat) (k j : Nat) : (fC np M k j).length ≤ j := by
  unfold fC
  rw [List.length_map]
  have := List.length_filter_le (fun (i : Nat) => decide (M.getD i 0 = k)) (List.range' np j)
  simpa using this
theorem fB_zero (np nq : Nat) (M : List Nat) : fB np nq M 0 = [] := rfl
theorem fB_succ (np nq : Nat) (M : List Nat) (k : Nat) : fB np nq M (k + 1) = fB np nq M k ++ fC np M k nq := by
  unfold fB
  rw [List.range_succ, List.flatMap_append, List.flatMap_cons, List.flatMap_nil, List.append_nil]
theorem fB_len (np nq : Nat) (M : List Nat) : ∀ k, (fB np nq M k).length ≤ k * nq
  | 0 => by rw [fB_zero]; simp
  | k + 1 => by
    have := fB_len np nq M k
    have := fC_len np M k nq
    rw [fB_succ, List.length_append, Nat.add_mul]; omega
theorem rgo_parts (np nq : Nat) (M : List Nat) : rgo np nq M = fA nq M np ++ fB np nq M nq := rfl

/-- The rows of the square of costs. -/
def rwX (np nq N : Nat) (ts : List (List ByteArray)) (i : Nat) : List Int := (List.range N).map fun k => rcs np nq ts i k
def mtX (np nq N : Nat) (ts : List (List ByteArray)) (k : Nat) : List (List Int) := (List.range k).map (rwX np nq N ts)
theorem mtX_succ (np nq N : Nat) (ts : List (List ByteArray)) (k : Nat) : mtX np nq N ts (k + 1) = mtX np nq N ts k ++ [rwX np nq N ts k] := by
  unfold mtX
  rw [List.range_succ, List.map_append]; rfl
theorem mtX_len (np nq N : Nat) (ts : List (List ByteArray)) (k : Nat) : (mtX np nq N ts k).length = k := by simp [mtX]
theorem rwX_len (np nq N : Nat) (ts : List (List ByteArray)) (i : Nat) : (rwX np nq N ts i).length = N := by simp [rwX]
theorem rwX_take {np nq N : Nat} {ts : List (List ByteArray)} {i j : Nat} (h : j < N) : (rwX np nq N ts i).take (j + 1) = (rwX np nq N ts i).take j ++ [rcs np nq ts i j] := by
  have h2 : j < (rwX np nq N ts i).length := by rw [rwX_len]; exact h
  rw [List.take_succ_eq_append_getElem h2]
  simp [rwX]

section
variable (a b : Option Addr) (p q : List (List Ch)) (ca cb : Nat) (w : World)

set_option maxHeartbeats 4000000 in
set_option maxRecDepth 100000 in
theorem rangeOf_any (ha : Srs w a p) (hb : Srs w b q) (hop : Okl p) (hoq : Okl q) :
    Calls Tryz.prog 4 #[.slice a p.length ca, .slice b q.length cb] w fun e w' => RoV p q e w w' := by
  have hlp := hop.1
  have hlq := hoq.1
  unfold maxLen at hlp hlq
  by_cases h4 : 4 < p.length ∨ 4 < q.length
  · have hV : Hid (RoV p q (.returned (.tuple #[.slice none 0 0, .int .i64 3])) w w) := RoV.bad (by unfold rfF; rw [if_pos h4]) (by decide) (Below.refl _ _)
    clear ha hb hop hoq
    obtain ⟨np, hnp⟩ : ∃ np, p.length = np := ⟨_, rfl⟩
    obtain ⟨mq, hmq⟩ : ∃ mq, q.length = mq := ⟨_, rfl⟩
    rw [hnp] at h4 hlp ⊢
    rw [hmq] at h4 hlq ⊢
    clear hnp hmq
    by_cases h5 : 4 < np
    case' neg =>
      have h6 : np ≤ 4 := by omega
      have h7 : 4 < mq := by omega
    all_goals
      clear h4
      go_enter Tryz.func4, Tryz.ntmps4
      go_wp2
      go_ret2
      exact hV.out
  have h5 : p.length ≤ 4 := by omega
  have h6 : q.length ≤ 4 := by omega
  have HF : Hid (rfF p q = srF (p ++ q)) := rfF_app h5 h6
  have HV : Hid (∀ f w', rfF p q = f → f ≠ 0 → Below w.heap.size w w' → RoV p q (.returned (.tuple #[.slice none 0 0, .int .i64 f])) w w') := fun f w' h1 h2 h3 => RoV.bad h1 h2 h3
  have HA : Hid (Srs w a p) := ha
  have HB : Hid (Srs w b q) := hb
  have HOP : Hid (Okl p) := hop
  have HOQ : Hid (Okl q) := hoq
  obtain ⟨np, hnp⟩ : ∃ np, p.length = np := ⟨_, rfl⟩
  obtain ⟨mq, hmq⟩ : ∃ mq, q.length = mq := ⟨_, rfl⟩
  have HP : Hid (p.length = np) := hnp
  have HQ : Hid (q.length = mq) := hmq
  rw [hnp] at h5 ⊢
  rw [hmq] at h6 ⊢
  have HPS : Hid ((p ++ q).length = np + mq) := by show _ = _; rw [List.length_append, hnp, hmq]
  obtain ⟨U, hU⟩ : ∃ U, w.heap.size = U := ⟨_, rfl⟩
  have HU : Hid (w.heap.size = U) := hU
  have d1 : decide (4 < (np : Int)) = false := by rw [decide_eq_false_iff_not]; omega
  have d1' : decide (4 < np) = false := by rw [decide_eq_false_iff_not]; omega
  have d2 : decide (4 < (mq : Int)) = false := by rw [decide_eq_false_iff_not]; omega
  have d2' : decide (4 < mq) = false := by rw [decide_eq_false_iff_not]; omega
  clear ha hb hop hoq hnp hmq h4 hlp hlq hU
  go_enter Tryz.func4, Tryz.ntmps4
  go_upto_region 3 with fail
  clear d1 d1' d2 d2'
  go_wp2
  go_loopw [6, 7] (fun v i wx => ∃ k : Nat, k ≤ np + mq ∧ i = .int .i64 k ∧ (∀ j, j < k → (kf ((p ++ q).getD j [])).2 = 0) ∧ Txl wx U v (txs ((p ++ q).take k)) ∧ Below U w wx) (fun _ i _ => np + mq - (intOf i).toNat)
  case atStart => exact ⟨0, Nat.zero_le _, rfl, fun j hj => absurd hj (Nat.not_lt_zero _), Txl.nil _ _, Below.refl _ _⟩
  case round =>
    obtain ⟨k, hk, rfl, hall, htx, hbl⟩ := hrel
    have HALL : Hid (∀ j, j < k → (kf ((p ++ q).getD j [])).2 = 0) := hall
    have HTX : Hid (Txl wr U u6 (txs ((p ++ q).take k))) := htx
    clear hall htx
    by_cases hlt : k < np + mq
    · have hkl : k < (p ++ q).length := by rw [HPS.out]; exact hlt
      have hbw : Below w.heap.size w wr := by rw [HU.out]; exact hbl
      have hpp : Srs wr a p := HA.out.below hbw
      have hqq : Srs wr b q := HB.out.below hbw
      have hmem : ∃ ac m cc, Chs wr ac ((p ++ q).getD k []) ∧ ((p ++ q).getD k []).length = m ∧ (k < np → ∃ b1 o1, a = some ⟨b1, o1, none⟩ ∧ wr.cell? ⟨b1, o1 + k, none⟩ = some (.slice ac m cc)) ∧ (¬ k < np → ∃ b1 o1, b = some ⟨b1, o1, none⟩ ∧ wr.cell? ⟨b1, o1 + (k - np), none⟩ = some (.slice ac m cc)) := by
        by_cases hkp : k < np
        · have hkp2 : k < p.length := by rw [HP.out]; exact hkp
          have e : (p ++ q).getD k [] = p.getD k [] := by simp [List.getElem?_append_left hkp2]
          rw [e]
          obtain ⟨b1, o1, e1⟩ := hpp.addr hkp2
          rw [e1] at hpp
          obtain ⟨ac, cc, hc, hch⟩ := hpp.at hkp2
          exact ⟨ac, _, cc, hch, rfl, fun _ => ⟨b1, o1, e1, hc⟩, fun h => absurd hkp h⟩
        · have hkq : k - np < q.length := by rw [HQ.out]; omega
          have e : (p ++ q).getD k [] = q.getD (k - np) [] := by simp [List.getElem?_append_right (show p.length ≤ k by rw [HP.out]; omega), HP.out]
          rw [e]
          obtain ⟨b1, o1, e1⟩ := hqq.addr hkq
          rw [e1] at hqq
          obtain ⟨ac, cc, hc, hch⟩ := hqq.at hkq
          exact ⟨ac, _, cc, hch, rfl, fun h => absurd h hkp, fun _ => ⟨b1, o1, e1, hc⟩⟩
      obtain ⟨ac, m, cc, hch, hm, hc1, hc2⟩ := hmem
      have hok : ((p ++ q).getD k []).length ≤ maxLen ∧ (∀ c ∈ (p ++ q).getD k [], c.2.2.length ≤ maxLen) ∧ (∀ c ∈ (p ++ q).getD k [], ∀ h ∈ c.2.2, h.2.2.length ≤ maxLen) ∧ ∀ c ∈ (p ++ q).getD k [], ∀ h ∈ c.2.2, ∀ m ∈ h.2.2, m.2.size ≤ maxLen := by
        have := mem_getDs hkl
        rcases List.mem_append.1 this with h | h
        · exact HOP.out.2 _ h
        · exact HOQ.out.2 _ h
      have hpf := patchFault ac ((p ++ q).getD k []) cc wr hch hok.1 hok.2.1 hok.2.2.1 hok.2.2.2
      have hpt := fun w1 (h : Below wr.heap.size wr w1) => refPText ac ((p ++ q).getD k []) cc w1 (hch.below h)
      have hsa := fun h1 h2 => srF_at (p := p ++ q) (k := k) hkl h1 h2
      have htk := txs_take hkl
      obtain ⟨l, hl⟩ : ∃ l, (p ++ q).getD k [] = l := ⟨_, rfl⟩
      have HL : Hid ((p ++ q).getD k [] = l) := hl
      rw [hl] at hpf hpt hsa htk hm
      rw [hm] at hpf hpt
      obtain ⟨L1, hL1⟩ : ∃ L1, txs ((p ++ q).take k) = L1 := ⟨_, rfl⟩
      rw [hL1] at htk HTX
      have HTK : Hid (txs ((p ++ q).take (k + 1)) = L1 ++ [tx1 l]) := htk
      have hL1k : L1.length = k := by rw [← hL1, txs_len, List.length_take]; omega
      clear hl hpp hqq hch hok hbw htk hL1
      by_cases hkp : k < np
      case' pos =>
        obtain ⟨b1, o1, rfl, hc⟩ := hc1 hkp
        have hkk : Hid True := trivial
      case' neg =>
        obtain ⟨b1, o1, rfl, hc⟩ := hc2 hkp
        have hkk : (k : Int) - (np : Int) = ((k - np : Nat) : Int) := by omega
      all_goals
        clear hc1 hc2
        go_upto_region 13 with (first
          | (go_at_call 7; refine hpf.mono ?_; rintro e w1 ⟨rfl, hb1⟩)
          | go_in)
      all_goals
        have hbU : Below U w w1 := hbl.trans (hb1.mono (by have := hbl.size; rw [HU.out] at this; exact this))
        by_cases hf : (kf l).2 = 0
        · have hpt2 := hpt w1 hb1 hf
          have hgs := gpr_short hf
          have hprt : ∀ w2, Calls Tryz.prog 8 #[.string ⟨(gpr l).toArray⟩] w2 fun e w' => ∃ G T cap, e = .returned (.slice (some ⟨G, 0, none⟩) (T + 1) cap) ∧ (tx1 l).length = T ∧ T + 1 ≤ cap ∧ Strs w' (some ⟨G, 0, none⟩) (tx1 l) ∧ Below w2.heap.size w2 w' ∧ w2.heap.size ≤ G ∧ G < w'.heap.size := fun w2 =>
            (partsIn ⟨(gpr l).toArray⟩ w2 (by rw [Lib.size_eq]; simp; omega)).mono fun e w' ⟨G, cap, qs, he, hcp, hq, hb, hs, hg1, hg2⟩ => by
              obtain ⟨p1, p2⟩ := tx1_pieces (l := l) (ps := qs) (by simpa [bts] using hq)
              rw [p1] at he hcp p2
              refine ⟨G, _, cap, he, rfl, hcp, fun i hi => ?_, hb, hg1, hg2⟩
              obtain ⟨b', o', e', hc'⟩ := hs i (by omega)
              refine ⟨b', o', e', ?_⟩
              have : (tx1 l).getD i ByteArray.empty = qs.getD i ByteArray.empty := by
                rw [← p2]
                simp [show i < (tx1 l).length by omega, show i < qs.length by omega]
              rw [this]; exact hc'
          have HX : Hid (∀ j, j < k + 1 → (kf ((p ++ q).getD j [])).2 = 0) := fun j hj => by
            by_cases e : j = k
            · subst e; rw [HL.out]; exact hf
            · exact HALL.out j (by omega)
          have htl := tx1_len hf
          have hcw := cell_later hb1 hc
          rw [hf]
          clear hpf hpt hsa HALL HF HV hgs
          go_upto_region 16 with (first
            | (go_at_call 9; refine hpt2.mono ?_; rintro e w2 ⟨rfl, hb2⟩)
            | (go_at_call 8; refine (hprt _).mono ?_; rintro e w3 ⟨G, T, cap, rfl, hT, hcp, hs3, hb3, hg1, hg2⟩)
            | go_in)
          have hb13 : Below wr.heap.size wr w3 := hb1.trans ((hb2.mono hb1.size).trans (hb3.mono (Nat.le_trans hb1.size hb2.size)))
          have hzU : U ≤ wr.heap.size := by have := hbl.size; rw [HU.out] at this; exact this
          have hz3 : U ≤ w3.heap.size := Nat.le_trans hzU hb13.size
          have hKA : Txl (w3.alloc (.cells #[.slice (some ⟨G, 0, none⟩) T cap] 38)) U u6 L1 := (HTX.out.below hb13).below (below_alloc _ _)
          have hcell : (w3.alloc (.cells #[.slice (some ⟨G, 0, none⟩) T cap] 38)).cell? ⟨w3.heap.size, 0, none⟩ = some (.slice (some ⟨G, 0, none⟩) T cap) := by
            rw [Lib.cell_of_heap (heap_alloc_new w3 _)]; rfl
          have hs4 : Strs (w3.alloc (.cells #[.slice (some ⟨G, 0, none⟩) T cap] 38)) (some ⟨G, 0, none⟩) (tx1 l) := hs3.below (below_alloc _ _)
          have hS : U ≤ (w3.alloc (.cells #[.slice (some ⟨G, 0, none⟩) T cap] 38)).heap.size := by simp; omega
          have hown := HTX.out.own
          have hne : ∀ x : Addr, some ⟨G, 0, none⟩ = some x → u6.ownBlock ≠ some x.block ∧ x.block < (w3.alloc (.cells #[.slice (some ⟨G, 0, none⟩) T cap] 38)).heap.size := fun x hx => by
            cases hx
            refine ⟨fun e => ?_, by simp; omega⟩
            have h1 := (hown _ e).2
            have h2 := hb1.size
            have h3 := hb2.size
            simp only at h1
            omega
          have KO : Hid (∀ k, u6.ownBlock = some k → U ≤ k) := fun k hk => (hown k hk).1
          have hb6 : Below U w (w3.alloc (.cells #[.slice (some ⟨G, 0, none⟩) T cap] 38)) := hbl.trans ((hb13.mono hzU).trans ((below_alloc w3 _).mono hz3))
          have hdS : L1.length ≤ 100000 := by omega
          clear HTX hown hs3 hb3 hb2 hb13 hprt hpt2
          go_wp2_with (first
            | (at_builtin; refine append_text rfl _ _ rfl U u6 L1 rfl hKA w3.heap.size (some ⟨G, 0, none⟩) (tx1 l) T cap hT rfl hcell hs4 hne hdS hS ?_; intro v' w6 hS6 hg6 hv6)
            | go_in)
          go_roundw
          case rel => exact ⟨k + 1, by omega, by go_num, HX.out, by rw [HTK.out]; exact hS6, hb6.grown hg6 hS KO.out⟩
          case measure => simp [intOf]; omega
        · have hVV : Hid _ := HV.out (kf l).2 w1 (HF.out.trans (hsa HALL.out hf)) hf (by rw [HU.out]; exact hbU)
          obtain ⟨f, hff⟩ : ∃ f, (kf l).2 = f := ⟨_, rfl⟩
          rw [hff] at hf hVV ⊢
          have hne : (f == 0) = false := by simpa using hf
          clear HV HF hsa HALL hff hpf hpt
          go_wp2
          go_ret2
          exact hVV.out
    · have hkn : k = np + mq := by omega
      subst hkn
      have hF0 : rfF p q = 0 := HF.out.trans (srF_all fun j hj => HALL.out j (by rw [← HPS.out]; exact hj))
      have htx := HTX.out
      rw [← HPS.out, List.take_length, txs_app] at htx
      obtain ⟨g6, c6, rfl, ht6⟩ := htx.txs
      have hl6 : (txs p ++ txs q).length = np + mq := by rw [List.length_append, txs_len, txs_len, HP.out, HQ.out]
      rw [hl6]
      obtain ⟨N, hN⟩ : ∃ N, np + mq = N := ⟨_, rfl⟩
      have hNi : (np : Int) + (mq : Int) = (N : Int) := by omega
      have hN8 : N ≤ 8 := by omega
      obtain ⟨_, _, hsp, hsq⟩ := rfF_zero hF0
      have hsm := txs_both hsp hsq
      have hfit := sqf_rmx (np := np) (nq := mq) hsm h5 h6
      have hbest := rgM_best hF0
      have HRG : Hid (rgP p q = rgo np mq (rgM p q)) := by
        show _ = _
        unfold rgP
        rw [if_neg (by simp [hF0]), HP.out, HQ.out]
      have HRM : Hid (rgM p q = mcM (rmx np mq (txs p ++ txs q))) := by
        show _ = _
        unfold rgM
        rw [HP.out, HQ.out]
      rw [HP.out, HQ.out, hN] at hbest
      have HV2 : Hid (∀ v w1 w', Below U w w1 → Prl w' w1.heap.size v (rgo np mq (rgM p q)) → Below w1.heap.size w1 w' → RoV p q (.returned (.tuple #[v, .int .i64 0])) w w') := fun v w1 w' h1 h2 h3 => by
        rw [← HRG.out] at h2
        obtain ⟨g, c, rfl, h4⟩ := h2.pai
        rw [← HU.out] at h1
        exact ⟨g, c, by rw [hF0], h4, h1.trans (h3.mono h1.size)⟩
      obtain ⟨M, hM⟩ : ∃ M, rgM p q = M := ⟨_, rfl⟩
      rw [hM] at HRM HV2 hbest
      have hMl : M.length = N := hbest.1.1
      have hM8 : ∀ i, M.getD i 0 < 8 := fun i => by
        by_cases hi : i < M.length
        · have : M.getD i 0 = M[i] := by simp [hi]
          rw [this]
          have := (hbest.1.2.2 _ (List.getElem_mem hi)).1
          omega
        · simp [hi]
      have hX : rmx np mq (txs p ++ txs q) = mtX np mq N (txs p ++ txs q) N := by
        unfold mtX rwX rmx
        rw [hN]
      rw [hX] at HRM hfit
      clear hX hsp hsq HRG hM hbest HF HV HALL HTX htx hF0 HA HB HOP HOQ hlt hk
      rw [hN] at hl6
      simp only [hN]
      obtain ⟨ts, hts⟩ : ∃ ts, txs p ++ txs q = ts := ⟨_, rfl⟩
      rw [hts] at ht6 hl6 hsm HRM hfit
      clear hts
      obtain ⟨w6, rfl⟩ : ∃ w6, w6 = wr := ⟨_, rfl⟩
      have HT6 : Hid (Txs w6 g6 ts) := ht6
      clear ht6
      go_upto_region 19 with fail
      clear hNi
      go_wp2
      go_loopw [14, 15] (fun c i wx => ∃ k : Nat, k ≤ N ∧ i = .int .i64 k ∧ Sql wx w6.heap.size c (mtX np mq N ts k) ∧ Below w6.heap.size w6 wx) (fun _ i _ => N - (intOf i).toNat)
      case atStart => exact ⟨0, Nat.zero_le _, rfl, Sql.nil _ _, Below.refl _ _⟩
      case round =>
        obtain ⟨k, hk, rfl, hsql, hb6⟩ := hrel
        by_cases hlt : k < N
        · obtain ⟨b6, o6, rfl, hat6⟩ := Txs.at (HT6.out.below hb6) (i := k) (by rw [hl6]; exact hlt)
          have HAT : Hid (∀ j : Nat, j < ts.length → ∃ ar cap, wr.cell? ⟨b6, o6 + j, none⟩ = some (.slice ar (ts.getD j []).length cap) ∧ Strs wr ar (ts.getD j [])) := hat6
          have HSQ : Hid (Sql wr w6.heap.size u14 (mtX np mq N ts k)) := hsql
          have hzU := hb6.size
          obtain ⟨R, hR⟩ : ∃ R, wr.heap.size = R := ⟨_, rfl⟩
          have HR : Hid (wr.heap.size = R) := hR
          rw [hR] at hzU
          clear hR hat6 hsql
          go_wp2
          go_loopw [16, 17] (fun v i wx => ∃ j : Nat, j ≤ N ∧ i = .int .i64 j ∧ Inl wx R v ((rwX np mq N ts k).take j) ∧ Below R wr wx) (fun _ i _ => N - (intOf i).toNat)
          case atStart => exact ⟨0, Nat.zero_le _, rfl, Inl.nil _ _, Below.refl _ _⟩
          case round =>
            obtain ⟨j, hj, rfl, hl, hbl2⟩ := hrel
            have hbR : Below _ _ wr := HR.out ▸ hbl2
            have hzR : R ≤ wr.heap.size := by have := hbR.size; rw [HR.out] at this; exact this
            by_cases hjt : j < N
            · have hT := rwX_take (np := np) (nq := mq) (N := N) (ts := ts) (i := k) hjt
              have hxb := rcs_nonneg np mq ts k j
              have hxb2 := rcs_small hsm (np := np) (nq := mq) k j
              have hcs : rcs np mq ts k j = if k < np ∧ j < mq then ((dif (ts.getD k []) (ts.getD (np + j) []) : Nat) : Int) else if k < np then (((ts.getD k []).length + 1) / 2 + 1 : Nat) else if j < mq then (((ts.getD (np + j) []).length + 1) / 2 + 1 : Nat) else 0 := rfl
              obtain ⟨x, hx⟩ : ∃ x, rcs np mq ts k j = x := ⟨_, rfl⟩
              rw [hx] at hT hxb hxb2 hcs
              obtain ⟨tk, htk⟩ : ∃ tk, (rwX np mq N ts k).take j = tk := ⟨_, rfl⟩
              rw [htk] at hT hl
              have htl : tk.length + 1 ≤ 100000 := by rw [← htk, List.length_take]; omega
              have HT : Hid ((rwX np mq N ts k).take (j + 1) = tk ++ [x]) := hT
              have HL2 : Hid (Inl wr R u16 tk) := hl
              have HB2 : Hid _ := hbl2
              have KO : Hid (∀ k, u16.ownBlock = some k → R ≤ k) := fun k hk => (hl.own k hk).1
              have hsx := getD_small hsm k
              have hsy := getD_small hsm (np + j)
              clear hT hx htk hl hbl2
              by_cases hkp : k < np
              · obtain ⟨ar, ac, hc1, hs1⟩ := HAT.out k (by rw [hl6]; exact hlt)
                have hc1 := cell_later hbR hc1
                have hs1 := hs1.below hbR
                by_cases hjq : j < mq
                · obtain ⟨br, bc, hc2, hs2⟩ := HAT.out (np + j) (by rw [hl6]; omega)
                  have hc2 := cell_later hbR hc2
                  have hs2 := hs2.below hbR
                  have e1 : x = ((dif (ts.getD k []) (ts.getD (np + j) []) : Nat) : Int) := by rw [hcs, if_pos ⟨hkp, hjq⟩]
                  have hdd : ∀ q, Calls Tryz.prog 10 #[.slice ar (ts.getD k []).length ac, .slice br (ts.getD (np + j) []).length bc] (wr.drewN q) fun e w' => e = .returned (.int .i64 x) ∧ ∃ q', w' = (wr.drewN q).drewN q' := fun q => by
                    have := differOf ar br (ts.getD k []) (ts.getD (np + j) []) ac bc (wr.drewN q) hs1 hs2 hsx hsy
                    rw [← e1] at this
                    exact this
                  obtain ⟨l1, hl1⟩ : ∃ l1, (ts.getD k []).length = l1 := ⟨_, rfl⟩
                  obtain ⟨l2, hl2⟩ : ∃ l2, (ts.getD (np + j) []).length = l2 := ⟨_, rfl⟩
                  rw [hl1] at hdd hc1 hsx
                  rw [hl2] at hdd hc2 hsy
                  obtain ⟨sj, hsj⟩ : ∃ sj, np + j = sj := ⟨_, rfl⟩
                  have hni : (np : Int) + (j : Int) = (sj : Int) := by omega
                  have hsN : sj < N := by omega
                  rw [hsj] at hc2
                  clear hsj hcs e1 hs1 hs2 hl1 hl2 HAT HSQ HT6
                  go_upto_region 28 with fail
                  go_quiet ((go_at_call 10; exact Calls.quiet_of (hdd _)))
                  have hl2 : Inl (wr.drewN nq) R u16 tk := HL2.out
                  have hbq := below_drawn (q := nq) HB2.out
                  have hz9 : R ≤ (wr.drewN nq).heap.size := hzR
                  generalize wr.drewN nq = w9 at hl2 hbq hz9 ⊢
                  have hS : R ≤ (w9.alloc (.cells #[.int .i64 x] 3)).heap.size := by simp; omega
                  have hA := hl2.later (below_alloc w9 (.cells #[.int .i64 x] 3))
                  have hO := ins_one w9 x
                  have hB := hbq.trans ((below_alloc w9 (.cells #[.int .i64 x] 3)).mono hz9)
                  clear hl2 hbq
                  go_wp2_with (first
                    | (at_builtin; refine append_ints rfl _ _ rfl R u16 tk rfl hA (some ⟨w9.heap.size, 0, none⟩) [x] 1 1 rfl rfl hO htl hS ?_; intro v' w10 hI10 hg10)
                    | go_in)
                  go_roundw
                  case rel => exact ⟨j + 1, by omega, by go_num, by rw [HT.out]; exact hI10, hB.grown hg10 hS KO.out⟩
                  case measure => simp [intOf]; omega
                · have e1 : x = (((ts.getD k []).length + 1) / 2 + 1 : Nat) := by rw [hcs, if_neg fun h => hjq h.2, if_pos hkp]
                  obtain ⟨l1, hl1⟩ : ∃ l1, (ts.getD k []).length = l1 := ⟨_, rfl⟩
                  rw [hl1] at hc1 hsx e1
                  have hq1 : ((l1 : Int) + 1) / 2 + 1 = x := by omega
                  have hjq2 : mq ≤ j := by omega
                  clear hcs e1 hs1 hl1 HAT HSQ HT6 hjq
                  go_upto_region 33 with fail
                  have hl2 : Inl wr R u16 tk := HL2.out
                  have hbq := HB2.out
                  have hz9 : R ≤ wr.heap.size := hzR
                  generalize wr = w9 at hl2 hbq hz9 ⊢
                  have hS : R ≤ (w9.alloc (.cells #[.int .i64 x] 3)).heap.size := by simp; omega
                  have hA := hl2.later (below_alloc w9 (.cells #[.int .i64 x] 3))
                  have hO := ins_one w9 x
                  have hB := hbq.trans ((below_alloc w9 (.cells #[.int .i64 x] 3)).mono hz9)
                  clear hl2 hbq
                  go_wp2_with (first
                    | (at_builtin; refine append_ints rfl _ _ rfl R u16 tk rfl hA (some ⟨w9.heap.size, 0, none⟩) [x] 1 1 rfl rfl hO htl hS ?_; intro v' w10 hI10 hg10)
                    | go_in)
                  go_roundw
                  case rel => exact ⟨j + 1, by omega, by go_num, by rw [HT.out]; exact hI10, hB.grown hg10 hS KO.out⟩
                  case measure => simp [intOf]; omega
              · have hkp2 : np ≤ k := by omega
                by_cases hjq : j < mq
                · obtain ⟨br, bc, hc2, _⟩ := HAT.out (np + j) (by rw [hl6]; omega)
                  have hc2 := cell_later hbR hc2
                  have e1 : x = (((ts.getD (np + j) []).length + 1) / 2 + 1 : Nat) := by rw [hcs, if_neg fun h => hkp h.1, if_neg hkp, if_pos hjq]
                  obtain ⟨l2, hl2⟩ : ∃ l2, (ts.getD (np + j) []).length = l2 := ⟨_, rfl⟩
                  rw [hl2] at hc2 hsy e1
                  have hq1 : ((l2 : Int) + 1) / 2 + 1 = x := by omega
                  obtain ⟨sj, hsj⟩ : ∃ sj, np + j = sj := ⟨_, rfl⟩
                  have hni : (np : Int) + (j : Int) = (sj : Int) := by omega
                  have hsN : sj < N := by omega
                  rw [hsj] at hc2
                  clear hsj hcs e1 hl2 HAT HSQ HT6 hkp
                  go_upto_region 33 with fail
                  have hl2 : Inl wr R u16 tk := HL2.out
                  have hbq := HB2.out
                  have hz9 : R ≤ wr.heap.size := hzR
                  generalize wr = w9 at hl2 hbq hz9 ⊢
                  have hS : R ≤ (w9.alloc (.cells #[.int .i64 x] 3)).heap.size := by simp; omega
                  have hA := hl2.later (below_alloc w9 (.cells #[.int .i64 x] 3))
                  have hO := ins_one w9 x
                  have hB := hbq.trans ((below_alloc w9 (.cells #[.int .i64 x] 3)).mono hz9)
                  clear hl2 hbq
                  go_wp2_with (first
                    | (at_builtin; refine append_ints rfl _ _ rfl R u16 tk rfl hA (some ⟨w9.heap.size, 0, none⟩) [x] 1 1 rfl rfl hO htl hS ?_; intro v' w10 hI10 hg10)
                    | go_in)
                  go_roundw
                  case rel => exact ⟨j + 1, by omega, by go_num, by rw [HT.out]; exact hI10, hB.grown hg10 hS KO.out⟩
                  case measure => simp [intOf]; omega
                · have e1 : x = 0 := by rw [hcs, if_neg fun h => hkp h.1, if_neg hkp, if_neg hjq]
                  have hjq2 : mq ≤ j := by omega
                  subst e1
                  clear hcs HAT HSQ HT6 hkp hjq
                  go_upto_region 33 with fail
                  have hl2 : Inl wr R u16 tk := HL2.out
                  have hbq := HB2.out
                  have hz9 : R ≤ wr.heap.size := hzR
                  generalize wr = w9 at hl2 hbq hz9 ⊢
                  have hS : R ≤ (w9.alloc (.cells #[.int .i64 0] 3)).heap.size := by simp; omega
                  have hA := hl2.later (below_alloc w9 (.cells #[.int .i64 0] 3))
                  have hO := ins_one w9 0
                  have hB := hbq.trans ((below_alloc w9 (.cells #[.int .i64 0] 3)).mono hz9)
                  clear hl2 hbq
                  go_wp2_with (first
                    | (at_builtin; refine append_ints rfl _ _ rfl R u16 tk rfl hA (some ⟨w9.heap.size, 0, none⟩) [0] 1 1 rfl rfl hO htl hS ?_; intro v' w10 hI10 hg10)
                    | go_in)
                  go_roundw
                  case rel => exact ⟨j + 1, by omega, by go_num, by rw [HT.out]; exact hI10, hB.grown hg10 hS KO.out⟩
                  case measure => simp [intOf]; omega
            · have hjn : j = N := by omega
              have hfull : (rwX np mq N ts k).take j = rwX np mq N ts k := List.take_of_length_le (by rw [rwX_len]; omega)
              rw [hfull] at hl
              obtain ⟨g5, c5, rfl, hi5, hx5⟩ := hl.at
              have hdl : (rwX np mq N ts k).length = N := rwX_len _ _ _ _ _
              have hKA : Sql (wr.alloc (.cells #[.slice g5 N c5] 42)) w6.heap.size u14 (mtX np mq N ts k) := (HSQ.out.below hbR).below (below_alloc _ _)
              have hcell : (wr.alloc (.cells #[.slice g5 N c5] 42)).cell? ⟨wr.heap.size, 0, none⟩ = some (.slice g5 N c5) := by
                rw [Lib.cell_of_heap (heap_alloc_new wr _)]; rfl
              have hi6 : Ins (wr.alloc (.cells #[.slice g5 N c5] 42)) g5 (rwX np mq N ts k) := hi5.below (below_alloc _ _)
              have hS : w6.heap.size ≤ (wr.alloc (.cells #[.slice g5 N c5] 42)).heap.size := by simp; omega
              have hown := HSQ.out.own
              have hne : ∀ x, g5 = some x → u14.ownBlock ≠ some x.block ∧ x.block < (wr.alloc (.cells #[.slice g5 N c5] 42)).heap.size := fun x hx => by
                obtain ⟨p1, p2⟩ := hx5 x hx
                refine ⟨fun e => ?_, by simp; omega⟩
                have := (hown _ e).2
                rw [HR.out] at this
                omega
              have KO : Hid (∀ k, u14.ownBlock = some k → w6.heap.size ≤ k) := fun k hk => (hown k hk).1
              have hb9 : Below w6.heap.size w6 (wr.alloc (.cells #[.slice g5 N c5] 42)) := hb6.trans ((hbl2.mono hzU).trans ((below_alloc wr _).mono (by omega)))
              have hdS : (mtX np mq N ts k).length ≤ 100000 := by rw [mtX_len]; omega
              rw [hdl]
              clear hfull hl hi5 hx5 HSQ HAT HT6 hbR hown hbl2
              go_wp2_with (first
                | (at_builtin; refine append_row rfl _ _ rfl w6.heap.size u14 (mtX np mq N ts k) rfl hKA wr.heap.size g5 (rwX np mq N ts k) N c5 hdl rfl hcell hi6 hne hdS hS ?_; intro v' w10 hS10 hg10 hv10)
                | go_in)
              go_roundw
              case rel => exact ⟨k + 1, by omega, by go_num, by rw [mtX_succ]; exact hS10, hb9.grown hg10 hS KO.out⟩
              case measure => simp [intOf]; omega
        · have hkn : k = N := by omega
          rw [hkn] at hsql
          obtain ⟨g14, c14, rfl, hs14⟩ := hsql.sqr
          have hm := matchOf g14 (mtX np mq N ts N) c14 wr hs14 hfit
          rw [mtX_len, ← HRM.out] at hm
          rw [mtX_len]
          have hbU : Below U w wr := hbl.trans (hb6.mono (by have := hbl.size; rw [HU.out] at this; exact this))
          have hzU : U ≤ wr.heap.size := by have := hbU.size; rw [HU.out] at this; exact this
          clear hsql hs14 HRM hfit hsm HT6 hb6
          go_upto_region 37 with (first
            | (go_at_call 11; refine hm.mono ?_; rintro e w7 ⟨v7, rfl, hI7, hb7⟩; obtain ⟨g7, c7, rfl, hi7, _⟩ := hI7.ins)
            | go_in)
          have hbU7 : Below U w w7 := hbU.trans (hb7.mono hzU)
          have HI7 : Hid (Ins w7 g7 (M.map Int.ofNat)) := hi7
          have HBU7 : Hid (Below U w w7) := hbU7
          have hml : (M.map Int.ofNat).length = N := by rw [List.length_map, hMl]
          have hget : ∀ i, i < N → (M.map Int.ofNat).getD i 0 = ((M.getD i 0 : Nat) : Int) := fun i hi => by
            have : i < M.length := by omega
            simp [this]
          clear hm hI7 hi7 hbU hb7 hbU7 hzU hbl
          go_wp2
          go_loopw [20, 21] (fun v i wx => ∃ k : Nat, k ≤ np ∧ i = .int .i64 k ∧ Prl wx w7.heap.size v (fA mq M k) ∧ Below w7.heap.size w7 wx) (fun _ i _ => np - (intOf i).toNat)
          case atStart => exact ⟨0, Nat.zero_le _, rfl, Prl.nil _ _, Below.refl _ _⟩
          case round =>
            obtain ⟨k, hk, rfl, hp, hb8⟩ := hrel
            by_cases hlt : k < np
            · obtain ⟨b7, o7, rfl, hat7⟩ := Ins.at (HI7.out.below hb8) (i := k) (by rw [hml]; omega)
              have hc7 := hat7 k (by rw [hml]; omega)
              rw [hget k (by omega)] at hc7
              have hm8 := hM8 k
              have hsu := fA_succ mq M k
              have hlen := fA_len mq M k
              obtain ⟨y, hy⟩ : ∃ y, M.getD k 0 = y := ⟨_, rfl⟩
              rw [hy] at hc7 hm8 hsu
              obtain ⟨L, hL⟩ : ∃ L, fA mq M k = L := ⟨_, rfl⟩
              rw [hL] at hsu hlen hp
              have HS : Hid (fA mq M (k + 1) = L ++ [((k : Int), if y < mq then (y : Int) else -1)]) := hsu
              have hz8 := hb8.size
              have KW : Hid (∀ x y : Int, Prl (wr.alloc (.cells #[.int .i64 x, .int .i64 y] 32)) w7.heap.size u20 L ∧ (wr.alloc (.cells #[.int .i64 x, .int .i64 y] 32)).cell? ⟨wr.heap.size, 0, none⟩ = some (.int .i64 x) ∧ (wr.alloc (.cells #[.int .i64 x, .int .i64 y] 32)).cell? ⟨wr.heap.size, 1, none⟩ = some (.int .i64 y) ∧ w7.heap.size ≤ (wr.alloc (.cells #[.int .i64 x, .int .i64 y] 32)).heap.size ∧ Below w7.heap.size w7 (wr.alloc (.cells #[.int .i64 x, .int .i64 y] 32))) := fun x y => by
                have a1 := heap_alloc_new wr (.cells #[.int .i64 x, .int .i64 y] 32)
                refine ⟨hp.later (below_alloc _ _), ?_, ?_, by simp; omega, hb8.trans ((below_alloc wr _).mono hz8)⟩
                · rw [Lib.cell_of_heap a1]; rfl
                · rw [Lib.cell_of_heap a1]; rfl
              have KO : Hid (∀ k, u20.ownBlock = some k → w7.heap.size ≤ k) := fun k hk => (hp.own k hk).1
              have hL8 : L.length ≤ 100000 := by omega
              clear hat7 hsu hL hy hp hb8
              by_cases hym : y < mq
              case' pos =>
                have hsu2 := HS.out
                rw [if_pos hym] at hsu2
                obtain ⟨k1, k2, k3, k4, k5⟩ := KW.out (k : Int) (y : Int)
              case' neg =>
                have hym2 : mq ≤ y := by omega
                have hsu2 := HS.out
                rw [if_neg hym] at hsu2
                obtain ⟨k1, k2, k3, k4, k5⟩ := KW.out (k : Int) (-1)
              all_goals
                have HS2 : Hid _ := hsu2
                clear HS KW hsu2
                go_wp2_with (first
                  | (at_builtin; refine append_pair rfl _ _ rfl w7.heap.size u20 L rfl k1 wr.heap.size _ _ rfl k2 k3 hL8 k4 ?_; intro v' w10 hP10 hg10)
                  | go_in)
                go_roundw
                case rel => exact ⟨k + 1, by omega, by go_num, by rw [HS2.out]; exact hP10, k5.grown hg10 k4 KO.out⟩
                case measure => simp [intOf]; omega
            · have hkn : k = np := by omega
              rw [hkn] at hp
              clear hkn
              go_wp2
              go_loopw [20, 23] (fun v i wx => ∃ k : Nat, k ≤ mq ∧ i = .int .i64 k ∧ Prl wx w7.heap.size v (fA mq M np ++ fB np mq M k) ∧ Below w7.heap.size w7 wx) (fun _ i _ => mq - (intOf i).toNat)
              case atStart => exact ⟨0, Nat.zero_le _, rfl, by rw [fB_zero, List.append_nil]; exact hp, hb8⟩
              case round =>
                clear hp hb8
                obtain ⟨l, hl, rfl, hp, hb8⟩ := hrel
                by_cases hlq : l < mq
                · go_wp2
                  go_loopw [20, 24] (fun v i wx => ∃ j : Nat, j ≤ mq ∧ i = .int .i64 ((np + j : Nat) : Int) ∧ Prl wx w7.heap.size v (fA mq M np ++ fB np mq M l ++ fC np M l j) ∧ Below w7.heap.size w7 wx) (fun _ i _ => N - (intOf i).toNat)
                  case atStart => exact ⟨0, Nat.zero_le _, rfl, by rw [fC_zero, List.append_nil]; exact hp, hb8⟩
                  case round =>
                    clear hp hb8
                    obtain ⟨j, hj, rfl, hp, hb8⟩ := hrel
                    obtain ⟨sj, hsj⟩ : ∃ sj, np + j = sj := ⟨_, rfl⟩
                    simp only [hsj]
                    by_cases hjq : j < mq
                    · have hsN : sj < N := by omega
                      obtain ⟨b7, o7, rfl, hat7⟩ := Ins.at (HI7.out.below hb8) (i := sj) (by rw [hml]; exact hsN)
                      have hc7 := hat7 sj (by rw [hml]; exact hsN)
                      rw [hget sj hsN] at hc7
                      have hm8 := hM8 sj
                      have hsu := fC_succ np M l j
                      rw [hsj] at hsu
                      have hlen : (fA mq M np ++ fB np mq M l ++ fC np M l j).length ≤ 100000 := by
                        have h1 := fA_len mq M np
                        have h2 := fB_len np mq M l
                        have h3 := fC_len np M l j
                        have h4 : l * mq ≤ 4 * 4 := Nat.mul_le_mul (by omega) h6
                        rw [List.length_append, List.length_append]
                        omega
                      obtain ⟨y, hy⟩ : ∃ y, M.getD sj 0 = y := ⟨_, rfl⟩
                      rw [hy] at hc7 hm8 hsu
                      have hsu3 : fA mq M np ++ fB np mq M l ++ fC np M l (j + 1) = (fA mq M np ++ fB np mq M l ++ fC np M l j) ++ if y = l then [((-1 : Int), (l : Int))] else [] := by rw [hsu, ← List.append_assoc]
                      obtain ⟨L, hL⟩ : ∃ L, fA mq M np ++ fB np mq M l ++ fC np M l j = L := ⟨_, rfl⟩
                      rw [hL] at hsu3 hlen hp
                      have HS : Hid (fA mq M np ++ fB np mq M l ++ fC np M l (j + 1) = L ++ if y = l then [((-1 : Int), (l : Int))] else []) := hsu3
                      have hz8 := hb8.size
                      have KW : Hid (Prl (wr.alloc (.cells #[.int .i64 (-1), .int .i64 l] 32)) w7.heap.size u20 L ∧ (wr.alloc (.cells #[.int .i64 (-1), .int .i64 l] 32)).cell? ⟨wr.heap.size, 0, none⟩ = some (.int .i64 (-1)) ∧ (wr.alloc (.cells #[.int .i64 (-1), .int .i64 l] 32)).cell? ⟨wr.heap.size, 1, none⟩ = some (.int .i64 l) ∧ w7.heap.size ≤ (wr.alloc (.cells #[.int .i64 (-1), .int .i64 l] 32)).heap.size ∧ Below w7.heap.size w7 (wr.alloc (.cells #[.int .i64 (-1), .int .i64 l] 32))) := by
                        have a1 := heap_alloc_new wr (.cells #[.int .i64 (-1), .int .i64 l] 32)
                        refine ⟨hp.later (below_alloc _ _), ?_, ?_, by simp; omega, hb8.trans ((below_alloc wr _).mono hz8)⟩
                        · rw [Lib.cell_of_heap a1]; rfl
                        · rw [Lib.cell_of_heap a1]; rfl
                      have KO : Hid (∀ k, u20.ownBlock = some k → w7.heap.size ≤ k) := fun k hk => (hp.own k hk).1
                      have HPP : Hid (Prl wr w7.heap.size u20 L ∧ Below w7.heap.size w7 wr) := ⟨hp, hb8⟩
                      have hnx : ((np + (j + 1) : Nat) : Int) = (sj : Int) + 1 := by omega
                      have HNX : Hid _ := hnx
                      clear hat7 hsu hsu3 hL hy hp hb8 hnx
                      by_cases hyl : y = l
                      · have hsu2 := HS.out
                        rw [if_pos hyl] at hsu2
                        have HS2 : Hid _ := hsu2
                        have hyl' : l = y := hyl.symm
                        subst hyl'
                        obtain ⟨k1, k2, k3, k4, k5⟩ := KW.out
                        clear HS KW hsu2 hyl HPP hsj
                        go_wp2_with (first
                          | (at_builtin; refine append_pair rfl _ _ rfl w7.heap.size u20 L rfl k1 wr.heap.size _ _ rfl k2 k3 hlen k4 ?_; intro v' w10 hP10 hg10)
                          | go_in)
                        go_roundw
                        case rel => exact ⟨j + 1, by omega, by rw [HNX.out], by rw [HS2.out]; exact hP10, k5.grown hg10 k4 KO.out⟩
                        case measure => simp [intOf]; omega
                      · have hsu2 := HS.out
                        rw [if_neg hyl, List.append_nil] at hsu2
                        have HS2 : Hid _ := hsu2
                        have hyl2 : ((y : Int) == (l : Int)) = false := by rw [beq_eq_false_iff_ne]; omega
                        clear HS KW hsu2 hyl
                        go_wp2
                        go_roundw
                        case rel => exact ⟨j + 1, by omega, by rw [HNX.out], by rw [HS2.out]; exact HPP.out.1, HPP.out.2⟩
                        case measure => simp [intOf]; omega
                    · have hjm : j = mq := by omega
                      rw [hjm, List.append_assoc, ← fB_succ] at hp
                      have hsN : N ≤ sj := by omega
                      have HPP : Hid _ := hp
                      clear hp
                      go_wp2
                      go_roundw
                      case rel => exact ⟨l + 1, by omega, by go_num, HPP.out, hb8⟩
                      case measure => simp [intOf]; omega
                · have hln : l = mq := by omega
                  rw [hln, ← rgo_parts] at hp
                  have hVV := HV2.out _ _ _ HBU7.out hp hb8
                  have HVV : Hid _ := hVV
                  clear hVV HV2 hp hb8 HI7 HBU7
                  go_wp2
                  go_ret2
                  exact HVV.out

end

end Go.Proofs.YtfmhapajdnmhoafGreatDoor
