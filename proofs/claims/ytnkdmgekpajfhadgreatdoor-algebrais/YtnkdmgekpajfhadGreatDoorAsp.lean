/-
  Walk of algebra.Split: a patch in pieces.
-/
import Derived.Test.YtnkdmgekpajfhadGreatDoorXz
import Derived.Test.YtnkdmgekpajfhadGreatDoorXbc
import Derived.Test.YtnkdmgekpajfhadGreatDoorXq

namespace Go.Proofs.YtnkdmgekpajfhadGreatDoor
open Go.RowKit Dist

/-- What Split answers. -/
def SpV (l : List Ch) (e : Ending) (w' : World) : Prop := ∃ x c, e = .returned (.tuple #[.slice x (spO l).length c, errV (spE l)]) ∧ Srs w' x (spO l) ∧ (spO l).length ≤ c

theorem SpV.bad {l : List Ch} {f : Int} (e : spE l = f) (hf : f ≠ 0) (w' : World) : SpV l (.returned (.tuple #[.slice none 0 0, .iface 23 (.int .i64 f)])) w' := by
  unfold SpV
  rw [spO_bad (by rw [e]; exact hf), e, errV_not hf]
  exact ⟨none, 0, rfl, Srs.nil _ _, Nat.le_refl _⟩

theorem SpV.ok {l : List Ch} {s : List Ch} (h0 : (kf l).2 = 0) (hs : spA l = s) (hf : spF s = 0) {x : Option Addr} {c : Nat} {w' : World} (h : Srs w' x (ones s)) (hc : s.length ≤ c) : SpV l (.returned (.tuple #[.slice x s.length c, .nilIface])) w' := by
  unfold SpV
  have e : spE l = 0 := by rw [spE_ok h0, hs]; exact hf
  have e2 : spO l = ones s := by rw [spO_ok e, hs]
  rw [e, e2]
  have e3 : (ones s).length = s.length := by unfold ones; rw [List.length_map]
  rw [e3]
  exact ⟨x, c, rfl, h, hc⟩

theorem Dist.kf_one_bad {d : Ch} (h : cOne d ≠ 0) : (kf [d]).2 = cOne d := by
  have e : cAt [d] 0 = cOne d := by unfold cAt; rw [if_pos (by exact h)]; rfl
  unfold kf
  rw [if_neg (by simp)]
  show (kfr [d] 1 0).2 = _
  rw [kfr, e, if_neg h]

/-- The fault of a piece is that of its hunk. -/
theorem Dist.pc_kf {c : Ch} (hc : cOne c = 0) {h : Hk} (hh : h ∈ c.2.2) : (kf [pc1 c h]).2 = (hf [hk1 h]).2 := by
  obtain ⟨c1, c2, c3, c4⟩ := cOne_zero hc
  have hne : c.2.2 ≠ [] := fun e => by rw [e] at hh; cases hh
  by_cases h1 : c.1 = 1
  · by_cases h0 : (hf [hk1 h]).2 = 0
    · rw [h0, kf_single]
      unfold cOne
      rw [if_neg (by show ¬ (c.1 < 1 ∨ 3 < c.1); omega), if_neg (fun x => x c2), if_neg (fun x => x h0)]
      have : shp (pc1 c h) = true := by unfold shp pc1; rw [if_pos h1]; rfl
      rw [if_pos this]
    · have e : cOne (pc1 c h) = (hf [hk1 h]).2 := by
        unfold cOne
        rw [if_neg (by show ¬ (c.1 < 1 ∨ 3 < c.1); omega), if_neg (fun x => x c2)]
        show (if (hf [hk1 h]).2 ≠ 0 then (hf [hk1 h]).2 else _) = _
        rw [if_pos h0]
      rw [kf_one_bad (by rw [e]; exact h0), e]
  · have e1 := pcC_self hc (.inl h1)
    rw [pcC_hunks hne] at e1
    have e2 : pc1 c h = c := by
      have : pc1 c h ∈ c.2.2.map (pc1 c) := List.mem_map.2 ⟨h, hh, rfl⟩
      rw [e1] at this
      exact List.mem_singleton.1 this
    rw [e2, kf_single hc]
    have e3 : c.2.2 = [hk1 h] := by
      have : (pc1 c h).2.2 = c.2.2 := by rw [e2]
      rw [← this]; rfl
    rw [← e3, c3]

set_option maxRecDepth 100000 in
set_option maxHeartbeats 4000000 in
theorem splitOfA (a : Option Addr) (l : List Ch) (ca : Nat) (w : World) (ha : Chs w a l) (hm : l.length ≤ maxLen) (hml : ∀ c ∈ l, c.2.2.length ≤ maxLen) (hms : ∀ c ∈ l, ∀ h ∈ c.2.2, h.2.2.length ≤ maxLen) :
    Calls Tryz.prog 18 #[.slice a l.length ca] w fun e w' => SpV l e w' ∧ Below w.heap.size w w' := by
  have hpf := patchCheck a l ca w ha hm hml hms
  obtain ⟨i0, hi0, hz0, hz1, hz2⟩ := info_parts Tryz.infoPatch
  have PB : Hid (∀ f w', spE l = f → f ≠ 0 → SpV l (.returned (.tuple #[.slice none 0 0, .iface 23 (.int .i64 f)])) w') := fun f w' e hf => SpV.bad e hf w'
  obtain ⟨n, hn⟩ : ∃ n, l.length = n := ⟨_, rfl⟩
  have HN : Hid (l.length = n) := hn
  rw [hn] at hpf ⊢
  obtain ⟨B, hB⟩ : ∃ B, w.heap.size = B := ⟨_, rfl⟩
  have HB : Hid (w.heap.size = B) := hB
  rw [hB] at hpf ⊢
  by_cases h0 : (kf l).2 = 0
  case' neg =>
    have HE : Hid (spE l = (kf l).2) := spE_bad h0
    rw [errV_not h0] at hpf
    obtain ⟨k0, hk0⟩ : ∃ k, (kf l).1 = k := ⟨_, rfl⟩
    obtain ⟨f, hf⟩ : ∃ k, (kf l).2 = k := ⟨_, rfl⟩
    rw [hk0, hf] at hpf
    rw [hf] at h0 HE
    have HF : Hid (f ≠ 0) := h0
    clear ha hm hml hms hn hB h0 hk0 hf
    go_enter Tryz.func18, Tryz.ntmps18
    go_wp2_with (go_at_call 25; refine hpf.mono ?_)
    rintro e w1 ⟨rfl, hb1⟩
    clear hpf
    go_wp2
    go_ret2
    exact ⟨PB.out _ _ HE.out HF.out, hb1⟩
  case' pos =>
    obtain ⟨k16, _, kone⟩ := kf_zero h0
    have H0 : Hid ((kf l).2 = 0) := h0
    have HA : Hid (Chs w a l) := ha
    have HMS : Hid (∀ c ∈ l, ∀ h ∈ c.2.2, h.2.2.length ≤ maxLen) := hms
    have HONE : Hid (∀ c ∈ l, cOne c = 0) := kone
    have HSM : Hid (∀ c ∈ l, c.2.2.length ≤ 60) := fun c hc => (hf_zero (cOne_zero (kone c hc)).2.2.1).1
    rw [hn] at k16
    rw [h0, errV_zero] at hpf
    obtain ⟨k0, hk0⟩ : ∃ k, (kf l).1 = k := ⟨_, rfl⟩
    rw [hk0] at hpf
    clear ha hm hml hms hn hB h0 hk0 kone
    go_enter Tryz.func18, Tryz.ntmps18
    go_wp2_with (go_at_call 25; refine hpf.mono ?_)
    rintro e w1 ⟨rfl, hb1⟩
    obtain ⟨R, hR⟩ : ∃ R, w1.heap.size = R := ⟨_, rfl⟩
    have HR : Hid (w1.heap.size = R) := hR
    have HB1 : Hid (Below B w w1) := hb1
    have hBR : B ≤ R := by have := hb1.size; have := HB.out; omega
    clear hpf hb1 hR
    go_wp2
    go_loopw [6, 23] (fun v i wr => ∃ k : Nat, k ≤ n ∧ i = .int .i64 k ∧ SOwn wr R v (ones (spA (l.take k))) ∧ Below R w1 wr ∧ spF (spA (l.take k)) = 0) (fun _ i _ => n - (intOf i).toNat)
    case atStart => exact ⟨0, Nat.zero_le _, rfl, SOwn.zero _ _, Below.refl _ _, rfl⟩
    case round =>
      obtain ⟨k, hk, rfl, hso, hbl, hsf⟩ := hrel
      have HSO : Hid (SOwn wr R u6 (ones (spA (l.take k)))) := hso
      have HSF : Hid (spF (spA (l.take k)) = 0) := hsf
      have HBL : Hid (Below R w1 wr) := hbl
      obtain ⟨va, vn, vc, rfl⟩ := hso.slc
      clear hso hbl hsf
      by_cases hlt : k < n
      case' neg =>
        obtain rfl : k = n := by omega
        have hso := HSO.out
        rw [List.take_of_length_le (by rw [HN.out]; exact Nat.le_refl _)] at hso
        have hsf := HSF.out
        rw [List.take_of_length_le (by rw [HN.out]; exact Nat.le_refl _)] at hsf
        obtain ⟨x, c, e, hsr, hcap⟩ := hso.srs
        rw [ones_len] at e hcap
        simp only [Value.slice.injEq] at e
        obtain ⟨rfl, rfl, rfl⟩ := e
        have HP := SpV.ok H0.out rfl hsf hsr hcap
        have HPP : Hid (SpV l (.returned (.tuple #[.slice va (spA l).length vc, .nilIface])) wr) := HP
        have HBE : Hid (Below B w wr) := HB1.out.trans (HBL.out.mono hBR)
        obtain ⟨z, hz⟩ : ∃ z, (spA l).length = z := ⟨_, rfl⟩
        rw [hz] at HPP ⊢
        clear hso hsf hsr hcap HP hz
        go_wp2
        go_ret2
        exact ⟨HPP.out, HBE.out⟩
      have ha := HA.out.below (w' := w1) (by rw [HB.out]; exact HB1.out)
      have hkl : k < l.length := by rw [HN.out]; exact hlt
      obtain ⟨b, off, rfl⟩ := ha.addr hkl
      obtain ⟨ah, ch, hc0, hc1, hc2, hks, hcap⟩ := ha.at hkl
      have HC0 : Hid (w1.cell? ⟨b, off + k * 3, none⟩ = some (.int .i64 (l.getD k cz).1)) := hc0
      have HC1 : Hid (w1.cell? ⟨b, off + k * 3 + 1, none⟩ = some (.string (l.getD k cz).2.1)) := hc1
      have HC2 : Hid (w1.cell? ⟨b, off + k * 3 + 2, none⟩ = some (.slice ah (l.getD k cz).2.2.length ch)) := hc2
      have HKS : Hid (Hks w1 ah (l.getD k cz).2.2) := hks
      have hmem := mem_getDc hkl
      have HCO : Hid (cOne (l.getD k cz) = 0) := HONE.out _ hmem
      have h60 := HSM.out _ hmem
      have HM2 : Hid (∀ h ∈ (l.getD k cz).2.2, h.2.2.length ≤ maxLen) := HMS.out _ hmem
      have HAT : Hid (∀ j, j < (l.getD k cz).2.2.length → spF (spA (l.take k) ++ ((l.getD k cz).2.2.take j).map (pc1 (l.getD k cz))) = 0 → (kf [pc1 (l.getD k cz) ((l.getD k cz).2.2.getD j (0, 0, []))]).2 ≠ 0 → spE l = (kf [pc1 (l.getD k cz) ((l.getD k cz).2.2.getD j (0, 0, []))]).2) := fun j hj h1 h2 => spE_at H0.out hkl hj h1 h2
      have HNX : Hid (spA (l.take (k + 1)) = spA (l.take k) ++ pcC (l.getD k cz)) := spA_next hkl
      have hlen : (spA (l.take k)).length ≤ 960 := by
        have := spA_len (l := l.take k) (fun c hc => HSM.out c (List.mem_of_mem_take hc))
        rw [List.length_take] at this
        omega
      obtain ⟨c, hcc⟩ : ∃ c, l.getD k cz = c := ⟨_, rfl⟩
      rw [hcc] at HC0 HC1 HC2 HKS HCO h60 HM2 HAT HNX hcap
      obtain ⟨S, hS⟩ : ∃ S, spA (l.take k) = S := ⟨_, rfl⟩
      rw [hS] at HSO HSF HAT HNX hlen
      have hpp : c.2.1.size ≤ 100 := by have := pf_zero (cOne_zero HCO.out).2.1; rw [Lib.size_eq]; omega
      have HGD : Hid (∀ h ∈ c.2.2, sf h.2.2 = 0) := fun h hh => ((hf_good (cOne_zero HCO.out).2.2.1).2.2 h hh).1
      have HPK : Hid (∀ h ∈ c.2.2, (kf [pc1 c h]).2 = (hf [hk1 h]).2) := fun h hh => pc_kf HCO.out hh
      obtain ⟨wh, hwh⟩ : ∃ x, c.1 = x := ⟨_, rfl⟩
      obtain ⟨p, hp⟩ : ∃ x, c.2.1 = x := ⟨_, rfl⟩
      obtain ⟨hs, hhs⟩ : ∃ x, c.2.2 = x := ⟨_, rfl⟩
      have HCE : Hid (c = (wh, p, hs)) := by show c = (wh, p, hs); rw [← hwh, ← hp, ← hhs]
      rw [hwh] at HC0
      rw [hp] at HC1 hpp
      rw [hhs] at HC2 HKS h60 HM2 HAT hcap HGD HPK
      obtain ⟨q, hq⟩ : ∃ q, hs.length = q := ⟨_, rfl⟩
      have HQ : Hid (hs.length = q) := hq
      rw [hq] at HC2 h60 HAT hcap
      have hbw : Below w1.heap.size w1 wr := by rw [HR.out]; exact HBL.out
      have d0 := cell_later hbw HC0.out
      have d1 := cell_later hbw HC1.out
      have d2 := cell_later hbw HC2.out
      have hRw : R ≤ wr.heap.size := by have := hbw.size; have := HR.out; omega
      clear ha hc0 hc1 hc2 hks hmem hkl hcc hS hwh hp hhs hq hbw
      obtain ⟨Bc, hBc⟩ : ∃ B, wr.heap.size = B := ⟨_, rfl⟩
      have HBC : Hid (wr.heap.size = Bc) := hBc
      have hblkc := heap_alloc_new wr (.cells #[.int .i64 wh, .string p, .slice ah q ch] 40)
      have hbc := below_alloc wr (.cells #[.int .i64 wh, .string p, .slice ah q ch] 40)
      have hszc : (wr.alloc (.cells #[.int .i64 wh, .string p, .slice ah q ch] 40)).heap.size = wr.heap.size + 1 := by simp
      rw [hBc] at hblkc hbc hszc
      have HNB : Hid ((Value.slice va vn vc).ownBlock ≠ some Bc) := fun e => by
        obtain ⟨xs0, ho0, _⟩ := HSO.out
        have := (ho0.lt Bc e).2
        omega
      have HSOC : Hid (SOwn (wr.alloc (.cells #[.int .i64 wh, .string p, .slice ah q ch] 40)) R (.slice va vn vc) (ones S)) := HSO.out.below (below_alloc wr _)
      have HBLC : Hid (Below R w1 (wr.alloc (.cells #[.int .i64 wh, .string p, .slice ah q ch] 40))) := HBL.out.trans ((below_alloc wr (.cells #[.int .i64 wh, .string p, .slice ah q ch] 40)).mono hRw)
      have HLT : Hid (∀ x, (Value.slice va vn vc).ownBlock = some x → R ≤ x ∧ x < Bc) := fun x e => by
        obtain ⟨xs0, ho0, _⟩ := HSO.out
        have := ho0.lt x e
        omega
      have hRB : R ≤ Bc := by omega
      have HCN : Hid ((wr.alloc (.cells #[.int .i64 wh, .string p, .slice ah q ch] 40)).heap[Bc]? = some (.cells #[.int .i64 wh, .string p, .slice ah q ch] 40 (0, 0))) := hblkc
      have HSZC : Hid ((wr.alloc (.cells #[.int .i64 wh, .string p, .slice ah q ch] 40)).heap.size = Bc + 1) := hszc
      have hcA : ∀ f o, (wr.alloc (.cells #[.int .i64 wh, .string p, .slice ah q ch] 40)).heap[Bc]? = some (.cells #[.int .i64 wh, .string p, .slice ah q ch] f o) → True := fun _ _ _ => trivial
      clear hBc hblkc hbc hszc hcA HSO
      by_cases hq0 : q = 0
      case' pos =>
        have hqz : ((q : Int) == 0) = true := by rw [hq0]; rfl
        have HQ0 : Hid (q = 0) := hq0
        clear hq0
        go_wp2_with fail
        rw [HBC.out]
        have hc0 := HCN.out
        have hs0 := HSZC.out
        have HSO2 := HSOC.out
        have HBL2 := HBLC.out
        generalize wr.alloc (.cells #[.int .i64 wh, .string p, .slice ah q ch] 40) = Wc at hc0 hs0 HSO2 HBL2 ⊢
        have HSO2 : Hid (SOwn Wc R (.slice va vn vc) (ones S)) := HSO2
        have HBL2 : Hid (Below R w1 Wc) := HBL2
        have HC0 : Hid (Wc.heap[Bc]? = _) := hc0
        have HS0 : Hid (Wc.heap.size = Bc + 1) := hs0
        have hal := aloneOf wh p (.slice ah q ch) none 0 0 Wc hpp
        clear hc0 hs0 d0 d1 d2
        go_wp2_with (go_at_call 46; refine hal.mono ?_)
        rintro e w3 ⟨D, rfl, hD, hb3, hh3⟩
        have hbW : Below Wc.heap.size Wc (w3.alloc (.cells #[.slice (some ⟨D, 0, none⟩) 1 1] 22)) := hb3.alloc hb3.size _
        have hsz3 := hb3.size
        have hDlt : D < w3.heap.size := by
          by_cases e : D < w3.heap.size
          · exact e
          · rw [Array.getElem?_eq_none (by omega)] at hh3; cases hh3
        have hD7 := blk_below (below_alloc w3 (.cells #[.slice (some ⟨D, 0, none⟩) 1 1] 22)) hDlt hh3
        have HCW : Hid ((w3.alloc (.cells #[.slice (some ⟨D, 0, none⟩) 1 1] 22)).heap[Bc]? = _) := blk_below hbW (by rw [HS0.out]; omega) HC0.out
        have HRW : Hid (Below R w1 (w3.alloc (.cells #[.slice (some ⟨D, 0, none⟩) 1 1] 22))) := HBL2.out.trans (hbW.mono (by rw [HS0.out]; omega))
        have hhs0 : hs = [] := List.length_eq_zero_iff.1 (by rw [HQ.out]; exact HQ0.out)
        have HST : Hid (∀ w2, Gr (w3.alloc (.cells #[.slice (some ⟨D, 0, none⟩) 1 1] 22)) w2 (Value.slice va vn vc).ownBlock → Chs w2 (some ⟨D, 0, none⟩) [c]) := fun w2 hg => by
          rw [HCE.out, hhs0]
          refine piece_stays (ah := none) (hs := []) (ch := 0) HR.out HRW.out (fun x e => ?_) hD7 (Hks.nil _ _) (Nat.le_refl _) hg
          have := HLT.out x e
          rw [HS0.out] at hD
          omega
        have hdo := HSO2.out.below hbW
        obtain ⟨xs, hown, hcv⟩ := hdo
        have HCV := hcv
        have hc3 := cell_one_new w3 (.slice (some ⟨D, 0, none⟩) 1 1) 22
        have hol : (ones S).length ≤ 960 := by rw [ones_len]; exact hlen
        have hRw3 : R ≤ w3.heap.size := by rw [HS0.out] at hsz3; omega
        have hBw3 : Bc < w3.heap.size := by rw [HS0.out] at hsz3; omega
        clear hal hD hb3 hh3 hbW hDlt hD7 hcv hsz3 hhs0
        go_wp2_with (at_builtin; refine wpList_append_own_at _ rfl _ _ 46 rfl R 22 i0 (.slice none 0 0) 1 24 Tryz.underlying46 hi0 hz0 hz1 hz2 rfl (by decide) _ _ _ rfl hown ⟨w3.heap.size, 0, none⟩ 1 1 [.slice (some ⟨D, 0, none⟩) 1 1] rfl rfl hc3 (fun x hx => by simp at hx; rw [hx]; rfl) (by unfold maxLen; omega) (by omega) (by simp; omega) ?_; intro v' w6 hown6 hgrow6 hnil6 hblk6; have hc6 := (Gr.of_grown hgrow6 (.inl rfl) (Gr.refl w6 _)).block HCW.out HNB.out; have e2 := Lib.cell_of_heap hc6 2; simp at e2)
        have hs6 : SOwn w6 R v' (ones (S ++ [c])) := by
          rw [ones_snoc]
          exact SOwn.snoc (p := [c]) hown HCV hown6 hgrow6 hblk6 (by simp) HST.out
        have hb6 : Below R w1 w6 := HRW.out.grown hgrow6 (by simp; omega) (fun j hj => (hown.lt j hj).1)
        have hf6 : spF (S ++ [c]) = 0 := spF_snoc HSF.out (by rw [kf_single HCO.out])
        have hhs : hs = [] := List.length_eq_zero_iff.1 (by rw [HQ.out]; exact HQ0.out)
        have hend : spA (l.take (k + 1)) = (S ++ [c]) ++ hs.map (pc1 c) := by
          rw [HNX.out, pcC_none (by rw [HCE.out]; exact hhs), hhs]; simp
        have hnb : v'.ownBlock ≠ some Bc := by
          rcases hblk6 with e | e
          · rw [e]; exact HNB.out
          · rw [e, World.size_alloc]; intro e; have := Option.some.inj e; omega
        obtain ⟨S0, hS0⟩ : ∃ x, S ++ [c] = x := ⟨_, rfl⟩
        rw [hS0] at hs6 hf6 hend
        have hat : ∀ j, j < q → spF (S0 ++ (hs.take j).map (pc1 c)) = 0 → (kf [pc1 c (hs.getD j (0, 0, []))]).2 ≠ 0 → spE l = (kf [pc1 c (hs.getD j (0, 0, []))]).2 := fun j hj => absurd hj (by have := HQ0.out; omega)
        have hl6 : S0.length ≤ 961 := by rw [← hS0, List.length_append]; simp; omega
        clear hown HCV HST hc3 hol hown6 hgrow6 hnil6 hblk6 hS0 hhs HRW hlen hRw3 hBw3 HSO2 HBL2 HC0 HS0 HCW hqz
      case' neg =>
        have hqz : ((q : Int) == 0) = false := by simpa using hq0
        have hs6 := HSOC.out
        have hb6 := HBLC.out
        have hf6 := HSF.out
        have hc6 := HCN.out
        have hnb := HNB.out
        have hend : spA (l.take (k + 1)) = S ++ hs.map (pc1 c) := by
          rw [HNX.out, pcC_hunks (by rw [HCE.out]; intro e; have e : hs = [] := e; rw [← HQ.out] at hq0; exact hq0 (by rw [e]; rfl)), HCE.out]
        have hat := HAT.out
        have hl6 : S.length ≤ 961 := by omega
        obtain ⟨S0, hS0⟩ : ∃ x, S = x := ⟨_, rfl⟩
        rw [hS0] at hs6 hf6 hend hat hl6
        obtain ⟨v', hv'⟩ : ∃ x, Value.slice va vn vc = x := ⟨_, rfl⟩
        rw [hv'] at hs6 hnb ⊢
        clear hS0 hlen hv' hq0
        go_wp2_with fail
        rw [HBC.out]
        generalize wr.alloc (.cells #[.int .i64 wh, .string p, .slice ah q ch] 40) = w6 at hs6 hb6 hc6 ⊢
        clear d0 d1 d2 hqz
      all_goals
        have HEND : Hid (spA (l.take (k + 1)) = S0 ++ hs.map (pc1 c)) := hend
        have HATJ : Hid (∀ j, j < q → spF (S0 ++ (hs.take j).map (pc1 c)) = 0 → (kf [pc1 c (hs.getD j (0, 0, []))]).2 ≠ 0 → spE l = (kf [pc1 c (hs.getD j (0, 0, []))]).2) := hat
        have HL6 : Hid (S0.length ≤ 961) := hl6
        have HS6 : Hid (SOwn w6 R v' (ones S0)) := hs6
        have HB6 : Hid (Below R w1 w6) := hb6
        have HF6 : Hid (spF S0 = 0) := hf6
        have HNBZ : Hid (v'.ownBlock ≠ some Bc) := hnb
        have HC6 : Hid (w6.heap[Bc]? = some (.cells #[.int .i64 wh, .string p, .slice ah q ch] 40 (0, 0))) := hc6
        clear hend hat hl6 HSOC HSF HNX HAT HBL HBLC HNB HLT HCN HSZC hs6 hb6 hf6 hnb hc6
        go_loopw [6, 39] (fun v i wx => ∃ j : Nat, j ≤ q ∧ i = .int .i64 j ∧ SOwn wx R v (ones (S0 ++ (hs.take j).map (pc1 c))) ∧ Below R w1 wx ∧ spF (S0 ++ (hs.take j).map (pc1 c)) = 0 ∧ v.ownBlock ≠ some Bc ∧ wx.heap[Bc]? = some (.cells #[.int .i64 wh, .string p, .slice ah q ch] 40 (0, 0))) (fun _ i _ => q - (intOf i).toNat)
        case atStart => exact ⟨0, Nat.zero_le _, rfl, by simpa using HS6.out, HB6.out, by simpa using HF6.out, HNBZ.out, HC6.out⟩
        case round =>
          obtain ⟨j, hj, rfl, hso, hbl, hsf, hnb, hcell⟩ := hrel
          obtain ⟨xa, xn, xc, rfl⟩ := hso.slc
          clear HS6 HB6 HF6 HNBZ HC6
          by_cases hjq : j < q
          case' neg =>
            obtain rfl : j = q := by omega
            rw [List.take_of_length_le (by rw [HQ.out]; exact Nat.le_refl _), ← HEND.out] at hso hsf
            have HSO : Hid (SOwn wr R (.slice xa xn xc) (ones (spA (l.take (k + 1))))) := hso
            have HSF : Hid (spF (spA (l.take (k + 1))) = 0) := hsf
            have HBL : Hid (Below R w1 wr) := hbl
            clear hso hsf hbl hnb hcell
            go_wp2
            go_roundw
            case rel => exact ⟨k + 1, by omega, by go_num, HSO.out, HBL.out, HSF.out⟩
            case measure => simp [intOf]; omega
          case' pos =>
            obtain ⟨b1, off1, am, cm, e1, g0, g1, g2, gm, gc⟩ := HKS.out j (by rw [HQ.out]; exact hjq)
            subst e1
            have hbw : Below w1.heap.size w1 wr := by rw [HR.out]; exact hbl
            replace g0 := cell_later hbw g0
            replace g1 := cell_later hbw g1
            replace g2 := cell_later hbw g2
            have hmem : hs.getD j (0, 0, []) ∈ hs := mem_getD3 (by rw [HQ.out]; exact hjq)
            have hsm := HGD.out _ hmem
            have HPF : Hid ((kf [pc1 c (hs.getD j (0, 0, []))]).2 = (hf [hk1 (hs.getD j (0, 0, []))]).2) := HPK.out _ hmem
            have HBAD : Hid ((kf [pc1 c (hs.getD j (0, 0, []))]).2 ≠ 0 → spE l = (kf [pc1 c (hs.getD j (0, 0, []))]).2) := HATJ.out j hjq hsf
            have HTK : Hid (hs.take (j + 1) = hs.take j ++ [hs.getD j (0, 0, [])]) := take_hk (by rw [HQ.out]; exact hjq)
            obtain ⟨h, hh⟩ : ∃ h, hs.getD j (0, 0, []) = h := ⟨_, rfl⟩
            rw [hh] at g0 g1 g2 gm gc hsm HPF HBAD HTK
            obtain ⟨ho, hho⟩ : ∃ x, h.1 = x := ⟨_, rfl⟩
            obtain ⟨hn, hhn⟩ : ∃ x, h.2.1 = x := ⟨_, rfl⟩
            obtain ⟨ms, hms⟩ : ∃ x, h.2.2 = x := ⟨_, rfl⟩
            have HPC : Hid (pc1 c h = (wh, p, [(hn, hn, ms)])) := by show pc1 c h = (wh, p, [(hn, hn, ms)]); rw [HCE.out, ← hhn, ← hms]; rfl
            have HK1 : Hid (hk1 h = (hn, hn, ms)) := by show hk1 h = (hn, hn, ms); rw [← hhn, ← hms]; rfl
            rw [hho] at g0
            rw [hhn] at g1
            rw [hms] at g2 gm gc hsm
            obtain ⟨z, hz⟩ : ∃ x, ms.length = x := ⟨_, rfl⟩
            have HZ : Hid (ms.length = z) := hz
            have hba := below_alloc wr (.cells #[.int .i64 ho, .int .i64 hn, .slice am ms.length cm] 57)
            have hpk := placeOf ho hn am ms cm hn _ ((gm.below hbw).below hba) hsm
            have HFV : Hid ((kf [pc1 c h]).2 = (hf [(hn, hn, ms)]).2) := by show (kf [pc1 c h]).2 = _; rw [HPF.out, HK1.out]
            have hlt1 : ∀ x, (Value.slice xa xn xc).ownBlock = some x → R ≤ x ∧ x < wr.heap.size := fun x e => by
              obtain ⟨xs0, ho0, _⟩ := hso
              exact ho0.lt x e
            have hBlt : Bc < wr.heap.size := by
              by_cases e : Bc < wr.heap.size
              · exact e
              · rw [Array.getElem?_eq_none (by omega)] at hcell; cases hcell
            have hsa : (wr.alloc (.cells #[.int .i64 ho, .int .i64 hn, .slice am ms.length cm] 57)).heap.size = wr.heap.size + 1 := by simp
            rw [hz] at g2 hba hpk hsa
            have HSO : Hid (SOwn wr R (.slice xa xn xc) (ones (S0 ++ (hs.take j).map (pc1 c)))) := hso
            have HSF : Hid (spF (S0 ++ (hs.take j).map (pc1 c)) = 0) := hsf
            have HBL : Hid (Below R w1 wr) := hbl
            have HNB : Hid ((Value.slice xa xn xc).ownBlock ≠ some Bc) := hnb
            have HCB : Hid (wr.heap[Bc]? = some (.cells #[.int .i64 wh, .string p, .slice (some ⟨b1, off1, none⟩) q ch] 40 (0, 0))) := hcell
            have HLT : Hid (∀ x, (Value.slice xa xn xc).ownBlock = some x → R ≤ x ∧ x < wr.heap.size) := hlt1
            have HBA : Hid (Below wr.heap.size wr (wr.alloc (.cells #[.int .i64 ho, .int .i64 hn, .slice am z cm] 57))) := hba
            have HSA : Hid ((wr.alloc (.cells #[.int .i64 ho, .int .i64 hn, .slice am z cm] 57)).heap.size = wr.heap.size + 1) := hsa
            have HBT : Hid (Bc < wr.heap.size) := hBlt
            have hRw2 : R ≤ wr.heap.size := by have := hbw.size; rw [HR.out] at this; exact this
            have HRw2 : Hid (R ≤ wr.heap.size) := hRw2
            clear hso hsf hbl hnb hcell hbw gm gc hmem hh hho hhn hms hz hsm hba hlt1 hBlt hsa hRw2
            by_cases hf0 : (hf [(hn, hn, ms)]).2 = 0
            case' neg =>
              have HE : Hid (spE l = (hf [(hn, hn, ms)]).2) := by show spE l = _; rw [← HFV.out]; exact HBAD.out (by rw [HFV.out]; exact hf0)
              rw [plO_bad hf0, errV_not hf0] at hpk
              obtain ⟨F, hF⟩ : ∃ F, (hf [(hn, hn, ms)]).2 = F := ⟨_, rfl⟩
              rw [hF] at hpk HE hf0
              have HF : Hid (F ≠ 0) := hf0
              clear hf0 hF
              go_wp2_with (go_at_call 47; refine hpk.mono ?_)
              first | rintro e w3 x cx rfl mx hcx fx hb3 | rintro e w3 ⟨x, cx, rfl, mx, hcx, fx, hb3⟩
              have hb4 : Below wr.heap.size wr w3 := HBA.out.trans (hb3.mono (by rw [HSA.out]; omega))
              have hb5 : Below B w w3 := HB1.out.trans ((HBL.out.trans (hb4.mono HRw2.out)).mono hBR)
              have HBE : Hid (∀ o, Below B w (w3.alloc o)) := fun o => hb5.alloc (by rw [← HB.out]; exact hb5.size) _
              clear hpk mx hcx fx hb3 hb4 hb5 g0 g1 g2
              go_wp2
              go_ret2
              exact ⟨PB.out _ _ HE.out HF.out, HBE.out _⟩
            case' pos =>
              rw [plO_ok hf0, hf0, errV_zero] at hpk
              have HF0 : Hid ((kf [pc1 c h]).2 = 0) := by show (kf [pc1 c h]).2 = 0; rw [HFV.out]; exact hf0
              replace hpk : Calls Tryz.prog 47 #[.agg #[.int .i64 ho, .int .i64 hn, .slice am z cm], .int .i64 hn] (wr.alloc (.cells #[.int .i64 ho, .int .i64 hn, .slice am z cm] 57)) fun e w' => ∃ x c, e = .returned (.tuple #[.agg #[.int .i64 hn, .int .i64 hn, .slice x z c], .nilIface]) ∧ Mks w' x ms ∧ ms.length ≤ c ∧ Fsh (wr.alloc (.cells #[.int .i64 ho, .int .i64 hn, .slice am z cm] 57)).heap.size x ∧ Below (wr.alloc (.cells #[.int .i64 ho, .int .i64 hn, .slice am z cm] 57)).heap.size (wr.alloc (.cells #[.int .i64 ho, .int .i64 hn, .slice am z cm] 57)) w' := hpk.mono fun e w' ⟨x, c, he, h1, h2, h3, h4⟩ => ⟨x, c, by rw [he, ← HZ.out], h1, h2, h3, h4⟩
              clear hf0
              go_wp2_with (go_at_call 47; refine hpk.mono ?_)
              first | rintro e w3 x cx rfl mx hcx fx hb3 | rintro e w3 ⟨x, cx, rfl, mx, hcx, fx, hb3⟩
              have hb4 : Below wr.heap.size wr w3 := HBA.out.trans (hb3.mono (by rw [HSA.out]; omega))
              have hc3 : w3.heap[Bc]? = _ := blk_below hb4 HBT.out HCB.out
              have hb5 := below_alloc w3 (.cells #[.int .i64 hn, .int .i64 hn, .slice x z cx] 57)
              have hb6 := below_alloc (w3.alloc (.cells #[.int .i64 hn, .int .i64 hn, .slice x z cx] 57)) (.cells #[.int .i64 hn, .int .i64 hn, .slice x z cx] 57)
              have hcl : w3.heap.size ≤ w3.heap.size := Nat.le_refl _
              have hBw : Bc < w3.heap.size := by have := hb4.size; have := HBT.out; omega
              have hc4 := blk_below hb5 hBw hc3
              have e0 := Lib.cell_of_heap hc4 0
              have e1 := Lib.cell_of_heap hc4 1
              have e2 := Lib.cell_of_heap hc4 2
              simp at e0 e1 e2
              have hal := aloneOf wh p (.slice (some ⟨b1, off1, none⟩) q ch) (some ⟨w3.heap.size + 1, 0, none⟩) 1 1 ((w3.alloc (.cells #[.int .i64 hn, .int .i64 hn, .slice x z cx] 57)).alloc (.cells #[.int .i64 hn, .int .i64 hn, .slice x z cx] 57)) hpp
              have hH := heap_alloc_new (w3.alloc (.cells #[.int .i64 hn, .int .i64 hn, .slice x z cx] 57)) (.cells #[.int .i64 hn, .int .i64 hn, .slice x z cx] 57)
              rw [World.size_alloc] at hH
              have hs5 : ((w3.alloc (.cells #[.int .i64 hn, .int .i64 hn, .slice x z cx] 57)).alloc (.cells #[.int .i64 hn, .int .i64 hn, .slice x z cx] 57)).heap.size = w3.heap.size + 1 + 1 := by simp
              have HMX : Hid (Mks ((w3.alloc (.cells #[.int .i64 hn, .int .i64 hn, .slice x z cx] 57)).alloc (.cells #[.int .i64 hn, .int .i64 hn, .slice x z cx] 57)) x ms) := (mx.below hb5).below hb6
              have HFX : Hid (Fsh (wr.alloc (.cells #[.int .i64 ho, .int .i64 hn, .slice am z cm] 57)).heap.size x) := fx
              have HCX : Hid (ms.length ≤ cx) := hcx
              have HH : Hid (((w3.alloc (.cells #[.int .i64 hn, .int .i64 hn, .slice x z cx] 57)).alloc (.cells #[.int .i64 hn, .int .i64 hn, .slice x z cx] 57)).heap[w3.heap.size + 1]? = some (.cells #[.int .i64 hn, .int .i64 hn, .slice x z cx] 57 (0, 0))) := hH
              have HC5 : Hid (((w3.alloc (.cells #[.int .i64 hn, .int .i64 hn, .slice x z cx] 57)).alloc (.cells #[.int .i64 hn, .int .i64 hn, .slice x z cx] 57)).heap[Bc]? = _) := blk_below hb6 (by rw [World.size_alloc]; omega) hc4
              have HB5 : Hid (Below wr.heap.size wr ((w3.alloc (.cells #[.int .i64 hn, .int .i64 hn, .slice x z cx] 57)).alloc (.cells #[.int .i64 hn, .int .i64 hn, .slice x z cx] 57))) := hb4.trans ((hb5.trans (hb6.mono hb5.size)).mono hb4.size)
              have HS5 : Hid (((w3.alloc (.cells #[.int .i64 hn, .int .i64 hn, .slice x z cx] 57)).alloc (.cells #[.int .i64 hn, .int .i64 hn, .slice x z cx] 57)).heap.size = w3.heap.size + 1 + 1) := hs5
              have HW3 : Hid (wr.heap.size + 1 ≤ w3.heap.size) := by have := hb3.size; rw [HSA.out] at this; exact this
              clear hpk mx hcx fx hb3 hb4 hb5 hb6 hc3 hc4 hcl hH hs5 g0 g1 g2 hBw
              go_wp2_with (go_at_call 46; refine hal.mono ?_)
              rintro e w5 ⟨D, rfl, hD, hb7, hh7⟩
              have hsz7 := hb7.size
              rw [HS5.out] at hsz7 hD
              have hDlt : D < w5.heap.size := by
                by_cases e : D < w5.heap.size
                · exact e
                · rw [Array.getElem?_eq_none (by omega)] at hh7; cases hh7
              have hb8 := below_alloc w5 (.cells #[.slice (some ⟨D, 0, none⟩) 1 1] 22)
              have hD7 := blk_below hb8 hDlt hh7
              have hbx := hb7.trans (hb8.mono hb7.size)
              have hH7 := blk_below hbx (by rw [HS5.out]; omega) HH.out
              have hw3 := HW3.out
              have HCW : Hid ((w5.alloc (.cells #[.slice (some ⟨D, 0, none⟩) 1 1] 22)).heap[Bc]? = _) := blk_below hbx (by rw [HS5.out]; have := HBT.out; omega) HC5.out
              have hbW : Below wr.heap.size wr (w5.alloc (.cells #[.slice (some ⟨D, 0, none⟩) 1 1] 22)) := HB5.out.trans (hbx.mono HB5.out.size)
              have HRW : Hid (Below R w1 (w5.alloc (.cells #[.slice (some ⟨D, 0, none⟩) 1 1] 22))) := HBL.out.trans (hbW.mono HRw2.out)
              have hMX := HMX.out.below hbx
              rw [← HZ.out] at hH7
              have HST : Hid (∀ w2, Gr (w5.alloc (.cells #[.slice (some ⟨D, 0, none⟩) 1 1] 22)) w2 (Value.slice xa xn xc).ownBlock → Chs w2 (some ⟨D, 0, none⟩) [pc1 c h]) := fun w2 hg => by
                rw [HPC.out]
                refine chs_block (hg.block hD7 (fun e => by have := HLT.out _ e; omega)) ?_ (by simp)
                exact hks_block (hg.block hH7 (fun e => by have := HLT.out _ e; omega)) (hMX.fsh HFX.out hg (fun g e => by have := HLT.out _ e; rw [HSA.out]; omega)) HCX.out
              have hdo := HSO.out.below hbW
              obtain ⟨xs, hown, hcv⟩ := hdo
              have HCV := hcv
              have hc3 := cell_one_new w5 (.slice (some ⟨D, 0, none⟩) 1 1) 22
              have hol : (ones (S0 ++ (hs.take j).map (pc1 c))).length ≤ 2000 := by
                rw [ones_len, List.length_append, List.length_map, List.length_take]
                have := HL6.out
                omega
              have hRw3 : R ≤ w5.heap.size := by have := HRw2.out; omega
              have hBw3 : Bc < w5.heap.size := by have := HBT.out; omega
              clear hal hD hb7 hh7 hDlt hb8 hD7 hbx hH7 hbW hcv hMX hsz7 e0 e1 e2
              go_wp2_with (at_builtin; refine wpList_append_own_at _ rfl _ _ 46 rfl R 22 i0 (.slice none 0 0) 1 24 Tryz.underlying46 hi0 hz0 hz1 hz2 rfl (by decide) _ _ _ rfl hown ⟨w5.heap.size, 0, none⟩ 1 1 [.slice (some ⟨D, 0, none⟩) 1 1] rfl rfl hc3 (fun x hx => by simp at hx; rw [hx]; rfl) (by unfold maxLen; omega) (by omega) (by simp; omega) ?_; intro v6 w6 hown6 hgrow6 hnil6 hblk6)
              have HS6 : Hid (SOwn w6 R v6 (ones (S0 ++ (hs.take (j + 1)).map (pc1 c)))) := by
                show SOwn w6 R v6 (ones (S0 ++ (hs.take (j + 1)).map (pc1 c)))
                rw [HTK.out, List.map_append, List.map_singleton, ← List.append_assoc, ones_snoc]
                exact SOwn.snoc (p := [pc1 c h]) hown HCV hown6 hgrow6 hblk6 (by simp) HST.out
              have HB6 : Hid (Below R w1 w6) := HRW.out.grown hgrow6 (by simp; omega) (fun j hj => (hown.lt j hj).1)
              have HF6 : Hid (spF (S0 ++ (hs.take (j + 1)).map (pc1 c)) = 0) := by
                show spF (S0 ++ (hs.take (j + 1)).map (pc1 c)) = 0
                rw [HTK.out, List.map_append, List.map_singleton, ← List.append_assoc]
                exact spF_snoc HSF.out HF0.out
              have HC6 : Hid (w6.heap[Bc]? = some (.cells #[.int .i64 wh, .string p, .slice (some ⟨b1, off1, none⟩) q ch] 40 (0, 0))) := (Gr.of_grown hgrow6 (.inl rfl) (Gr.refl w6 _)).block HCW.out HNB.out
              have HN6 : Hid (v6.ownBlock ≠ some Bc) := by
                show v6.ownBlock ≠ some Bc
                rcases hblk6 with e | e
                · rw [e]; exact HNB.out
                · rw [e, World.size_alloc]; intro e; have := Option.some.inj e; omega
              clear hown HCV HST hc3 hol hown6 hgrow6 hnil6 hblk6
              go_wp2
              go_roundw
              case rel => exact ⟨j + 1, by omega, by go_num, HS6.out, HB6.out, HF6.out, HN6.out, HC6.out⟩
              case measure => simp [intOf]; omega

end Go.Proofs.YtnkdmgekpajfhadGreatDoor
