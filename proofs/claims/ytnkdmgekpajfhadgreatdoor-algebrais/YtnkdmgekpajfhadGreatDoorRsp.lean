/-
  Walk of the document's own answer for a patch in pieces.
-/
import Derived.Test.YtnkdmgekpajfhadGreatDoorRkf
import Derived.Test.YtnkdmgekpajfhadGreatDoorXp
import Derived.Test.YtnkdmgekpajfhadGreatDoorXq

namespace Go.Proofs.YtnkdmgekpajfhadGreatDoor
open Go.RowKit Dist

/-- What SplitOf answers. -/
def SpP (l : List Ch) (e : Ending) (w' : World) : Prop := ∃ x c, e = .returned (.tuple #[.slice x (spO l).length c, .int .i64 (spE l)]) ∧ Srs w' x (spO l) ∧ (spO l).length ≤ c

theorem SpP.bad {l : List Ch} {f : Int} (e : spE l = f) (hf : f ≠ 0) (w' : World) : SpP l (.returned (.tuple #[.slice none 0 0, .int .i64 f])) w' := by
  unfold SpP
  rw [spO_bad (by rw [e]; exact hf), e]
  exact ⟨none, 0, rfl, Srs.nil _ _, Nat.le_refl _⟩

theorem SpP.ok {l : List Ch} {s : List Ch} (h0 : (kf l).2 = 0) (hs : spA l = s) (hf : spF s = 0) {x : Option Addr} {c : Nat} {w' : World} (h : Srs w' x (ones s)) (hc : s.length ≤ c) : SpP l (.returned (.tuple #[.slice x s.length c, .int .i64 0])) w' := by
  unfold SpP
  have e : spE l = 0 := by rw [spE_ok h0, hs]; exact hf
  have e2 : spO l = ones s := by rw [spO_ok e, hs]
  rw [e, e2]
  have e3 : (ones s).length = s.length := by unfold ones; rw [List.length_map]
  rw [e3]
  exact ⟨x, c, rfl, h, hc⟩

set_option maxRecDepth 100000 in
set_option maxHeartbeats 4000000 in
theorem splitRef (a : Option Addr) (l : List Ch) (ca : Nat) (w : World) (ha : Chs w a l) (hm : l.length ≤ maxLen) (hml : ∀ c ∈ l, c.2.2.length ≤ maxLen) (hms : ∀ c ∈ l, ∀ h ∈ c.2.2, h.2.2.length ≤ maxLen) (hts : ∀ c ∈ l, ∀ h ∈ c.2.2, ∀ m ∈ h.2.2, m.2.size ≤ maxLen) :
    Calls Tryz.prog 17 #[.slice a l.length ca] w fun e w' => SpP l e w' ∧ Below w.heap.size w w' := by
  have hpf := patchFault a l ca w ha hm hml hms hts
  obtain ⟨i0, hi0, hz0, hz1, hz2⟩ := info_parts Tryz.infoPatch
  have PB : Hid (∀ f w', spE l = f → f ≠ 0 → SpP l (.returned (.tuple #[.slice none 0 0, .int .i64 f])) w') := fun f w' e hf => SpP.bad e hf w'
  obtain ⟨n, hn⟩ : ∃ n, l.length = n := ⟨_, rfl⟩
  have HN : Hid (l.length = n) := hn
  rw [hn] at hpf ⊢
  obtain ⟨B, hB⟩ : ∃ B, w.heap.size = B := ⟨_, rfl⟩
  have HB : Hid (w.heap.size = B) := hB
  rw [hB] at hpf ⊢
  by_cases h0 : (kf l).2 = 0
  case' neg =>
    have HE : Hid (spE l = (kf l).2) := spE_bad h0
    obtain ⟨k0, hk0⟩ : ∃ k, (kf l).1 = k := ⟨_, rfl⟩
    obtain ⟨f, hf⟩ : ∃ k, (kf l).2 = k := ⟨_, rfl⟩
    rw [hk0, hf] at hpf
    rw [hf] at h0 HE
    have HF : Hid (f ≠ 0) := h0
    have hz : (f != 0) = true := by simpa using h0
    clear ha hm hml hms hts hn hB h0 hk0 hf
    go_enter Tryz.func17, Tryz.ntmps17
    go_wp2_with (go_at_call 6; refine hpf.mono ?_)
    rintro e w1 ⟨rfl, hb1⟩
    clear hpf
    go_wp2
    go_ret2
    exact ⟨PB.out _ _ HE.out HF.out, hb1⟩
  case' pos =>
    obtain ⟨k16, _, kone⟩ := kf_zero h0
    have H0 : Hid ((kf l).2 = 0) := h0
    have HA : Hid (Chs w a l) := ha
    have HML : Hid (∀ c ∈ l, c.2.2.length ≤ maxLen) := hml
    have HMS : Hid (∀ c ∈ l, ∀ h ∈ c.2.2, h.2.2.length ≤ maxLen) := hms
    have HTS : Hid (∀ c ∈ l, ∀ h ∈ c.2.2, ∀ m ∈ h.2.2, m.2.size ≤ maxLen) := hts
    have HONE : Hid (∀ c ∈ l, cOne c = 0) := kone
    have HSM : Hid (∀ c ∈ l, c.2.2.length ≤ 60) := fun c hc => (hf_zero (cOne_zero (kone c hc)).2.2.1).1
    rw [hn] at k16
    rw [h0] at hpf
    obtain ⟨k0, hk0⟩ : ∃ k, (kf l).1 = k := ⟨_, rfl⟩
    rw [hk0] at hpf
    clear ha hm hml hms hts hn hB h0 hk0 kone
    go_enter Tryz.func17, Tryz.ntmps17
    go_wp2_with (go_at_call 6; refine hpf.mono ?_)
    rintro e w1 ⟨rfl, hb1⟩
    obtain ⟨R, hR⟩ : ∃ R, w1.heap.size = R := ⟨_, rfl⟩
    have HR : Hid (w1.heap.size = R) := hR
    have HB1 : Hid (Below B w w1) := hb1
    have hBR : B ≤ R := by have := hb1.size; have := HB.out; omega
    clear hpf hb1 hR
    go_wp2
    go_loopw [6, 7] (fun v i wr => ∃ k : Nat, k ≤ n ∧ i = .int .i64 k ∧ SOwn wr R v (ones (spA (l.take k))) ∧ Below R w1 wr ∧ spF (spA (l.take k)) = 0) (fun _ i _ => n - (intOf i).toNat)
    case atStart => exact ⟨0, Nat.zero_le _, rfl, SOwn.zero _ _, Below.refl _ _, rfl⟩
    case round =>
      obtain ⟨k, hk, rfl, hso, hbl, hsf⟩ := hrel
      have HSO : Hid (SOwn wr R u6 (ones (spA (l.take k)))) := hso
      have HSF : Hid (spF (spA (l.take k)) = 0) := hsf
      have HBL : Hid (Below R w1 wr) := hbl
      obtain ⟨va, vn, vc, rfl⟩ := hso.slc
      clear hso hbl hsf
      by_cases hlt : k < n
      case' neg =>
        obtain rfl : k = n := by omega
        have hso := HSO.out
        rw [List.take_of_length_le (by rw [HN.out]; exact Nat.le_refl _)] at hso
        have hsf := HSF.out
        rw [List.take_of_length_le (by rw [HN.out]; exact Nat.le_refl _)] at hsf
        obtain ⟨x, c, e, hsr, hcap⟩ := hso.srs
        rw [ones_len] at e hcap
        simp only [Value.slice.injEq] at e
        obtain ⟨rfl, rfl, rfl⟩ := e
        have HP := SpP.ok H0.out rfl hsf hsr hcap
        have HPP : Hid (SpP l (.returned (.tuple #[.slice va (spA l).length vc, .int .i64 0])) wr) := HP
        have HBE : Hid (Below B w wr) := HB1.out.trans (HBL.out.mono hBR)
        obtain ⟨z, hz⟩ : ∃ z, (spA l).length = z := ⟨_, rfl⟩
        rw [hz] at HPP ⊢
        clear hso hsf hsr hcap HP hz
        go_wp2
        go_ret2
        exact ⟨HPP.out, HBE.out⟩
      have ha := HA.out.below (w' := w1) (by rw [HB.out]; exact HB1.out)
      have hkl : k < l.length := by rw [HN.out]; exact hlt
      obtain ⟨b, off, rfl⟩ := ha.addr hkl
      obtain ⟨ah, ch, hc0, hc1, hc2, hks, hcap⟩ := ha.at hkl
      have HC0 : Hid (w1.cell? ⟨b, off + k * 3, none⟩ = some (.int .i64 (l.getD k cz).1)) := hc0
      have HC1 : Hid (w1.cell? ⟨b, off + k * 3 + 1, none⟩ = some (.string (l.getD k cz).2.1)) := hc1
      have HC2 : Hid (w1.cell? ⟨b, off + k * 3 + 2, none⟩ = some (.slice ah (l.getD k cz).2.2.length ch)) := hc2
      have HKS : Hid (Hks w1 ah (l.getD k cz).2.2) := hks
      have hmem := mem_getDc hkl
      have HCO : Hid (cOne (l.getD k cz) = 0) := HONE.out _ hmem
      have h60 := HSM.out _ hmem
      have HM2 : Hid (∀ h ∈ (l.getD k cz).2.2, h.2.2.length ≤ maxLen) := HMS.out _ hmem
      have HT2 : Hid (∀ h ∈ (l.getD k cz).2.2, ∀ m ∈ h.2.2, m.2.size ≤ maxLen) := HTS.out _ hmem
      have HAT : Hid (∀ j, j < (l.getD k cz).2.2.length → spF (spA (l.take k) ++ ((l.getD k cz).2.2.take j).map (pc1 (l.getD k cz))) = 0 → (kf [pc1 (l.getD k cz) ((l.getD k cz).2.2.getD j (0, 0, []))]).2 ≠ 0 → spE l = (kf [pc1 (l.getD k cz) ((l.getD k cz).2.2.getD j (0, 0, []))]).2) := fun j hj h1 h2 => spE_at H0.out hkl hj h1 h2
      have HNX : Hid (spA (l.take (k + 1)) = spA (l.take k) ++ pcC (l.getD k cz)) := spA_next hkl
      have hlen : (spA (l.take k)).length ≤ 960 := by
        have := spA_len (l := l.take k) (fun c hc => HSM.out c (List.mem_of_mem_take hc))
        rw [List.length_take] at this
        omega
      obtain ⟨c, hcc⟩ : ∃ c, l.getD k cz = c := ⟨_, rfl⟩
      rw [hcc] at HC0 HC1 HC2 HKS HCO h60 HM2 HT2 HAT HNX hcap
      obtain ⟨S, hS⟩ : ∃ S, spA (l.take k) = S := ⟨_, rfl⟩
      rw [hS] at HSO HSF HAT HNX hlen
      obtain ⟨wh, hwh⟩ : ∃ x, c.1 = x := ⟨_, rfl⟩
      obtain ⟨p, hp⟩ : ∃ x, c.2.1 = x := ⟨_, rfl⟩
      obtain ⟨hs, hhs⟩ : ∃ x, c.2.2 = x := ⟨_, rfl⟩
      have HCE : Hid (c = (wh, p, hs)) := by show c = (wh, p, hs); rw [← hwh, ← hp, ← hhs]
      rw [hwh] at HC0
      rw [hp] at HC1
      rw [hhs] at HC2 HKS h60 HM2 HT2 HAT hcap
      obtain ⟨q, hq⟩ : ∃ q, hs.length = q := ⟨_, rfl⟩
      have HQ : Hid (hs.length = q) := hq
      rw [hq] at HC2 h60 HAT hcap
      have hbw : Below w1.heap.size w1 wr := by rw [HR.out]; exact HBL.out
      have d0 := cell_later hbw HC0.out
      have d1 := cell_later hbw HC1.out
      have d2 := cell_later hbw HC2.out
      have hRw : R ≤ wr.heap.size := by have := hbw.size; have := HR.out; omega
      clear ha hc0 hc1 hc2 hks hmem hkl hcc hS hwh hp hhs hq hbw
      by_cases hq0 : q = 0
      case' pos =>
        have hqz : ((q : Int) == 0) = true := by rw [hq0]; rfl
        have HQ0 : Hid (q = 0) := hq0
        clear hq0
        have hs1 : (wr.alloc (.cells #[.int .i64 wh, .string p, .slice ah q ch] 40)).heap.size = wr.heap.size + 1 := by simp
        have hbW : Below wr.heap.size wr ((wr.alloc (.cells #[.int .i64 wh, .string p, .slice ah q ch] 40)).alloc (.cells #[.slice (some ⟨wr.heap.size, 0, none⟩) 1 1] 22)) := (below_alloc wr (.cells #[.int .i64 wh, .string p, .slice ah q ch] 40)).trans ((below_alloc (wr.alloc (.cells #[.int .i64 wh, .string p, .slice ah q ch] 40)) (.cells #[.slice (some ⟨wr.heap.size, 0, none⟩) 1 1] 22)).mono (by simp))
        have hD : ((wr.alloc (.cells #[.int .i64 wh, .string p, .slice ah q ch] 40)).alloc (.cells #[.slice (some ⟨wr.heap.size, 0, none⟩) 1 1] 22)).heap[wr.heap.size]? = some (.cells #[.int .i64 wh, .string p, .slice ah q ch] 40 (0, 0)) := blk_below (below_alloc (wr.alloc (.cells #[.int .i64 wh, .string p, .slice ah q ch] 40)) (.cells #[.slice (some ⟨wr.heap.size, 0, none⟩) 1 1] 22)) (by simp) (heap_alloc_new wr (.cells #[.int .i64 wh, .string p, .slice ah q ch] 40))
        have hdo := HSO.out.below hbW
        obtain ⟨xs, hown, hcv⟩ := hdo
        have HCV := hcv
        have HRW : Hid (Below R w1 ((wr.alloc (.cells #[.int .i64 wh, .string p, .slice ah q ch] 40)).alloc (.cells #[.slice (some ⟨wr.heap.size, 0, none⟩) 1 1] 22))) := HBL.out.trans (hbW.mono hRw)
        have HST : Hid (∀ w2, Gr ((wr.alloc (.cells #[.int .i64 wh, .string p, .slice ah q ch] 40)).alloc (.cells #[.slice (some ⟨wr.heap.size, 0, none⟩) 1 1] 22)) w2 (Value.slice va vn vc).ownBlock → Chs w2 (some ⟨wr.heap.size, 0, none⟩) [c]) := fun w2 hg => by
          rw [HCE.out]
          refine piece_stays HR.out HRW.out (fun x e => ?_) (by rw [HQ.out]; exact hD) HKS.out (by rw [HQ.out]; exact hcap) hg
          obtain ⟨xs0, ho0, _⟩ := HSO.out
          exact ho0.lt x e
        have hc3 := cell_one_new (wr.alloc (.cells #[.int .i64 wh, .string p, .slice ah q ch] 40)) (.slice (some ⟨wr.heap.size, 0, none⟩) 1 1) 22
        rw [hs1] at hc3
        have hol : (ones S).length ≤ 960 := by rw [ones_len]; exact hlen
        clear hbW hD hcv hs1
        go_wp2_with (at_builtin; refine wpList_append_own_at _ rfl _ _ 46 rfl R 22 i0 (.slice none 0 0) 1 24 Tryz.underlying46 hi0 hz0 hz1 hz2 rfl (by decide) _ _ _ rfl hown ⟨wr.heap.size + 1, 0, none⟩ 1 1 [.slice (some ⟨wr.heap.size, 0, none⟩) 1 1] rfl rfl hc3 (fun x hx => by simp at hx; rw [hx]; rfl) (by unfold maxLen; omega) (by omega) (by simp; omega) ?_; intro v' w6 hown6 hgrow6 hnil6 hblk6)
        have hs6 : SOwn w6 R v' (ones (S ++ [c])) := by
          rw [ones_snoc]
          exact SOwn.snoc (p := [c]) hown HCV hown6 hgrow6 hblk6 (by simp) HST.out
        have hb6 : Below R w1 w6 := HRW.out.grown hgrow6 (by simp; omega) (fun j hj => (hown.lt j hj).1)
        have hf6 : spF (S ++ [c]) = 0 := spF_snoc HSF.out (by rw [kf_single HCO.out])
        have hhs : hs = [] := List.length_eq_zero_iff.1 (by rw [HQ.out]; exact HQ0.out)
        have hend : spA (l.take (k + 1)) = (S ++ [c]) ++ hs.map (pc1 c) := by
          rw [HNX.out, pcC_none (by rw [HCE.out]; exact hhs), hhs]; simp
        obtain ⟨S0, hS0⟩ : ∃ x, S ++ [c] = x := ⟨_, rfl⟩
        rw [hS0] at hs6 hf6 hend
        have hat : ∀ j, j < q → spF (S0 ++ (hs.take j).map (pc1 c)) = 0 → (kf [pc1 c (hs.getD j (0, 0, []))]).2 ≠ 0 → spE l = (kf [pc1 c (hs.getD j (0, 0, []))]).2 := fun j hj => absurd hj (by have := HQ0.out; omega)
        have hl6 : S0.length ≤ 961 := by rw [← hS0, List.length_append]; simp; omega
        clear hown HCV HST hc3 hol hown6 hgrow6 hnil6 hblk6 hS0 hhs HRW hlen
      case' neg =>
        have hs6 := HSO.out
        have hb6 := HBL.out
        have hf6 := HSF.out
        have hend : spA (l.take (k + 1)) = S ++ hs.map (pc1 c) := by
          rw [HNX.out, pcC_hunks (by rw [HCE.out]; intro e; have e : hs = [] := e; rw [← HQ.out] at hq0; exact hq0 (by rw [e]; rfl)), HCE.out]
        have hat := HAT.out
        have hl6 : S.length ≤ 961 := by omega
        obtain ⟨S0, hS0⟩ : ∃ x, S = x := ⟨_, rfl⟩
        rw [hS0] at hs6 hf6 hend hat hl6
        obtain ⟨v', hv'⟩ : ∃ x, Value.slice va vn vc = x := ⟨_, rfl⟩
        rw [hv'] at hs6 ⊢
        clear hS0 hlen hv'
        have hqz : ((q : Int) == 0) = false := by simpa using hq0
        go_wp2
      all_goals
        have HEND : Hid (spA (l.take (k + 1)) = S0 ++ hs.map (pc1 c)) := hend
        have HATJ : Hid (∀ j, j < q → spF (S0 ++ (hs.take j).map (pc1 c)) = 0 → (kf [pc1 c (hs.getD j (0, 0, []))]).2 ≠ 0 → spE l = (kf [pc1 c (hs.getD j (0, 0, []))]).2) := hat
        have HL6 : Hid (S0.length ≤ 961) := hl6
        clear hend hat hl6 HSO HSF HNX HAT d0 d1 d2 HBL hRw hqz
        go_loopw [6, 8] (fun v i wx => ∃ j : Nat, j ≤ q ∧ i = .int .i64 j ∧ SOwn wx R v (ones (S0 ++ (hs.take j).map (pc1 c))) ∧ Below R w1 wx ∧ spF (S0 ++ (hs.take j).map (pc1 c)) = 0) (fun _ i _ => q - (intOf i).toNat)
        case atStart => exact ⟨0, Nat.zero_le _, rfl, by simpa using hs6, hb6, by simpa using hf6⟩
        case round =>
          obtain ⟨j, hj, rfl, hso, hbl, hsf⟩ := hrel
          obtain ⟨xa, xn, xc, rfl⟩ := hso.slc
          have hbw : Below w1.heap.size w1 wr := by rw [HR.out]; exact hbl
          have d2 := cell_later hbw HC2.out
          clear hs6 hb6 hf6
          by_cases hjq : j < q
          case' neg =>
            obtain rfl : j = q := by omega
            rw [List.take_of_length_le (by rw [HQ.out]; exact Nat.le_refl _), ← HEND.out] at hso hsf
            have HSO : Hid (SOwn wr R (.slice xa xn xc) (ones (spA (l.take (k + 1))))) := hso
            have HSF : Hid (spF (spA (l.take (k + 1))) = 0) := hsf
            have HBL : Hid (Below R w1 wr) := hbl
            clear hso hsf hbl hbw
            go_wp2
            go_roundw
            case rel => exact ⟨k + 1, by omega, by go_num, HSO.out, HBL.out, HSF.out⟩
            case measure => simp [intOf]; omega
          case' pos =>
            obtain ⟨b1, off1, am, cm, e1, g0, g1, g2, gm, gc⟩ := HKS.out j (by rw [HQ.out]; exact hjq)
            subst e1
            replace g0 := cell_later hbw g0
            replace g1 := cell_later hbw g1
            replace g2 := cell_later hbw g2
            have d0 := cell_later hbw HC0.out
            have d1 := cell_later hbw HC1.out
            have hmem : hs.getD j (0, 0, []) ∈ hs := mem_getD3 (by rw [HQ.out]; exact hjq)
            have m2 := HM2.out _ hmem
            have m3 := HT2.out _ hmem
            have HBAD : Hid ((kf [pc1 c (hs.getD j (0, 0, []))]).2 ≠ 0 → spE l = (kf [pc1 c (hs.getD j (0, 0, []))]).2) := HATJ.out j hjq hsf
            have HTK : Hid (hs.take (j + 1) = hs.take j ++ [hs.getD j (0, 0, [])]) := take_hk (by rw [HQ.out]; exact hjq)
            obtain ⟨h, hh⟩ : ∃ h, hs.getD j (0, 0, []) = h := ⟨_, rfl⟩
            rw [hh] at g0 g1 g2 gm gc m2 m3 HBAD HTK
            obtain ⟨ho, hho⟩ : ∃ x, h.1 = x := ⟨_, rfl⟩
            obtain ⟨hn, hhn⟩ : ∃ x, h.2.1 = x := ⟨_, rfl⟩
            obtain ⟨ms, hms⟩ : ∃ x, h.2.2 = x := ⟨_, rfl⟩
            have HPC : Hid (pc1 c h = (wh, p, [(hn, hn, ms)])) := by show pc1 c h = (wh, p, [(hn, hn, ms)]); rw [HCE.out, ← hhn, ← hms]; rfl
            rw [hho] at g0
            rw [hhn] at g1
            rw [hms] at g2 gm gc m2 m3
            obtain ⟨z, hz⟩ : ∃ x, ms.length = x := ⟨_, rfl⟩
            have HZ : Hid (ms.length = z) := hz
            rw [hz] at g2
            have HSO : Hid (SOwn wr R (.slice xa xn xc) (ones (S0 ++ (hs.take j).map (pc1 c)))) := hso
            have HSF : Hid (spF (S0 ++ (hs.take j).map (pc1 c)) = 0) := hsf
            have HBL : Hid (Below R w1 wr) := hbl
            have HGM : Hid (Mks w1 am ms) := gm
            have HGC : Hid (ms.length ≤ cm) := gc
            have HM3 : Hid (ms.length ≤ maxLen) := m2
            have HT3 : Hid (∀ m ∈ ms, m.2.size ≤ maxLen) := m3
            clear hso hsf hbl hbw gm gc m2 m3 hmem hh hho hhn hms hz
            have hblk := heap_alloc_new wr (.cells #[.int .i64 ho, .int .i64 hn, .slice am z cm] 57)
            have c0 := Lib.cell_of_heap hblk 0
            have c1 := Lib.cell_of_heap hblk 1
            have f0 := Lib.frozen_of_heap hblk 0
            simp at c0 c1
            clear hblk
            go_wp2_with fail
            have hbs := below_alloc wr (.cells #[.int .i64 hn, .int .i64 hn, .slice am z cm] 57)
            have hb2 := heap_alloc_new wr (.cells #[.int .i64 hn, .int .i64 hn, .slice am z cm] 57)
            have hsz : (wr.alloc (.cells #[.int .i64 hn, .int .i64 hn, .slice am z cm] 57)).heap.size = wr.heap.size + 1 := by simp
            clear c0 c1 f0 g0 g1 g2 d2
            generalize wr.alloc (.cells #[.int .i64 hn, .int .i64 hn, .slice am z cm] 57) = W at hbs hb2 hsz ⊢
            replace d0 := cell_later hbs d0
            replace d1 := cell_later hbs d1
            have k0 := Lib.cell_of_heap hb2 0
            have k1 := Lib.cell_of_heap hb2 1
            have k2 := Lib.cell_of_heap hb2 2
            simp at k0 k1 k2
            have hbr : Below W.heap.size W (W.alloc (.cells #[.int .i64 hn, .int .i64 hn, .slice am z cm] 57)).drew := (below_alloc W (.cells #[.int .i64 hn, .int .i64 hn, .slice am z cm] 57)).trans ⟨rfl, rfl, rfl, by simp, fun _ _ => rfl⟩
            have e0 := cell_later hbr d0
            have e1 := cell_later hbr d1
            have HSZ : Hid (W.heap.size = wr.heap.size + 1) := hsz
            have HBS : Hid (Below wr.heap.size wr W) := hbs
            clear hbs hb2 hsz hbr
            go_region
            go_wp2_with fail
            have hbV : Below W.heap.size W ((W.alloc (.cells #[.int .i64 hn, .int .i64 hn, .slice am z cm] 57)).alloc (.cells #[.int .i64 wh, .string p, .slice (some ⟨W.heap.size, 0, none⟩) 1 1] 40)).drew := ((below_alloc W (.cells #[.int .i64 hn, .int .i64 hn, .slice am z cm] 57)).trans ((below_alloc (W.alloc (.cells #[.int .i64 hn, .int .i64 hn, .slice am z cm] 57)) (.cells #[.int .i64 wh, .string p, .slice (some ⟨W.heap.size, 0, none⟩) 1 1] 40)).mono (by simp))).trans ⟨rfl, rfl, rfl, by simp, fun _ _ => rfl⟩
            have hH0 : ((W.alloc (.cells #[.int .i64 hn, .int .i64 hn, .slice am z cm] 57)).alloc (.cells #[.int .i64 wh, .string p, .slice (some ⟨W.heap.size, 0, none⟩) 1 1] 40)).heap[W.heap.size]? = some (.cells #[.int .i64 hn, .int .i64 hn, .slice am z cm] 57 (0, 0)) := blk_below (below_alloc (W.alloc (.cells #[.int .i64 hn, .int .i64 hn, .slice am z cm] 57)) (.cells #[.int .i64 wh, .string p, .slice (some ⟨W.heap.size, 0, none⟩) 1 1] 40)) (by simp) (heap_alloc_new W (.cells #[.int .i64 hn, .int .i64 hn, .slice am z cm] 57))
            have hH : ((W.alloc (.cells #[.int .i64 hn, .int .i64 hn, .slice am z cm] 57)).alloc (.cells #[.int .i64 wh, .string p, .slice (some ⟨W.heap.size, 0, none⟩) 1 1] 40)).drew.heap[W.heap.size]? = some (.cells #[.int .i64 hn, .int .i64 hn, .slice am z cm] 57 (0, 0)) := hH0
            have hD : ((W.alloc (.cells #[.int .i64 hn, .int .i64 hn, .slice am z cm] 57)).alloc (.cells #[.int .i64 wh, .string p, .slice (some ⟨W.heap.size, 0, none⟩) 1 1] 40)).drew.heap[W.heap.size + 1]? = some (.cells #[.int .i64 wh, .string p, .slice (some ⟨W.heap.size, 0, none⟩) 1 1] 40 (0, 0)) := by
              have := heap_alloc_new (W.alloc (.cells #[.int .i64 hn, .int .i64 hn, .slice am z cm] 57)) (.cells #[.int .i64 wh, .string p, .slice (some ⟨W.heap.size, 0, none⟩) 1 1] 40)
              rw [World.size_alloc] at this
              exact this
            have hsV : ((W.alloc (.cells #[.int .i64 hn, .int .i64 hn, .slice am z cm] 57)).alloc (.cells #[.int .i64 wh, .string p, .slice (some ⟨W.heap.size, 0, none⟩) 1 1] 40)).drew.heap.size = W.heap.size + 1 + 1 := by show ((W.alloc (.cells #[.int .i64 hn, .int .i64 hn, .slice am z cm] 57)).alloc (.cells #[.int .i64 wh, .string p, .slice (some ⟨W.heap.size, 0, none⟩) 1 1] 40)).heap.size = _; simp
            clear d0 d1 e0 e1 k0 k1 k2 hH0
            generalize ((W.alloc (.cells #[.int .i64 hn, .int .i64 hn, .slice am z cm] 57)).alloc (.cells #[.int .i64 wh, .string p, .slice (some ⟨W.heap.size, 0, none⟩) 1 1] 40)).drew = V at hbV hH hD hsV ⊢
            have HBV : Hid (Below wr.heap.size wr V) := HBS.out.trans (hbV.mono (by have := HSZ.out; omega))
            have hRw : R ≤ wr.heap.size := by have := HBL.out.size; have := HR.out; omega
            have HBRV : Hid (Below R w1 V) := HBL.out.trans (HBV.out.mono hRw)
            rw [← HZ.out] at hH
            have hch := piece_stays2 (r := none) HR.out HBRV.out (fun x e => by cases e) hD hH HGM.out HGC.out (Gr.refl V none)
            have hpf2 := patchFault (some ⟨W.heap.size + 1, 0, none⟩) [(wh, p, [(hn, hn, ms)])] 1 V hch (by unfold maxLen; simp) (fun c hc => by rw [List.mem_singleton] at hc; rw [hc]; unfold maxLen; simp) (fun c hc x hx => by rw [List.mem_singleton] at hc; rw [hc] at hx; rw [List.mem_singleton] at hx; rw [hx]; exact HM3.out) (fun c hc x hx => by rw [List.mem_singleton] at hc; rw [hc] at hx; rw [List.mem_singleton] at hx; rw [hx]; exact HT3.out)
            change Calls _ _ #[.slice (some ⟨W.heap.size + 1, 0, none⟩) 1 1] V _ at hpf2
            have hbad := HBAD.out
            rw [HPC.out] at hbad
            have HKF : Hid (kf [(wh, p, [(hn, hn, ms)])] = kf [pc1 c h]) := by show kf [(wh, p, [(hn, hn, ms)])] = kf [pc1 c h]; rw [HPC.out]
            obtain ⟨F, hF⟩ : ∃ F, (kf [(wh, p, [(hn, hn, ms)])]).2 = F := ⟨_, rfl⟩
            obtain ⟨F0, hF0'⟩ : ∃ F, (kf [(wh, p, [(hn, hn, ms)])]).1 = F := ⟨_, rfl⟩
            rw [hF] at hbad
            rw [hF, hF0'] at hpf2
            have HFV : Hid ((kf [(wh, p, [(hn, hn, ms)])]).2 = F) := hF
            have HH : Hid (V.heap[W.heap.size]? = _) := hH
            have HD : Hid (V.heap[W.heap.size + 1]? = _) := hD
            have HSV : Hid (V.heap.size = W.heap.size + 1 + 1) := hsV
            clear hbV hH hD hsV hch hF hF0'
            by_cases hf0 : F = 0
            case' neg =>
              have HE : Hid (spE l = F) := hbad hf0
              have HF : Hid (F ≠ 0) := hf0
              have hz' : (F != 0) = true := by simpa using hf0
              clear hbad hf0
              go_wp2_with (go_at_call 6; refine hpf2.mono ?_)
              rintro e w3 ⟨rfl, hb3⟩
              have hb4 : Below B w w3 := HB1.out.trans ((HBRV.out.trans (hb3.mono (by have := HBRV.out.size; have := HR.out; omega))).mono hBR)
              clear hpf2 hb3
              go_wp2
              go_ret2
              exact ⟨PB.out _ _ HE.out HF.out, hb4⟩
            case' pos =>
              subst hf0
              clear hbad HBAD
              go_wp2_with (go_at_call 6; refine hpf2.mono ?_)
              rintro e w3 ⟨rfl, hb3⟩
              have hb4 : Below wr.heap.size wr w3 := HBV.out.trans (hb3.mono (by have := HSV.out; have := HSZ.out; omega))
              have hb5 : Below wr.heap.size wr (w3.alloc (.cells #[.slice (some ⟨W.heap.size + 1, 0, none⟩) 1 1] 22)) := hb4.alloc hb4.size _
              have h3V : V.heap.size ≤ w3.heap.size := hb3.size
              have hH3 := blk_below (below_alloc w3 (.cells #[.slice (some ⟨W.heap.size + 1, 0, none⟩) 1 1] 22)) (by have := HSV.out; omega) (blk_below hb3 (by have := HSV.out; omega) HH.out)
              have hD3 := blk_below (below_alloc w3 (.cells #[.slice (some ⟨W.heap.size + 1, 0, none⟩) 1 1] 22)) (by have := HSV.out; omega) (blk_below hb3 (by have := HSV.out; omega) HD.out)
              have HBR5 : Hid (Below R w1 (w3.alloc (.cells #[.slice (some ⟨W.heap.size + 1, 0, none⟩) 1 1] 22))) := HBL.out.trans (hb5.mono hRw)
              have HST : Hid (∀ w2, Gr (w3.alloc (.cells #[.slice (some ⟨W.heap.size + 1, 0, none⟩) 1 1] 22)) w2 (Value.slice xa xn xc).ownBlock → Chs w2 (some ⟨W.heap.size + 1, 0, none⟩) [pc1 c h]) := fun w2 hg => by
                rw [HPC.out]
                refine piece_stays2 HR.out HBR5.out (fun x e => ?_) hD3 hH3 HGM.out HGC.out hg
                obtain ⟨xs0, ho0, _⟩ := HSO.out
                have := ho0.lt x e
                have := HSZ.out
                omega
              have hdo := HSO.out.below hb5
              obtain ⟨xs, hown, hcv⟩ := hdo
              have HCV := hcv
              have hc3 := cell_one_new w3 (.slice (some ⟨W.heap.size + 1, 0, none⟩) 1 1) 22
              have hol : (ones (S0 ++ (hs.take j).map (pc1 c))).length ≤ 2000 := by
                rw [ones_len, List.length_append, List.length_map, List.length_take]
                have := HL6.out
                omega
              have hRw3 : R ≤ w3.heap.size := Nat.le_trans hRw hb4.size
              clear hpf2 hb3 hb4 hb5 h3V hH3 hD3 hcv
              go_wp2_with (at_builtin; refine wpList_append_own_at _ rfl _ _ 46 rfl R 22 i0 (.slice none 0 0) 1 24 Tryz.underlying46 hi0 hz0 hz1 hz2 rfl (by decide) _ _ _ rfl hown ⟨w3.heap.size, 0, none⟩ 1 1 [.slice (some ⟨W.heap.size + 1, 0, none⟩) 1 1] rfl rfl hc3 (fun x hx => by simp at hx; rw [hx]; rfl) (by unfold maxLen; omega) (by omega) (by simp; omega) ?_; intro v6 w6 hown6 hgrow6 hnil6 hblk6)
              have HS6 : Hid (SOwn w6 R v6 (ones (S0 ++ (hs.take (j + 1)).map (pc1 c)))) := by
                show SOwn w6 R v6 (ones (S0 ++ (hs.take (j + 1)).map (pc1 c)))
                rw [HTK.out, List.map_append, List.map_singleton, ← List.append_assoc, ones_snoc]
                exact SOwn.snoc (p := [pc1 c h]) hown HCV hown6 hgrow6 hblk6 (by simp) HST.out
              have HB6 : Hid (Below R w1 w6) := HBR5.out.grown hgrow6 (by simp; omega) (fun j hj => (hown.lt j hj).1)
              have HF6 : Hid (spF (S0 ++ (hs.take (j + 1)).map (pc1 c)) = 0) := by
                show spF (S0 ++ (hs.take (j + 1)).map (pc1 c)) = 0
                rw [HTK.out, List.map_append, List.map_singleton, ← List.append_assoc]
                exact spF_snoc HSF.out (by rw [← HKF.out]; exact HFV.out)
              clear hown HCV HST hc3 hol hown6 hgrow6 hnil6 hblk6
              go_wp2
              go_roundw
              case rel => exact ⟨j + 1, by omega, by go_num, HS6.out, HB6.out, HF6.out⟩
              case measure => simp [intOf]; omega

end Go.Proofs.YtnkdmgekpajfhadGreatDoor
