/-
  Walk of the law HunkCovers: it returns true and writes nothing that was there.
-/
import Derived.Test.YtfgnnlpcdmkanabTurn
import Derived.Test.YtfgnnlpcdmkanabHsame
import Derived.Test.YtfgnnlpcdmkanabChg

namespace Go.Proofs.Ytfgnnlpcdmkanab
open Go.RowKit Dist

theorem cutC (a : Option Addr) (ms : List (Int × ByteArray)) (ca n : Nat) (w : World) (ha : Mks w a ms) (hca : ms.length ≤ ca) (hc : cf ms n = 0) :
    Calls Try.prog 4 #[.slice a ms.length ca, .int .i64 n] w fun e w' => ∃ a' cap, e = .returned (.tuple #[.slice a' (cut ms n).length cap, .nilIface]) ∧ Below w.heap.size w w' ∧ Hks w' a' (cut ms n) :=
  (cut_ok a ms ca n w ha hca hc).mono fun e w' ⟨v, he, hb, ho⟩ => by
    obtain ⟨a', cap, rfl, hk⟩ := ho.hks
    exact ⟨a', cap, he, hb, hk⟩

/-- The two marks, new. -/
theorem mks_two (w : World) : Mks (w.alloc (.cells #[.int .u8 32, .string ⟨#[97]⟩, .int .u8 43, .string ⟨#[98]⟩] 29)) (some ⟨w.heap.size, 0, none⟩) [(32, ⟨#[97]⟩), (43, ⟨#[98]⟩)] := by
  intro i hi
  refine ⟨_, 0, rfl, ?_⟩
  have hblk := heap_alloc_new w (.cells #[.int .u8 32, .string ⟨#[97]⟩, .int .u8 43, .string ⟨#[98]⟩] 29)
  rw [Nat.zero_add, Lib.cell_of_heap hblk, Lib.cell_of_heap hblk]
  match i, hi with
  | 0, _ => exact ⟨rfl, rfl⟩
  | 1, _ => exact ⟨rfl, rfl⟩

theorem cut_fact : cut [((32 : Int), (⟨#[97]⟩ : ByteArray)), (43, ⟨#[98]⟩)] 0 = [(1, 1, [(43, ⟨#[98]⟩)])] := by decide

theorem cf_fact : cf [((32 : Int), (⟨#[97]⟩ : ByteArray)), (43, ⟨#[98]⟩)] (0 : Nat) = 0 := by decide

/-- What holds of pieces. -/
theorem cut_good {ms : List (Int × ByteArray)} {n : Nat} (h : cf ms n = 0) : hf (cut ms n) = (0, 0) ∧ (cut ms n).length ≤ 60 ∧ (∀ h ∈ cut ms n, h.2.2.length ≤ 120) ∧ many (cut ms n) = chg ms := by
  obtain ⟨h1, _, _, h4, h5⟩ := cf_zero h
  have hg := hf_cut h1 h4 h5 n
  obtain ⟨c1, _, c3, _⟩ := cut_holds ms (fun m hm => ((sf_zero h1).2 m hm).1) n
  refine ⟨hg, (hf_zero (by rw [hg])).1, fun x hx => ?_, c3⟩
  obtain ⟨a, b, _, _, e, _⟩ := c1 x hx
  have : x.2.2 = (ms.take b).drop a := by rw [e]; rfl
  rw [this, List.length_drop, List.length_take]
  have := (sf_zero h1).1
  omega

theorem many_le {l : List (Int × Int × List (Int × ByteArray))} (h : ∀ x ∈ l, x.2.2.length ≤ 120) : many l ≤ 120 * l.length := by
  induction l with
  | nil => exact Nat.zero_le _
  | cons x r ih =>
    have h1 := ih fun y hy => h y (List.mem_cons_of_mem _ hy)
    have h2 := h x (by simp)
    have h3 := chg_le x.2.2
    rw [many, List.length_cons]
    omega

set_option maxRecDepth 100000 in
set_option maxHeartbeats 2000000 in
theorem covers_any (s : Option Addr) (ms : List (Int × ByteArray)) (cs : Nat) (n m : Int) (w : World) (hs : Mks w s ms) (hl : ms.length ≤ maxLen) (hcs : ms.length ≤ cs) :
    Calls Try.prog 3 #[.slice s ms.length cs, .int .i64 n, .int .i64 m] w fun e w' => e = .returned (.bool true) ∧ Below w.heap.size w w' := by
  have hw1 := below_alloc w (.cells #[.int .u8 32, .string ⟨#[97]⟩, .int .u8 43, .string ⟨#[98]⟩] 29)
  have hfact := cutC _ _ 2 0 _ (mks_two w) (by decide) cf_fact
  rw [cut_fact] at hfact
  simp only [List.length_cons, List.length_nil, Nat.zero_add, Nat.reduceAdd] at hfact
  have HW : Hid (Below w.heap.size w (w.alloc (.cells #[.int .u8 32, .string ⟨#[97]⟩, .int .u8 43, .string ⟨#[98]⟩] 29))) := hw1
  have SS : Hid (Mks w s ms) := hs
  have HL : Hid (ms.length ≤ maxLen) := hl
  have HCS : Hid (ms.length ≤ cs) := hcs
  obtain ⟨q, hq⟩ : ∃ q, ms.length = q := ⟨_, rfl⟩
  have HQ : Hid (ms.length = q) := hq
  rw [hq]
  clear hw1 hs hl hcs hq
  go_enter Try.func3, Try.ntmps3
  go_wp2_with (go_at_call 4; refine hfact.mono ?_)
  rintro e w1 ⟨a1, c1, rfl, hb1, hk1⟩
  obtain ⟨b, off, am, cm, rfl, d0, d1, d2, _⟩ := hk1.at (i := 0) (by simp)
  simp at d0 d1 d2
  have hb1 := HW.out.trans (hb1.mono HW.out.size)
  clear hfact HW hk1
  by_cases hc : cf ms n = 0
  · obtain ⟨N, rfl⟩ := Int.eq_ofNat_of_zero_le (cf_zero hc).2.1
    have hcut := cutC s ms cs N w1 (SS.out.below hb1) HCS.out hc
    obtain ⟨g1, g2, g3, g4⟩ := cut_good hc
    rw [HQ.out] at hcut
    obtain ⟨L, hL⟩ : ∃ L, cut ms N = L := ⟨_, rfl⟩
    have HLC : Hid (cut ms N = L) := hL
    have HC : Hid (cf ms (N : Int) = 0) := hc
    rw [hL] at hcut g1 g2 g3 g4
    have G1 : Hid (hf L = (0, 0)) := g1
    have G3 : Hid (∀ h ∈ L, h.2.2.length ≤ 120) := g3
    have G4 : Hid (many L = chg ms) := g4
    obtain ⟨z, hz⟩ : ∃ z, L.length = z := ⟨_, rfl⟩
    have HZ : Hid (L.length = z) := hz
    rw [hz] at hcut g2
    clear hL hz g1 g3 g4 hc
    go_wp2_with (go_at_call 4; refine hcut.mono ?_)
    rintro e w2 ⟨a2, c2, rfl, hb2, hk2⟩
    have hb2 := hb1.trans (hb2.mono hb1.size)
    clear hcut hb1 d0 d1 d2
    have hck := hunkCheck a2 L c2 w2 hk2 (by rw [HZ.out]; unfold maxLen; omega) (fun h hh => by have := G3.out h hh; unfold maxLen; omega)
    rw [G1.out, HZ.out] at hck
    dsimp only at hck
    rw [errV_zero] at hck
    go_wp2_with (go_at_call 5; refine hck.mono ?_)
    rintro e w3 ⟨rfl, hb3⟩
    have hk3 := hk2.below hb3
    have hb3 := hb2.trans (hb3.mono hb2.size)
    clear hck hb2 hk2
    have HK3 : Hid (Hks w3 a2 L) := hk3
    clear hk3
    go_wp2
    go_loop [13, 14] (fun v i => ∃ k : Nat, k ≤ z ∧ i = .int .i64 k ∧ v = .int .i64 (many (L.take k))) (fun _ i => z - (intOf i).toNat)
    case atStart => exact ⟨0, Nat.zero_le _, rfl, rfl⟩
    case round =>
      obtain ⟨k, hk, rfl, rfl⟩ := hrel
      by_cases hlt : k < z
      · have hk3 := HK3.out
        have hkl : k < L.length := by rw [HZ.out]; exact hlt
        have hsn := tk_snoc3 L k hkl
        obtain ⟨b', off', am', cm', rfl, e0, e1, e2, hmk⟩ := hk3.at (i := k) hkl
        clear hk3
        have hml := G3.out _ (mem_getD3 hkl)
        have hmny := many_le (l := L.take k) fun x hx => G3.out x (List.mem_of_mem_take hx)
        rw [List.length_take, HZ.out] at hmny
        have HS : Hid (many (L.take (k + 1)) = many (L.take k) + chg (L.getD k (0, 0, [])).2.2) := by
          show many (L.take (k + 1)) = _
          rw [hsn, many_snoc]
        obtain ⟨ks, hks⟩ : ∃ ks, (L.getD k (0, 0, [])).2.2 = ks := ⟨_, rfl⟩
        rw [hks] at e2 hmk hml HS
        have hch := changes am' ks cm' w3 hmk (by unfold maxLen; omega)
        have hcl := chg_le ks
        obtain ⟨y, hy⟩ : ∃ y, ks.length = y := ⟨_, rfl⟩
        obtain ⟨c, hcc⟩ : ∃ c, chg ks = c := ⟨_, rfl⟩
        obtain ⟨d, hd⟩ : ∃ d, many (L.take k) = d := ⟨_, rfl⟩
        rw [hy] at e2 hch hml hcl
        rw [hcc] at hch HS hcl
        rw [hd] at HS hmny ⊢
        clear hsn hks hmk hy hcc hd e0 e1 hkl
        go_wp2_with (go_at_call 6; refine hch.mono ?_; rintro e w' ⟨rfl, hw⟩; rw [hw])
        go_round
        case rel => exact ⟨k + 1, by omega, by go_num, by rw [HS.out]; go_num⟩
        case measure => simp [intOf]; omega
      · have hmz : many (L.take k) = chg ms := by rw [List.take_of_length_le (by have := HZ.out; omega)]; exact G4.out
        rw [hmz]
        have HSF : Hid (ms.length ≤ 120) := (sf_zero (cf_zero HC.out).1).1
        have hchs := chg_le ms
        rw [HQ.out] at hchs
        have hq120 : q ≤ 120 := by rw [← HQ.out]; exact HSF.out
        have HCH := fun w h => changes s ms cs w h HL.out
        have HC200 := fun w h => cutC s ms cs 200 w h HCS.out (cf_of (cf_zero HC.out).1 (by decide) (by decide) (cf_zero HC.out).2.2.2.1 (cf_zero HC.out).2.2.2.2)
        have HL2 : Hid (cut ms 200 = if chg ms = 0 then [] else [(0, 0, ms)]) := cut_all ms 200 (by have := HSF.out; omega)
        obtain ⟨L2, hL2⟩ : ∃ L2, cut ms 200 = L2 := ⟨_, rfl⟩
        rw [hL2] at HC200 HL2
        obtain ⟨z2, hz2⟩ : ∃ z2, L2.length = z2 := ⟨_, rfl⟩
        rw [hz2] at HC200
        have HZ2 : Hid (L2.length = z2) := hz2
        rw [HQ.out] at HCH HC200
        have t1 := turn_ok a2 L c2 w3 HK3.out (by rw [G1.out])
        rw [HZ.out] at t1
        obtain ⟨c, hcc⟩ : ∃ c, chg ms = c := ⟨_, rfl⟩
        have HCC : Hid (chg ms = c) := hcc
        rw [hcc] at HCH hchs HL2 ⊢
        clear hmz hcc hL2 hz2
        go_wp2_with (go_at_call 7; refine t1.mono ?_)
        rintro e w4 B4 rfl hb4 hk4
        have hl4 := HK3.out.below hb4
        have hb4 := hb3.trans (hb4.mono hb3.size)
        clear t1 hb3 HK3
        have G5 : Hid (hf (trn L) = (0, 0)) := hf_trn (by rw [G1.out])
        have t2 := turn_ok _ (trn L) z w4 hk4 (by rw [G5.out])
        rw [trn_trn, show (trn L).length = z by rw [← HZ.out]; simp [trn]] at t2
        go_wp2_with (go_at_call 7; refine t2.mono ?_)
        rintro e w5 ⟨B5, rfl, hb5, hk5⟩
        have hl5 := hl4.below hb5
        have hb5 := hb4.trans (hb5.mono hb4.size)
        clear t2 hb4 hl4 hk4
        have heq := hunks_eq _ _ L z c2 w5 hk5 hl5 (by rw [HZ.out]; unfold maxLen; omega) (fun h hh => by have := G3.out h hh; unfold maxLen; omega)
        rw [HZ.out] at heq
        go_wp2_with (go_at_call 8; refine heq.mono ?_)
        rintro e w6 ⟨rfl, hb6⟩
        have hb6 := hb5.trans (hb6.mono hb5.size)
        clear heq hb5 hl5 hk5
        go_wp2_with (go_at_call 6; refine (HCH w6 (SS.out.below hb6)).mono ?_)
        rintro e w7 ⟨rfl, hw⟩
        rw [hw]
        clear HCH hw
        go_wp2_with (go_at_call 4; refine (HC200 w6 (SS.out.below hb6)).mono ?_)
        rintro e w8 ⟨a8, c8, rfl, hb8, hk8⟩
        have hb8 := hb6.trans (hb8.mono hb6.size)
        clear HC200 hb6
        by_cases h0 : c = 0
        case' pos =>
          subst h0
          obtain rfl : z2 = 0 := by rw [← HZ2.out, HL2.out, if_pos rfl]; rfl
          obtain ⟨w9, rfl⟩ : ∃ w9, w9 = w8 := ⟨_, rfl⟩
          have hb9 := hb8
          clear hk8 hb8
          go_wp2_with fail
        case' neg =>
          obtain rfl : z2 = 1 := by rw [← HZ2.out, HL2.out, if_neg h0]; rfl
          rw [HL2.out, if_neg h0] at hk8
          obtain ⟨b', off', am', cm', rfl, e0, e1, e2, hmk⟩ := hk8.at (i := 0) (by simp)
          simp at e0 e1 e2 hmk
          rw [HQ.out] at e2
          have hmq := marks_eq am' s ms cm' cs w8 hmk (SS.out.below hb8) HL.out
          rw [HQ.out] at hmq
          have hc0 : 0 < c := by omega
          clear hk8 hmk
          go_wp2_with (go_at_call 9; refine hmq.mono ?_)
          rintro e w9 ⟨rfl, hb9⟩
          replace e0 := cell_later hb9 e0
          replace e1 := cell_later hb9 e1
          have hb9 := hb8.trans (hb9.mono hb8.size)
          clear hmq hb8 e2
          go_wp2_with fail
        all_goals
          by_cases hcm : cf ms m = 0
          · obtain ⟨M, rfl⟩ := Int.eq_ofNat_of_zero_le (cf_zero hcm).2.1
            have hcut := cutC s ms cs M w9 (SS.out.below hb9) HCS.out hcm
            have HFEW : Hid (N ≤ M → (cut ms M).length ≤ z) := fun h => by have := cut_fewer ms N M h; rw [HLC.out, HZ.out] at this; exact this
            obtain ⟨L3, hL3⟩ : ∃ L3, cut ms M = L3 := ⟨_, rfl⟩
            obtain ⟨z3, hz3⟩ : ∃ z3, L3.length = z3 := ⟨_, rfl⟩
            rw [hL3, hz3] at hcut HFEW
            rw [HQ.out] at hcut
            clear hL3 hz3 hcm
            refine hcut.mono ?_
            rintro e w10 ⟨a10, c10, rfl, hb10, hk10⟩
            have hb10 := hb9.trans (hb10.mono hb9.size)
            clear hcut hk10 hb9
            by_cases hMN : (M : Int) < N
            · go_wp2
              go_ret
              exact ⟨rfl, hb10⟩
            · have hzz : (z3 : Int) ≤ z := by have := HFEW.out (by omega); omega
              go_wp2
              go_ret
              exact ⟨rfl, hb10⟩
          · have hcut := cut_bad s ms cs m w9 (SS.out.below hb9) HL.out hcm
            rw [HQ.out] at hcut
            clear hcm
            refine hcut.mono ?_
            rintro e w10 ⟨rfl, hb10⟩
            have hb10 := hb9.trans (hb10.mono hb9.size)
            clear hcut hb9
            go_wp2
            go_ret
            exact ⟨rfl, hb10⟩
  · have hcut := cut_bad s ms cs n w1 (SS.out.below hb1) HL.out hc
    rw [HQ.out] at hcut
    clear hc
    go_wp2_with (go_at_call 4; refine hcut.mono ?_)
    rintro e w2 ⟨rfl, hb2⟩
    have hb2 := hb1.trans (hb2.mono hb1.size)
    clear hcut hb1 d0 d1 d2
    go_wp2
    go_ret
    exact ⟨rfl, hb2⟩

end Go.Proofs.Ytfgnnlpcdmkanab
