/-
  Walk of the law EditLeads: it returns true and writes nothing that was there.
-/
import Derived.Test.YtapebgoddcoijaaChg
namespace Go.Proofs.Ytapebgoddcoijaa
open Go.RowKit Dist

/-- A list of two texts, new. -/
theorem strs_two (w : World) (x y : ByteArray) : Strs (w.alloc (.cells #[.string x, .string y] 9)) (some ⟨w.heap.size, 0, none⟩) [x, y] := by
  intro i hi
  refine ⟨_, 0, rfl, ?_⟩
  have hblk := heap_alloc_new w (.cells #[.string x, .string y] 9)
  rw [Nat.zero_add, Lib.cell_of_heap hblk]
  match i, hi with
  | 0, _ => rfl
  | 1, _ => rfl

/-- The three marks, new. -/
theorem mks_three (w : World) : Mks (w.alloc (.cells #[.int .u8 45, .string ⟨#[120]⟩, .int .u8 32, .string ⟨#[121]⟩, .int .u8 43, .string ⟨#[122]⟩] 30)) (some ⟨w.heap.size, 0, none⟩) [(45, ⟨#[120]⟩), (32, ⟨#[121]⟩), (43, ⟨#[122]⟩)] := by
  intro i hi
  refine ⟨_, 0, rfl, ?_⟩
  have hblk := heap_alloc_new w (.cells #[.int .u8 45, .string ⟨#[120]⟩, .int .u8 32, .string ⟨#[121]⟩, .int .u8 43, .string ⟨#[122]⟩] 30)
  rw [Nat.zero_add, Lib.cell_of_heap hblk, Lib.cell_of_heap hblk]
  match i, hi with
  | 0, _ => exact ⟨rfl, rfl⟩
  | 1, _ => exact ⟨rfl, rfl⟩
  | 2, _ => exact ⟨rfl, rfl⟩

theorem scr_fact : scr [(⟨#[120]⟩ : ByteArray), ⟨#[121]⟩] [⟨#[121]⟩, ⟨#[122]⟩] = [(45, ⟨#[120]⟩), (32, ⟨#[121]⟩), (43, ⟨#[122]⟩)] := by
  have n1 : ¬ (⟨#[120]⟩ : ByteArray) = ⟨#[121]⟩ := by decide
  have n2 : ¬ (⟨#[120]⟩ : ByteArray) = ⟨#[122]⟩ := by decide
  have n3 : ¬ (⟨#[121]⟩ : ByteArray) = ⟨#[122]⟩ := by decide
  simp [scr_cons, dist_cons, dist_nil, dist_nil', scr_nil, n1, n2, n3]

/-- What holds of a script between good files. -/
theorem scr_good {xs ys : List ByteArray} (hf : ff xs ys = 0) : sf (scr xs ys) = 0 := by
  obtain ⟨f1, f2⟩ := ff_zero hf
  have h1 := lsf_len f1
  have h2 := lsf_len f2
  obtain ⟨_, _, _, hl, hm⟩ := scr_ok xs ys
  refine sf_of (by omega) fun m hmem => ⟨(hm m hmem).1, ?_⟩
  rcases (hm m hmem).2 with h | h
  · exact (lsf_zero f1).2 _ (List.mem_map.2 ⟨_, h, rfl⟩)
  · exact (lsf_zero f2).2 _ (List.mem_map.2 ⟨_, h, rfl⟩)

set_option maxRecDepth 100000 in
set_option maxHeartbeats 400000 in
theorem leads_any (a b s : Option Addr) (xs ys : List ByteArray) (ms : List (Int × ByteArray)) (ca cb cs : Nat) (w : World) (ha : Strs w a xs) (hb : Strs w b ys) (hs : Mks w s ms) (h1 : xs.length ≤ maxLen) (h2 : ys.length ≤ maxLen) (h3 : ms.length ≤ maxLen) :
    Calls Try.prog 3 #[.slice a xs.length ca, .slice b ys.length cb, .slice s ms.length cs] w fun e w' => e = .returned (.bool true) ∧ Below w.heap.size w w' := by
  have hw1 := below_alloc w (.cells #[.string ⟨#[120]⟩, .string ⟨#[121]⟩] 9)
  have hw2 := below_alloc (w.alloc (.cells #[.string ⟨#[120]⟩, .string ⟨#[121]⟩] 9)) (.cells #[.string ⟨#[121]⟩, .string ⟨#[122]⟩] 9)
  have hfact := script_ok _ _ [⟨#[120]⟩, ⟨#[121]⟩] [⟨#[121]⟩, ⟨#[122]⟩] 2 2 _ ((strs_two w ⟨#[120]⟩ ⟨#[121]⟩).below hw2) (strs_two (w.alloc (.cells #[.string ⟨#[120]⟩, .string ⟨#[121]⟩] 9)) ⟨#[121]⟩ ⟨#[122]⟩) (by decide)
  rw [scr_fact] at hfact
  simp only [List.length_cons, List.length_nil, Nat.zero_add, Nat.reduceAdd] at hfact
  rw [show (w.alloc (.cells #[.string ⟨#[120]⟩, .string ⟨#[121]⟩] 9)).heap.size = w.heap.size + 1 by simp] at hfact
  replace hw2 := hw1.trans (hw2.mono hw1.size)
  have HW : Hid (Below w.heap.size w ((w.alloc (.cells #[.string ⟨#[120]⟩, .string ⟨#[121]⟩] 9)).alloc (.cells #[.string ⟨#[121]⟩, .string ⟨#[122]⟩] 9))) := hw2
  have SA : Hid (Strs w a xs) := ha
  have SB : Hid (Strs w b ys) := hb
  have SS : Hid (Mks w s ms) := hs
  have H1 : Hid (xs.length ≤ maxLen) := h1
  have H2 : Hid (ys.length ≤ maxLen) := h2
  have H3 : Hid (ms.length ≤ maxLen) := h3
  obtain ⟨m, hm⟩ : ∃ m, xs.length = m := ⟨_, rfl⟩
  obtain ⟨n, hn⟩ : ∃ n, ys.length = n := ⟨_, rfl⟩
  obtain ⟨q, hq⟩ : ∃ q, ms.length = q := ⟨_, rfl⟩
  have HM : Hid (xs.length = m) := hm
  have HN : Hid (ys.length = n) := hn
  have HQ : Hid (ms.length = q) := hq
  rw [hm, hn, hq]
  clear hw1 hw2 ha hb hs h1 h2 h3 hm hn hq
  go_enter Try.func3, Try.ntmps3
  go_wp2_with (go_at_call 5; refine hfact.mono ?_)
  rintro e w1 ⟨a1, c1, rfl, hm1, hb1⟩
  clear hfact
  have hb1 := HW.out.trans (hb1.mono HW.out.size)
  clear HW
  have hmk := marks_eq _ _ _ c1 3 _ (hm1.below (below_alloc w1 _)) (mks_three w1) (by decide)
  have hb2 := hb1.trans ((below_alloc w1 (.cells #[.int .u8 45, .string ⟨#[120]⟩, .int .u8 32, .string ⟨#[121]⟩, .int .u8 43, .string ⟨#[122]⟩] 30)).mono hb1.size)
  simp only [List.length_cons, List.length_nil, Nat.zero_add, Nat.reduceAdd] at hmk
  clear hm1 hb1
  have HB2 : Hid (Below w.heap.size w (w1.alloc (.cells #[.int .u8 45, .string ⟨#[120]⟩, .int .u8 32, .string ⟨#[121]⟩, .int .u8 43, .string ⟨#[122]⟩] 30))) := hb2
  clear hb2
  go_wp2_with (go_at_call 6; refine hmk.mono ?_)
  rintro e w2 ⟨rfl, hb2⟩
  have hb2 := HB2.out.trans (hb2.mono HB2.out.size)
  clear hmk HB2
  by_cases hf : ff xs ys = 0
  case' pos =>
    have hsc := script_ok a b xs ys ca cb w2 (SA.out.below hb2) (SB.out.below hb2) hf
    rw [HM.out, HN.out] at hsc
    have HF : Hid (ff xs ys = 0) := hf
    clear hf
    go_wp2_with (go_at_call 5; refine hsc.mono ?_)
    rintro e w3 ⟨a3, c3, rfl, hm3, hb3⟩
    have hb3 := hb2.trans (hb3.mono hb2.size)
    clear hsc hb2
    have hfa := far_ok a b xs ys ca cb w3 (SA.out.below hb3) (SB.out.below hb3) HF.out
    rw [HM.out, HN.out] at hfa
    have HSG : Hid (sf (scr xs ys) = 0) := scr_good HF.out
    have HL : Hid ((scr xs ys).length ≤ maxLen) := by show (scr xs ys).length ≤ maxLen; have := (sf_zero HSG.out).1; unfold maxLen; omega
    obtain ⟨ks, hks⟩ : ∃ ks, scr xs ys = ks := ⟨_, rfl⟩
    obtain ⟨o1, o2, o3, _, _⟩ := scr_ok xs ys
    rw [hks] at hm3 HSG HL o1 o2 o3 ⊢
    have O1 : Hid (lessOf 43 ks = xs) := o1
    have O2 : Hid (lessOf 45 ks = ys) := o2
    have HM3 : Hid (Mks w3 a3 ks) := hm3
    have HCH := fun w h => changes a3 ks c3 w h HL.out
    rw [o3] at HCH
    obtain ⟨l, hl⟩ : ∃ l, ks.length = l := ⟨_, rfl⟩
    have HLL : Hid (ks.length = l) := hl
    obtain ⟨d, hd⟩ : ∃ d, dist xs ys = d := ⟨_, rfl⟩
    rw [hd] at hfa HCH
    rw [hl] at HCH ⊢
    clear hks hm3 o1 o2 o3 hl hd
    go_wp2_with (go_at_call 7; refine hfa.mono ?_)
    rintro e w4 ⟨rfl, hb4⟩
    have hm4 := HM3.out.below hb4
    have hb4 := hb3.trans (hb4.mono hb3.size)
    clear hfa hb3 HM3
    have hol := old_ok a3 ks c3 w4 hm4 HSG.out
    rw [HLL.out, O1.out, HM.out] at hol
    go_wp2_with (go_at_call 8; refine hol.mono ?_)
    rintro e w5 ⟨a5, c5, rfl, ho5, hb5⟩
    have hm5 := hm4.below hb5
    have hb5 := hb4.trans (hb5.mono hb4.size)
    clear hol hb4 hm4
    have hne := new_ok a3 ks c3 w5 hm5 HSG.out
    rw [HLL.out, O2.out, HN.out] at hne
    go_wp2_with (go_at_call 9; refine hne.mono ?_)
    rintro e w6 ⟨a6, c6, rfl, hn6, hb6⟩
    have hm6 := hm5.below hb6
    have ho6 := ho5.below hb6
    have hb6 := hb5.trans (hb6.mono hb5.size)
    clear hne hb5 hm5 ho5
    have htx := texts_same a5 a xs xs c5 ca w6 ho6 (SA.out.below hb6) rfl H1.out
    rw [HM.out, decide_eq_true rfl] at htx
    go_wp2_with (go_at_call 10; refine htx.mono ?_)
    rintro e w7 ⟨rfl, q7, hq7⟩
    have hm7 : Mks w7 a3 ks := by rw [hq7]; exact hm6
    have hn7 : Strs w7 a6 ys := by rw [hq7]; exact hn6
    have hb7 : Below w.heap.size w w7 := by rw [hq7]; exact below_drawn hb6
    clear htx hq7 hm6 hn6 hb6 ho6
    have hty := texts_same a6 b ys ys c6 cb w7 hn7 (SB.out.below hb7) rfl H2.out
    rw [HN.out, decide_eq_true rfl] at hty
    go_wp2_with (go_at_call 10; refine hty.mono ?_)
    rintro e w8 ⟨rfl, q8, hq8⟩
    have hm8 : Mks w8 a3 ks := by rw [hq8]; exact hm7
    have hb8 : Below w.heap.size w w8 := by rw [hq8]; exact below_drawn hb7
    clear hty hq8 hm7 hn7 hb7
    go_wp2_with (go_at_call 11; refine (HCH w8 hm8).mono ?_; rintro e w' ⟨rfl, hw⟩; rw [hw])
    clear HCH hm8
  case' neg =>
    have hsc := script_bad a b xs ys ca cb w2 (SA.out.below hb2) (SB.out.below hb2) H1.out H2.out hf
    rw [HM.out, HN.out] at hsc
    clear hf
    go_wp2_with (go_at_call 5; refine hsc.mono ?_)
    rintro e w8 ⟨rfl, hb8⟩
    have hb8 := hb2.trans (hb8.mono hb2.size)
    clear hsc hb2
    go_wp2_with fail
  all_goals
    by_cases hz : sf ms = 0
    · have HZ : Hid (sf ms = 0) := hz
      clear hz
      have hol := old_ok s ms cs w8 (SS.out.below hb8) HZ.out
      rw [HQ.out] at hol
      refine hol.mono ?_
      rintro e w9 ⟨a9, c9, rfl, ho9, hb9⟩
      have hb9 := hb8.trans (hb9.mono hb8.size)
      clear hol hb8
      have hne := new_ok s ms cs w9 (SS.out.below hb9) HZ.out
      rw [HQ.out] at hne
      have O1 : Hid (dist (lessOf 43 ms) (lessOf 45 ms) ≤ chg ms) := chg_least ms fun m hm => ((sf_zero HZ.out).2 m hm).1
      have O2 : Hid ((lessOf 43 ms).length ≤ maxLen) := by show (lessOf 43 ms).length ≤ maxLen; have := lessOf_len 43 ms; have := (sf_zero HZ.out).1; unfold maxLen; omega
      have O3 : Hid ((lessOf 45 ms).length ≤ maxLen) := by show (lessOf 45 ms).length ≤ maxLen; have := lessOf_len 45 ms; have := (sf_zero HZ.out).1; unfold maxLen; omega
      obtain ⟨os, hos⟩ : ∃ os, lessOf 43 ms = os := ⟨_, rfl⟩
      obtain ⟨ns, hns⟩ : ∃ ns, lessOf 45 ms = ns := ⟨_, rfl⟩
      rw [hos] at ho9 O1 O2 ⊢
      rw [hns] at hne O1 O3
      obtain ⟨lo, hlo⟩ : ∃ lo, os.length = lo := ⟨_, rfl⟩
      obtain ⟨ln, hln⟩ : ∃ ln, ns.length = ln := ⟨_, rfl⟩
      have HLO : Hid (os.length = lo) := hlo
      have HLN : Hid (ns.length = ln) := hln
      rw [hlo]
      rw [hln] at hne
      clear hos hns hlo hln
      go_wp2_with (go_at_call 9; refine hne.mono ?_)
      rintro e w10 ⟨a10, c10, rfl, hn10, hb10⟩
      have ho10 := ho9.below hb10
      have hb10 := hb9.trans (hb10.mono hb9.size)
      clear hne hb9 ho9
      by_cases hff : ff os ns = 0
      · have hfa := far_ok a9 a10 os ns c9 c10 w10 ho10 hn10 hff
        rw [HLO.out, HLN.out] at hfa
        obtain ⟨d, hd⟩ : ∃ d, dist os ns = d := ⟨_, rfl⟩
        rw [hd] at hfa O1
        clear hff hd
        go_wp2_with (go_at_call 7; refine hfa.mono ?_)
        rintro e w11 ⟨rfl, hb11⟩
        have hb11 := hb10.trans (hb11.mono hb10.size)
        clear hfa hb10
        have hch := changes s ms cs w11 (SS.out.below hb11) H3.out
        rw [HQ.out] at hch
        have hle : (d : Int) ≤ (chg ms : Nat) := by have := O1.out; omega
        obtain ⟨g, hg⟩ : ∃ g, chg ms = g := ⟨_, rfl⟩
        rw [hg] at hch hle
        clear hg O1
        go_wp2_with (go_at_call 11; refine hch.mono ?_; rintro e w' ⟨rfl, hw⟩; rw [hw])
        go_ret
        exact ⟨rfl, hb11⟩
      · have hfa := far_bad a9 a10 os ns c9 c10 w10 ho10 hn10 O2.out O3.out hff
        rw [HLO.out, HLN.out] at hfa
        clear hff
        go_wp2_with (go_at_call 7; refine hfa.mono ?_)
        rintro e w11 ⟨rfl, hb11⟩
        have hb11 := hb10.trans (hb11.mono hb10.size)
        clear hfa hb10
        go_wp2
        go_ret
        exact ⟨rfl, hb11⟩
    · have hol := old_bad s ms cs w8 (SS.out.below hb8) H3.out hz
      have HZ : Hid (sf ms ≠ 0) := hz
      rw [HQ.out] at hol
      clear hz
      refine hol.mono ?_
      rintro e w9 ⟨rfl, hb9⟩
      have hb9 := hb8.trans (hb9.mono hb8.size)
      clear hol hb8
      have hne := new_bad s ms cs w9 (SS.out.below hb9) H3.out HZ.out
      rw [HQ.out] at hne
      go_wp2_with (go_at_call 9; refine hne.mono ?_)
      rintro e w10 ⟨rfl, hb10⟩
      have hb10 := hb9.trans (hb10.mono hb9.size)
      clear hne hb9
      go_wp2
      go_ret
      exact ⟨rfl, hb10⟩
end Go.Proofs.Ytapebgoddcoijaa
