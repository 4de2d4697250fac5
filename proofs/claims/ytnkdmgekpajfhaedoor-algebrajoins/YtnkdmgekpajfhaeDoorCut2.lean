/-
  Walk of hunk.Cut: the pieces of a script; the fault else.
-/
import Derived.Test.YtnkdmgekpajfhaeDoorCut

namespace Go.Proofs.YtnkdmgekpajfhaeDoor
open Go.RowKit Dist

set_option maxRecDepth 100000 in
set_option maxHeartbeats 1000000 in
theorem cut_ok (a : Option Addr) (ms : List (Int × ByteArray)) (ca n : Nat) (w : World) (ha : Mks w a ms) (hca : ms.length ≤ ca) (hc : cf ms n = 0) :
    Calls Tryd.prog 88 #[.slice a ms.length ca, .int .i64 n] w fun e w' => ∃ v, e = .returned (.tuple #[v, .nilIface]) ∧ Below w.heap.size w w' ∧ HOwn w' w.heap.size v (cut ms n) := by
  obtain ⟨hf, _, hn, hob, hnb⟩ := cf_zero hc
  have hm := (sf_zero hf).1
  have hb0 := below_alloc w (.cells #[.slice a ms.length ca] 38)
  have hb00 := below_alloc (w.alloc (.cells #[.slice a ms.length ca] 38)) (.cells #[.int .i64 n] 3)
  have hck := checkCut a ms ca n _ ((ha.below hb0).below hb00) (by unfold maxLen; omega)
  rw [hc, errV_zero] at hck
  obtain ⟨i0, hi0, hz0, hz1, hz2⟩ := info_parts Tryd.infoHunk
  have hmf : ∀ (fn : Fn) (first cap : Array Value) (w : World), (Instr.makeFunc fn first cap).run Tryd.prog w = .ok (.func fn first cap) w := fun _ _ _ _ => rfl
  have eg : ∀ args w, (callFunc 102 args).run Tryd.prog w = .ok (.enter 102 args) w := enters_of Tryd.func102 (by kernel_rfl) rfl
  have s1 : (w.alloc (.cells #[.slice a ms.length ca] 38)).heap.size = w.heap.size + 1 := by simp
  have s2 : ((w.alloc (.cells #[.slice a ms.length ca] 38)).alloc (.cells #[.int .i64 n] 3)).heap.size = w.heap.size + 2 := by simp
  have k1 := blk_below hb00 (by rw [s1]; omega) (heap_alloc_new w (.cells #[.slice a ms.length ca] 38))
  have k2 := heap_alloc_new (w.alloc (.cells #[.slice a ms.length ca] 38)) (.cells #[.int .i64 n] 3)
  rw [s1] at k2
  have hbb := hb0.trans (hb00.mono (by rw [s1]; omega))
  obtain ⟨q, hq⟩ : ∃ q, ms.length = q := ⟨_, rfl⟩
  rw [hq] at hck hbb k1 k2 hca hm s2
  rw [hq]
  have HBB : Hid (Below w.heap.size w ((w.alloc (.cells #[.slice a q ca] 38)).alloc (.cells #[.int .i64 n] 3))) := hbb
  have K1 : Hid (((w.alloc (.cells #[.slice a q ca] 38)).alloc (.cells #[.int .i64 n] 3)).heap[w.heap.size]? = some (.cells #[.slice a q ca] 38)) := k1
  have K2 : Hid (((w.alloc (.cells #[.slice a q ca] 38)).alloc (.cells #[.int .i64 n] 3)).heap[w.heap.size + 1]? = some (.cells #[.int .i64 n] 3)) := k2
  have S2 : Hid (((w.alloc (.cells #[.slice a q ca] 38)).alloc (.cells #[.int .i64 n] 3)).heap.size = w.heap.size + 2) := s2
  have HA : Hid (Mks w a ms) := ha
  have HQ : Hid (ms.length = q) := hq
  have HF : Hid (sf ms = 0) := hf
  have HN : Hid (n ≤ 1000) := by show n ≤ 1000; omega
  have HCA : Hid (q ≤ ca) := hca
  have HNE : Hid (3 * (cut ms n).length ≤ 122) := by
    show 3 * (cut ms n).length ≤ 122
    have := (cut_holds ms (fun m hm => ((sf_zero hf).2 m hm).1) n).2.2.2
    omega
  obtain ⟨B, hB⟩ : ∃ B, w.heap.size = B := ⟨_, rfl⟩
  have HB : Hid (w.heap.size = B) := hB
  clear hb0 hb00 ha hc hf hn hob hnb k1 k2 hbb s1 s2 hq hca
  go_enter Tryd.func88, Tryd.ntmps88
  go_wp2_with (go_at_call 101; refine hck.mono ?_)
  rintro e w0 ⟨rfl, hb0⟩
  clear hck
  have c1 := Lib.cell_of_heap (blk_below hb0 (by rw [S2.out]; omega) K1.out) 0
  have c2 := Lib.cell_of_heap (blk_below hb0 (by rw [S2.out]; omega) K2.out) 0
  have z0 : B + 2 ≤ w0.heap.size := by have := hb0.size; rw [S2.out, hB] at this; exact this
  have hb0 := HBB.out.trans (hb0.mono HBB.out.size)
  simp at c1 c2
  rw [hB] at hb0 c1 c2
  have C1 : Hid (w0.cell? ⟨B, 0, none⟩ = some (.slice a q ca)) := c1
  have C2 : Hid (w0.cell? ⟨B + 1, 0, none⟩ = some (.int .i64 n)) := c2
  have HB0 : Hid (Below B w w0) := hb0
  have HA0 : Hid (Mks w0 a ms) := HA.out.below (by rw [hB]; exact hb0)
  clear hB hb0 K1 K2 S2 HBB HA
  go_wp2
  clear hmf
  obtain ⟨B0, hB0⟩ : ∃ B0, w0.heap.size = B0 := ⟨_, rfl⟩
  have HBZ : Hid (w0.heap.size = B0) := hB0
  rw [hB0] at z0
  clear hB0 c1 c2
  go_loopw [8, 9] (fun v i w1 => ∃ k : Nat, k ≤ q + 1 ∧ i = .int .i64 k ∧ rl ms n k = 0 ∧ Below B0 w0 w1 ∧ HOwn w1 B0 v (cl ms n k)) (fun _ i _ => q + 1 - (intOf i).toNat)
  case atStart => exact ⟨0, Nat.zero_le _, rfl, rfl, Below.refl _ _, HOwn.zero _ _⟩
  case round =>
    obtain ⟨wa, rfl⟩ : ∃ wa, wa = wr := ⟨_, rfl⟩
    obtain ⟨k, hk, rfl, hrl, hbl, hown⟩ := hrel
    have HRL : Hid (rl ms n k = 0) := hrl
    have HOW : Hid (HOwn wa B0 u8 (cl ms n k)) := hown
    clear hrl hown
    have hbw : Below w0.heap.size w0 wa := by rw [HBZ.out]; exact hbl
    have c1 := cell_later hbw C1.out
    have c2 := cell_later hbw C2.out
    by_cases hlt : k < q
    · have hz8 : B0 ≤ wa.heap.size := by have := hbl.size; rw [HBZ.out] at this; exact this
      obtain ⟨U, hU⟩ : ∃ U, wa.heap.size = U := ⟨_, rfl⟩
      have HU : Hid (wa.heap.size = U) := hU
      rw [hU] at hz8
      have hA := HA0.out
      obtain ⟨b, off, rfl, _, _⟩ := hA.at (i := k) (by rw [HQ.out]; exact hlt)
      have HAR : Hid (Mks wa (some ⟨b, off, none⟩) ms) := hA.below hbw
      clear hA hU HA0
      have C1 : Hid (wa.cell? ⟨B, 0, none⟩ = some (.slice (some ⟨b, off, none⟩) q ca)) := c1
      have C2 : Hid (wa.cell? ⟨B + 1, 0, none⟩ = some (.int .i64 n)) := c2
      go_wp2
      clear c1 c2
      go_loopw [10] (fun j w1 => ∃ t : Nat, k ≤ t ∧ t ≤ q ∧ j = .int .i64 t ∧ Below U wa w1 ∧ ∀ j, k ≤ j → j < t → near ms n j = true) (fun j _ => q - (intOf j).toNat)
      case atStart => exact ⟨k, Nat.le_refl _, by omega, rfl, Below.refl _ _, fun j h1 h2 => by omega⟩
      case round =>
        obtain ⟨t, hkt, htq, rfl, hbt, hall⟩ := hrel
        have HALL : Hid (∀ j, k ≤ j → j < t → near ms n j = true) := hall
        clear hall
        have hbu : Below wa.heap.size wa wr := by rw [HU.out]; exact hbt
        have c1 := cell_later hbu C1.out
        have c2 := cell_later hbu C2.out
        by_cases hq : t < q
        case' pos =>
          have hnr := isNear b off ms ca n t B (B + 1) wr (HAR.out.below hbu) (by rw [HQ.out]; exact hm) (by rw [HQ.out]; exact HCA.out) (by rw [HQ.out]; exact hq) HN.out (by rw [HQ.out]; exact c1) c2
          obtain ⟨r, hr⟩ : ∃ r, near ms n t = r := ⟨_, rfl⟩
          rw [hr] at hnr
          have HR : Hid (near ms n t = r) := hr
          clear hr
          cases r
          case' true =>
            go_wp2_with (go_at_fn 102; refine hnr.mono ?_)
            rintro e w2 ⟨rfl, hb2⟩
            have hb2 := hbt.trans (hb2.mono (by have := hbt.size; have := HU.out; omega))
            clear hnr hbt
            go_wp2
            go_roundw
            case rel => exact ⟨t + 1, by omega, by omega, by go_num, hb2, fun j h1 h2 => by
              by_cases e : j = t
              · rw [e]; exact HR.out
              · exact HALL.out j h1 (by omega)⟩
            case measure => simp [intOf]; omega
          case' false =>
            go_wp2_with (go_at_fn 102; refine hnr.mono ?_)
            rintro e w2 ⟨rfl, hb2⟩
            replace c1 := cell_later hb2 c1
            replace c2 := cell_later hb2 c2
            have hb2 := hbt.trans (hb2.mono (by have := hbt.size; have := HU.out; omega))
            clear hnr hbt hbu
        case' neg =>
          have HR : Hid (near ms n t = false) := by show near ms n t = false; rw [show t = q by omega, ← HQ.out]; exact near_end ms n
          obtain ⟨w2, rfl⟩ : ∃ w2, w2 = wr := ⟨_, rfl⟩
          have hb2 := hbt
          clear hbt hbu
        all_goals
          have hbu : Below wa.heap.size wa w2 := by rw [HU.out]; exact hb2
          have hzw : U ≤ w2.heap.size := by have := hb2.size; have := HU.out; omega
          by_cases hft : k < t
          · have hpc := pieceOf b off ms ca k t w2 (HAR.out.below hbu) HF.out (by rw [HQ.out]; exact HCA.out) hft (by rw [HQ.out]; exact htq)
            have HEND := run_ends HRL.out hft HALL.out HR.out
            have HE1 : Hid (rl ms n (t + 1) = 0) := HEND.1
            have HE2 : Hid (cl ms n (t + 1) = cl ms n k ++ [(((ob (ms.take k) : Nat) : Int), ((nb (ms.take k) : Nat) : Int), (ms.take t).drop k)]) := HEND.2
            rw [HQ.out] at hpc
            obtain ⟨o, ho⟩ : ∃ o, ob (ms.take k) = o := ⟨_, rfl⟩
            obtain ⟨p, hp⟩ : ∃ p, nb (ms.take k) = p := ⟨_, rfl⟩
            obtain ⟨part, hpart⟩ : ∃ part, (ms.take t).drop k = part := ⟨_, rfl⟩
            rw [ho, hp, hpart] at hpc HE2
            obtain ⟨pl, hpl⟩ : ∃ pl, part.length = pl := ⟨_, rfl⟩
            have HPL : Hid (part.length = pl) := hpl
            rw [hpl] at hpc
            have HOW2 : Hid (HOwn w2 B0 u8 (cl ms n k)) := HOW.out.below hbu
            have HUB : Hid (∀ x, u8.ownBlock = some x → x < U) := fun x hx => by
              obtain ⟨xs, h1, _⟩ := HOW.out
              have := (h1.lt x hx).2
              rw [HU.out] at this; exact this
            have HCL : Hid ((cl ms n k).length ≤ 200) := by
              have h6 := (cl_holds ms (fun m hm => ((sf_zero HF.out).2 m hm).1) n k (by rw [HQ.out]; exact hk)).2.2.2.2.2
              have h7 := ob_le (ms.take (k - rl ms n k))
              have h8 := nb_le (ms.take (k - rl ms n k))
              rw [List.length_take, HQ.out] at h7 h8
              show (cl ms n k).length ≤ 200
              split at h6 <;> omega
            clear ho hp hpart hpl HEND HAR HOW HALL HR
            go_wp2_with (go_at_call 103; refine hpc.mono ?_)
            rintro e w3 ⟨g, rfl, hb3, hg1, hg2, hm3⟩
            have hown3 := (HOW2.out.below hb3).below (below_alloc w3 (.cells #[.int .i64 o, .int .i64 p, .slice (some ⟨g, 0, none⟩) pl pl] 40))
            have hm4 := hm3.below (below_alloc w3 (.cells #[.int .i64 o, .int .i64 p, .slice (some ⟨g, 0, none⟩) pl pl] 40))
            have hb3 := hb2.trans (hb3.mono hzw)
            have hz3 : U ≤ w3.heap.size := by have := hb3.size; have := HU.out; omega
            have hb4 := (hbl.trans (hb3.mono hz8)).alloc (by omega) (.cells #[.int .i64 o, .int .i64 p, .slice (some ⟨g, 0, none⟩) pl pl] 40)
            obtain ⟨xs, hown, hat⟩ := hown3
            have HAT := hat
            have hcl := HCL.out
            have HB4 : Hid (Below B0 w0 (w3.alloc (.cells #[.int .i64 o, .int .i64 p, .slice (some ⟨g, 0, none⟩) pl pl] 40))) := hb4
            have HM4 : Hid (Mks (w3.alloc (.cells #[.int .i64 o, .int .i64 p, .slice (some ⟨g, 0, none⟩) pl pl] 40)) (some ⟨g, 0, none⟩) part) := hm4
            clear hpc hb2 hbu hbl hb3 hb4 hm3 hm4 hat HOW2 HCL
            go_wp2_with (at_builtin; refine wpList_append_own_at _ rfl _ _ 24 rfl B0 40 i0 (.agg #[.int .i64 0, .int .i64 0, .slice none 0 0]) 3 40 Tryd.underlying24 hi0 hz0 hz1 hz2 rfl (by decide) _ _ _ rfl hown ⟨w3.heap.size, 0, none⟩ 1 1 [.int .i64 o, .int .i64 p, .slice (some ⟨g, 0, none⟩) pl pl] rfl rfl (cell_three_new _ _ _ _ _) (fun x hx => by simp at hx; rcases hx with rfl | rfl | rfl <;> rfl) (by unfold maxLen; omega) (by omega) (by simp; omega) ?_; intro v' w5 hown' hgrow5 hnil5 hblk5)
            go_roundw
            case rel =>
              refine ⟨t + 1, by omega, by go_num, HE1.out, ?_, ?_⟩
              · exact HB4.out.grown hgrow5 (by simp; omega) (fun j hj => (hown.lt j hj).1)
              · rw [HE2.out]
                refine HOwn.snoc hown HAT (by rw [HPL.out]; exact hown') hgrow5 hblk5 (by simp; omega) (fun e => ?_) HM4.out (by rw [HPL.out]; exact Nat.le_refl _) (by omega)
                have := HUB.out _ e
                omega
            case measure => simp [intOf]; omega
          · have HE1 : Hid (rl ms n (t + 1) = 0) := rl_out HR.out
            have HE2 : Hid (cl ms n (t + 1) = cl ms n k) := by
              show cl ms n (t + 1) = cl ms n k
              obtain rfl : t = k := by omega
              exact cl_out HR.out HRL.out
            have HOW2 : Hid (HOwn w2 B0 u8 (cl ms n k)) := HOW.out.below hbu
            have hb3 := hbl.trans (hb2.mono hz8)
            clear HAR HOW HALL HR hbl hb2 hbu
            go_wp2
            go_roundw
            case rel => exact ⟨t + 1, by omega, by go_num, HE1.out, hb3, by rw [HE2.out]; exact HOW2.out⟩
            case measure => simp [intOf]; omega
    · have HE : Hid (cl ms n k = cut ms n) := by
        show cl ms n k = cut ms n
        unfold cut
        rw [HQ.out]
        by_cases e : k = q
        · rw [e, cl_out (by rw [← HQ.out]; exact near_end ms n) (by rw [← e]; exact HRL.out)]
        · rw [show k = q + 1 by omega]
      have hb3 := HB0.out.trans (hbl.mono (by omega))
      go_wp2
      go_ret2
      refine ⟨_, rfl, by rw [HB.out]; exact hb3, ?_⟩
      rw [HB.out, ← HE.out]
      exact HOW.out.mono (by omega)

end Go.Proofs.YtnkdmgekpajfhaeDoor
