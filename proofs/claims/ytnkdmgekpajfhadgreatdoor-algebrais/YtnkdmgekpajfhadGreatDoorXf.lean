/-
  Walks of the closure in apply.trim, of apply.trim and of apply.stands: what is left of a hunk's marks; whether old lines stand at a place. Walk of apply.Strict: hunks done to lines just where they say; the fault else.
-/
import Derived.Test.YtnkdmgekpajfhadGreatDoorXx
import Derived.Test.YtnkdmgekpajfhadGreatDoorXo
import Derived.Test.YtnkdmgekpajfhadGreatDoorXk
import Derived.Deep.RegionWith

namespace Go.Proofs.YtnkdmgekpajfhadGreatDoor
open Go.RowKit Dist

set_option maxHeartbeats 400000 in
theorem isKept (b off : Nat) (ms : List (Int × ByteArray)) (ca i S : Nat) (w : World) (ha : Mks w (some ⟨b, off, none⟩) ms) (hi : i < ms.length) (hs : w.cell? ⟨S, 0, none⟩ = some (.slice (some ⟨b, off, none⟩) ms.length ca)) :
    Calls Tryz.prog 163 #[.int .i64 i, .pointer (some ⟨S, 0, none⟩)] w fun e w' => e = .returned (.bool (kp ms i)) ∧ w' = w := by
  obtain ⟨b', off', e, hc, _⟩ := ha.at hi
  simp only [Option.some.injEq, Addr.mk.injEq] at e
  obtain ⟨rfl, rfl, _⟩ := e
  have HK : Hid (∀ x, ((ms.getD i (0, ByteArray.empty)).1 == 32) = x → Ending.returned (.bool x) = .returned (.bool (kp ms i))) := fun x hx => by rw [← hx]; rfl
  obtain ⟨c, hcc⟩ : ∃ c, (ms.getD i (0, ByteArray.empty)).1 = c := ⟨_, rfl⟩
  rw [hcc] at hc HK
  obtain ⟨q, hq⟩ : ∃ q, ms.length = q := ⟨_, rfl⟩
  rw [hq] at hs hi
  clear ha hcc hq
  go_enter Tryz.func163, Tryz.ntmps163
  go_wp2
  go_ret
  exact ⟨HK.out _ rfl, rfl⟩

theorem strs_at {B n c : Nat} {a : Option Addr} {ss : List ByteArray} {w : World} (h : w.ownsRow B 9 1 (.slice a n c) n (ss.map Value.string)) (hn : ss.length = n) : Strs w a ss := by
  subst hn
  obtain ⟨a', c', ea, hs⟩ := strs_of_own h
  simp only [Value.slice.injEq] at ea
  rw [ea.1]; exact hs

theorem stB_parts (xs ys : List ByteArray) (p : Nat) (h : p + ys.length ≤ xs.length) : stB xs p ys = decide ((xs.take (p + ys.length)).drop p = ys) := by
  unfold stB
  have e : (xs.take (p + ys.length)).drop p = (xs.drop p).take ys.length := by rw [List.drop_take, Nat.add_sub_cancel_left]
  rw [e]
  by_cases h2 : (xs.drop p).take ys.length = ys
  · rw [decide_eq_true h2, decide_eq_true ⟨h, h2⟩]
  · rw [decide_eq_false h2, decide_eq_false (fun h => h2 h.2)]

set_option maxRecDepth 100000 in
set_option maxHeartbeats 1000000 in
theorem standsS (a b : Option Addr) (xs ys : List ByteArray) (ca cb p : Nat) (w : World) (ha : Strs w a xs) (hb : Strs w b ys) (hca : xs.length ≤ ca) (hx : xs.length ≤ 1000) (hy : ys.length ≤ 1000) (hp : p ≤ 100000) :
    Calls Tryz.prog 144 #[.slice a xs.length ca, .slice b ys.length cb, .int .i64 p] w fun e w' => e = .returned (.bool (stB xs p ys)) ∧ Below w.heap.size w w' := by
  by_cases h : p + ys.length ≤ xs.length
  · have heq := equalS (sa a ca p) b ((xs.take (p + ys.length)).drop p) ys (ca - p) cb w (ha.part hca p (p + ys.length)) hb (by rw [List.length_drop, List.length_take]; unfold maxLen; omega)
    rw [← stB_parts xs ys p h, List.length_drop, List.length_take, Nat.min_eq_left h, Nat.add_sub_cancel_left] at heq
    have hsl := fun w => run_slice_at a xs.length ca p (p + ys.length) (by omega) (by omega) w p ((p : Int) + ys.length) rfl (by omega)
    rw [Nat.add_sub_cancel_left] at hsl
    obtain ⟨r, hr⟩ : ∃ r, stB xs p ys = r := ⟨_, rfl⟩
    obtain ⟨m, hm⟩ : ∃ m, xs.length = m := ⟨_, rfl⟩
    obtain ⟨n, hn⟩ : ∃ n, ys.length = n := ⟨_, rfl⟩
    rw [hr, hn] at heq
    rw [hm, hn] at hsl h
    rw [hm] at hx
    rw [hn] at hy
    rw [hr, hm, hn]
    have h' : (p : Int) + n ≤ m := by omega
    clear ha hb hca hr hm hn h
    go_enter Tryz.func144, Tryz.ntmps144
    go_wp2_with (go_at_call 69; refine heq.mono ?_)
    rintro e w1 ⟨rfl, hb1⟩
    clear heq
    go_wp2
    go_ret
    exact ⟨rfl, hb1⟩
  · have he : stB xs p ys = false := by unfold stB; exact decide_eq_false (fun h2 => h h2.1)
    rw [he]
    obtain ⟨m, hm⟩ : ∃ m, xs.length = m := ⟨_, rfl⟩
    obtain ⟨n, hn⟩ : ∃ n, ys.length = n := ⟨_, rfl⟩
    rw [hm, hn] at h
    rw [hm] at hx
    rw [hn] at hy
    rw [hm, hn]
    have h' : ¬ ((p : Int) + n ≤ m) := by omega
    clear ha hb hca hm hn h he
    go_enter Tryz.func144, Tryz.ntmps144
    go_wp2
    go_ret
    exact ⟨rfl, Below.refl _ _⟩

set_option maxRecDepth 100000 in
set_option maxHeartbeats 8000000 in
theorem trimOf (b off : Nat) (ms : List (Int × ByteArray)) (ca n : Nat) (w : World) (ha : Mks w (some ⟨b, off, none⟩) ms) (hsf : sf ms = 0) (hca : ms.length ≤ ca) (hch : 0 < chg ms) (hn : n ≤ 1000) :
    Calls Tryz.prog 143 #[.slice (some ⟨b, off, none⟩) ms.length ca, .int .i64 n] w fun e w' => ∃ a1 c1 a2 c2, e = .returned (.agg #[.int .i64 (hd ms n), .slice a1 (lessOf 43 (ptM ms n)).length c1, .slice a2 (lessOf 45 (ptM ms n)).length c2]) ∧ Strs w' a1 (lessOf 43 (ptM ms n)) ∧ Strs w' a2 (lessOf 45 (ptM ms n)) ∧ Below w.heap.size w w' := by
  have hm := (sf_zero hsf).1
  have HSF : Hid (sf ms = 0) := hsf
  obtain ⟨c, hc, hkc⟩ := chg_ex hch
  have HH := hd_lt hkc n
  have HT := tl_gt hc hkc n
  have HTL := (tl_spec ms n).1
  have hmf : ∀ (fn : Fn) (first cap : Array Value) (w : World), (Instr.makeFunc fn first cap).run Tryz.prog w = .ok (.func fn first cap) w := fun _ _ _ _ => rfl
  have eg : ∀ args w, (callFunc 163 args).run Tryz.prog w = .ok (.enter 163 args) w := enters_of Tryz.func163 (by kernel_rfl) rfl
  obtain ⟨q, hq⟩ : ∃ q, ms.length = q := ⟨_, rfl⟩
  have HQ : Hid (ms.length = q) := hq
  rw [hq] at hca hm hc HTL ⊢
  have HA : Hid (Mks w (some ⟨b, off, none⟩) ms) := ha
  have HKC : Hid (kp ms c = false) := hkc
  clear ha hkc hq hsf hch
  go_enter Tryz.func143, Tryz.ntmps143
  go_wp2
  go_quiet (fail)
  go_wp2
  have hb0 : Below w.heap.size w (((w.alloc (.cells #[.slice (some ⟨b, off, none⟩) q ca] 55)).alloc (.cells #[.int .i64 0, .slice none 0 0, .slice none 0 0] 222)).drewN nq) := below_drawn (((Below.refl _ _).alloc (Nat.le_refl _) _).alloc (by simp) _)
  have hs0 : (((w.alloc (.cells #[.slice (some ⟨b, off, none⟩) q ca] 55)).alloc (.cells #[.int .i64 0, .slice none 0 0, .slice none 0 0] 222)).drewN nq).heap.size = w.heap.size + 2 := by simp
  have hk0 : (((w.alloc (.cells #[.slice (some ⟨b, off, none⟩) q ca] 55)).alloc (.cells #[.int .i64 0, .slice none 0 0, .slice none 0 0] 222)).drewN nq).cell? ⟨w.heap.size, 0, none⟩ = some (.slice (some ⟨b, off, none⟩) q ca) := by simp
  have hk1 : (((w.alloc (.cells #[.slice (some ⟨b, off, none⟩) q ca] 55)).alloc (.cells #[.int .i64 0, .slice none 0 0, .slice none 0 0] 222)).drewN nq).heap[w.heap.size + 1]? = some (.cells #[.int .i64 0, .slice none 0 0, .slice none 0 0] 222) := by
    have h := heap_alloc_new (w.alloc (.cells #[.slice (some ⟨b, off, none⟩) q ca] 55)) (.cells #[.int .i64 0, .slice none 0 0, .slice none 0 0] 222)
    rw [show (w.alloc (.cells #[.slice (some ⟨b, off, none⟩) q ca] 55)).heap.size = w.heap.size + 1 by simp] at h
    exact h
  generalize (((w.alloc (.cells #[.slice (some ⟨b, off, none⟩) q ca] 55)).alloc (.cells #[.int .i64 0, .slice none 0 0, .slice none 0 0] 222)).drewN nq) = W0 at hb0 hs0 hk0 hk1 ⊢
  have HB0 : Hid (Below w.heap.size w W0) := hb0
  have HS0 : Hid (W0.heap.size = w.heap.size + 2) := hs0
  have hz0 : w.heap.size < W0.heap.size := by omega
  have hz1 : w.heap.size + 1 < W0.heap.size := by omega
  have HK1 : Hid (W0.heap[w.heap.size + 1]? = some (.cells #[.int .i64 0, .slice none 0 0, .slice none 0 0] 222)) := hk1
  have HA0 : Hid (Mks W0 (some ⟨b, off, none⟩) ms) := HA.out.below hb0
  have HIK := fun i (hi : i < q) => isKept b off ms ca i w.heap.size W0 HA0.out (by rw [HQ.out]; exact hi) (by rw [HQ.out]; exact hk0)
  clear hb0 hs0 hk1 hmf
  go_loop [6] (fun v => ∃ h : Nat, h ≤ n ∧ v = .int .i64 h ∧ hdF ms (n - h) h = hd ms n ∧ ∀ j, j < h → kp ms j = true) (fun v => n - (intOf v).toNat)
  case atStart => exact ⟨0, Nat.zero_le _, rfl, rfl, fun j hj => absurd hj (Nat.not_lt_zero _)⟩
  case round =>
    obtain ⟨h, hhn, rfl, hrest, hall⟩ := hrel
    have hhc : h ≤ c := by
      by_cases e : h ≤ c
      · exact e
      · have := hall c (by omega); rw [HKC.out] at this; cases this
    have HR : Hid (hdF ms (n - h) h = hd ms n) := hrest
    have HALL : Hid (∀ j, j < h → kp ms j = true) := hall
    clear hrest hall
    by_cases hlt : h < n
    case' pos =>
      have hik := HIK h (by omega)
      by_cases hk : kp ms h = true
      case' pos =>
        rw [hk] at hik
        have HK : Hid (kp ms h = true) := hk
        clear hk HIK
        go_wp2_with (go_at_fn 163; refine hik.mono ?_; rintro e w' ⟨rfl, hw⟩; rw [hw])
        go_round
        case rel =>
          refine ⟨h + 1, by omega, by go_num, ?_, fun j hj => ?_⟩
          · rw [← HR.out, show n - h = (n - (h + 1)) + 1 by omega, hdF, if_pos HK.out]
          · by_cases e : j = h
            · rw [e]; exact HK.out
            · exact HALL.out j (by omega)
        case measure => simp [intOf]; omega
      case' neg =>
        have hk : kp ms h = false := by simpa using hk
        rw [hk] at hik
        have HD : Hid (hd ms n = h) := by
          show hd ms n = h
          rw [← HR.out, show n - h = (n - (h + 1)) + 1 by omega, hdF, if_neg (by rw [hk]; simp)]
        clear hk
        go_wp2_with (go_at_fn 163; refine hik.mono ?_; rintro e w' ⟨rfl, hw⟩; rw [hw])
        clear hik
    case' neg =>
      have HD : Hid (hd ms n = h) := by
        show hd ms n = h
        rw [← HR.out, show n - h = 0 by omega, hdF]
      go_wp2
    all_goals
      clear HR HALL
      have OLD := fun t (ht : tl ms n = t) (htq : t ≤ q) => old_own (some ⟨b, off + h * 2, none⟩) ((ms.take t).drop h) (ca - h) (W0.alloc (.cells #[.int .i64 h, .slice none 0 0, .slice none 0 0] 222)) ((HA0.out.part h t).below (below_alloc _ _)) (sf_part HSF.out h t)
      go_loop [7] (fun v => ∃ t : Nat, t ≤ q ∧ q - t ≤ n ∧ v = .int .i64 t ∧ tlF ms (n - (q - t)) t = tl ms n ∧ ∀ j, t ≤ j → j < q → kp ms j = true) (fun v => (intOf v).toNat)
      case atStart => exact ⟨q, Nat.le_refl _, by omega, rfl, by rw [Nat.sub_self, Nat.sub_zero, ← HQ.out]; rfl, fun j h1 h2 => by omega⟩
      case round =>
        obtain ⟨t, htq, hqn, rfl, hrest, hall⟩ := hrel
        have hct : c < t := by
          by_cases e : c < t
          · exact e
          · have := hall c (by omega) hc; rw [HKC.out] at this; cases this
        have HR : Hid (tlF ms (n - (q - t)) t = tl ms n) := hrest
        have HALL : Hid (∀ j, t ≤ j → j < q → kp ms j = true) := hall
        clear hrest hall
        by_cases hlt2 : (q : Int) - t < n
        case' pos =>
          have hik := HIK (t - 1) (by omega)
          rw [show ((t - 1 : Nat) : Int) = (t : Int) - 1 by omega] at hik
          by_cases hk : kp ms (t - 1) = true
          case' pos =>
            rw [hk] at hik
            have HK : Hid (kp ms (t - 1) = true) := hk
            clear hk HIK
            go_wp2_with (go_at_fn 163; refine hik.mono ?_; rintro e w' ⟨rfl, hw⟩; rw [hw])
            go_round
            case rel =>
              refine ⟨t - 1, by omega, by omega, by rw [show ((t - 1 : Nat) : Int) = (t : Int) - 1 by omega], ?_, fun j h1 h2 => ?_⟩
              · rw [← HR.out, show n - (q - t) = (n - (q - (t - 1))) + 1 by omega, tlF, if_neg (by omega), if_pos HK.out]
              · by_cases e : j = t - 1
                · rw [e]; exact HK.out
                · exact HALL.out j (by omega) h2
            case measure => simp [intOf]; omega
          case' neg =>
            have hk : kp ms (t - 1) = false := by simpa using hk
            rw [hk] at hik
            have TD : Hid (tl ms n = t) := by
              show tl ms n = t
              rw [← HR.out, show n - (q - t) = (n - (q - (t - 1))) + 1 by omega, tlF, if_neg (by omega), if_neg (by rw [hk]; simp)]
            have hht : h ≤ t := by omega
            have hold := OLD t TD.out htq
            rw [List.length_drop, List.length_take, HQ.out, Nat.min_eq_left htq] at hold
            clear hk
            go_wp2_with (go_at_fn 163; refine hik.mono ?_; rintro e w' ⟨rfl, hw⟩; rw [hw])
            clear hik
        case' neg =>
          have TD : Hid (tl ms n = t) := by
            show tl ms n = t
            rw [← HR.out, show n - (q - t) = 0 by omega, tlF]
          have hht : h ≤ t := by omega
          have hold := OLD t TD.out htq
          rw [List.length_drop, List.length_take, HQ.out, Nat.min_eq_left htq] at hold
          go_wp2_with fail
        all_goals
          refine hold.mono ?_
          rintro e w1 ⟨v1, rfl, ho1, hb1⟩
          clear hold OLD HIK eg HR HALL
          have E1 : Hid ((ms.take t).drop h = ptM ms n) := by show (ms.take t).drop h = ptM ms n; unfold ptM; rw [HD.out, TD.out]
          rw [E1.out] at ho1
          have hb01 := (below_alloc W0 (.cells #[.int .i64 h, .slice none 0 0, .slice none 0 0] 222)).trans (hb1.mono (by simp))
          have kp1 := blk_below hb1 (by simp) (heap_alloc_new W0 (.cells #[.int .i64 h, .slice none 0 0, .slice none 0 0] 222))
          have kr1 := blk_below hb01 hz1 HK1.out
          have ks1 := cell_later hb01 hk0
          have hbW : Below w.heap.size w w1 := HB0.out.trans (hb01.mono (by omega))
          have hzw : W0.heap.size < w1.heap.size := by have := hb1.size; simp at this; omega
          rw [show (W0.alloc (.cells #[.int .i64 h, .slice none 0 0, .slice none 0 0] 222)).heap.size = W0.heap.size + 1 by simp] at ho1
          obtain ⟨B, hB⟩ : ∃ B, w.heap.size = B := ⟨_, rfl⟩
          have hP := HS0.out
          rw [hP, hB] at hzw kp1 ho1
          rw [hB] at kr1 ks1 hbW
          rw [hP, hB]
          have HBE : Hid (w.heap.size = B) := hB
          clear hB hP hb1 hb01 HA0 HB0 HS0 HK1 hk0 hz0 hz1
          try clear hw
          obtain ⟨xs, hxs⟩ : ∃ xs, lessOf 43 (ptM ms n) = xs := ⟨_, rfl⟩
          obtain ⟨ys, hys⟩ : ∃ ys, lessOf 45 (ptM ms n) = ys := ⟨_, rfl⟩
          rw [hxs] at ho1
          obtain ⟨a1, c1, rfl, _, _⟩ := strs_of_own_cap ho1
          obtain ⟨m1, hm1⟩ : ∃ m, xs.length = m := ⟨_, rfl⟩
          obtain ⟨m2, hm2⟩ : ∃ m, ys.length = m := ⟨_, rfl⟩
          have HM1 : Hid (xs.length = m1) := hm1
          have HM2 : Hid (ys.length = m2) := hm2
          have HXS : Hid (lessOf 43 (ptM ms n) = xs) := hxs
          have HYS : Hid (lessOf 45 (ptM ms n) = ys) := hys
          rw [hm1] at ho1
          rw [hm1]
          have q1 : w1.cell? ⟨B + 2, 1, none⟩ = some (.slice none 0 0) := by rw [Lib.cell_of_heap kp1]; rfl
          have g1 := Lib.frozen_of_heap kp1 1
          have hbW2 : Below B w (w1.setCell ⟨B + 2, 1, none⟩ (.slice a1 m1 c1)) := hbW.setCell (by simp) _
          have hnew := new_own (some ⟨b, off + h * 2, none⟩) ((ms.take t).drop h) (ca - h) (w1.setCell ⟨B + 2, 1, none⟩ (.slice a1 m1 c1)) ((HA.out.below (by rw [HBE.out]; exact hbW2)).part h t) (sf_part HSF.out h t)
          rw [List.length_drop, List.length_take, HQ.out, Nat.min_eq_left htq, E1.out, hys, hm2] at hnew
          have KP2 : Hid ((w1.setCell ⟨B + 2, 1, none⟩ (.slice a1 m1 c1)).heap[B + 2]? = some (.cells #[.int .i64 h, .slice a1 m1 c1, .slice none 0 0] 222)) := blk_set kp1 _
          have KR2 : Hid ((w1.setCell ⟨B + 2, 1, none⟩ (.slice a1 m1 c1)).heap[B + 1]? = some (.cells #[.int .i64 0, .slice none 0 0, .slice none 0 0] 222)) := by
            show (w1.setCell ⟨B + 2, 1, none⟩ (.slice a1 m1 c1)).heap[B + 1]? = _
            simp only [World.setCell, Array.getElem?_modify]
            rw [if_neg (by omega)]; exact kr1
          have HO2 : Hid ((w1.setCell ⟨B + 2, 1, none⟩ (.slice a1 m1 c1)).ownsRow (B + 2 + 1) 9 1 (.slice a1 m1 c1) m1 (xs.map Value.string)) := own_ne ho1 (fun e => by have := (ho1.lt _ e).1; omega) _
          have HBW2 : Hid (Below B w (w1.setCell ⟨B + 2, 1, none⟩ (.slice a1 m1 c1))) := hbW2
          clear hxs hys hm1 hm2 kp1 kr1 ho1 hbW hbW2
          go_wp2_with (go_at_call 165; refine hnew.mono ?_)
          rintro e w2 ⟨v2, rfl, ho2, hb2⟩
          have hsz2 : (w1.setCell ⟨B + 2, 1, none⟩ (.slice a1 m1 c1)).heap.size = w1.heap.size := by simp
          have kp2 := blk_below hb2 (by rw [hsz2]; omega) KP2.out
          have kr2 := blk_below hb2 (by rw [hsz2]; omega) KR2.out
          have HO3 := own_later HO2.out hb2
          have hbW3 := HBW2.out.trans (hb2.mono (by have := HBW2.out.size; have := HBE.out; omega))
          rw [hsz2] at ho2
          rw [← HM2.out] at ho2
          obtain ⟨a2, c2, rfl, _, _⟩ := strs_of_own_cap ho2
          rw [HM2.out] at ho2
          rw [HM2.out]
          have p0 : w2.cell? ⟨B + 2, 0, none⟩ = some (.int .i64 h) := by rw [Lib.cell_of_heap kp2]; rfl
          have p1 : w2.cell? ⟨B + 2, 1, none⟩ = some (.slice a1 m1 c1) := by rw [Lib.cell_of_heap kp2]; rfl
          have p2 : w2.cell? ⟨B + 2, 2, none⟩ = some (.slice none 0 0) := by rw [Lib.cell_of_heap kp2]; rfl
          have g2 := Lib.frozen_of_heap kp2 2
          have r0 : w2.cell? ⟨B + 1, 0, none⟩ = some (.int .i64 0) := by rw [Lib.cell_of_heap kr2]; rfl
          have r1 : w2.cell? ⟨B + 1, 1, none⟩ = some (.slice none 0 0) := by rw [Lib.cell_of_heap kr2]; rfl
          have r2 : w2.cell? ⟨B + 1, 2, none⟩ = some (.slice none 0 0) := by rw [Lib.cell_of_heap kr2]; rfl
          have f0 := Lib.frozen_of_heap kr2 0
          have f1 := Lib.frozen_of_heap kr2 1
          have f2 := Lib.frozen_of_heap kr2 2
          have kr3 : (w2.setCell ⟨B + 2, 2, none⟩ (.slice a2 m2 c2)).heap[B + 1]? = some (.cells #[.int .i64 0, .slice none 0 0, .slice none 0 0] 222) := by
            simp only [World.setCell, Array.getElem?_modify]
            rw [if_neg (by omega)]; exact kr2
          have kr4 := blk_set (i := 2) (blk_set (i := 1) (blk_set (i := 0) kr3 (.int .i64 h)) (.slice a1 m1 c1)) (.slice a2 m2 c2)
          have e0 := Lib.cell_of_heap kr4 0
          have e1 := Lib.cell_of_heap kr4 1
          have e2 := Lib.cell_of_heap kr4 2
          simp at e0 e1 e2
          have ob1 : ∀ x, x ≤ B + 2 → (Value.slice a1 m1 c1).ownBlock ≠ some x := fun x hx e => by have := (HO3.lt _ e).1; omega
          have ob2 : ∀ x, x ≤ B + 2 → (Value.slice a2 m2 c2).ownBlock ≠ some x := fun x hx e => by have := (ho2.lt _ e).1; omega
          have HF1 : Hid (((((w2.setCell ⟨B + 2, 2, none⟩ (.slice a2 m2 c2)).setCell ⟨B + 1, 0, none⟩ (.int .i64 h)).setCell ⟨B + 1, 1, none⟩ (.slice a1 m1 c1)).setCell ⟨B + 1, 2, none⟩ (.slice a2 m2 c2)).ownsRow (B + 2 + 1) 9 1 (.slice a1 m1 c1) m1 (xs.map Value.string)) := own_ne (own_ne (own_ne (own_ne HO3 (ob1 _ (by omega)) _) (ob1 _ (by omega)) _) (ob1 _ (by omega)) _) (ob1 _ (by omega)) _
          have HF2 : Hid (((((w2.setCell ⟨B + 2, 2, none⟩ (.slice a2 m2 c2)).setCell ⟨B + 1, 0, none⟩ (.int .i64 h)).setCell ⟨B + 1, 1, none⟩ (.slice a1 m1 c1)).setCell ⟨B + 1, 2, none⟩ (.slice a2 m2 c2)).ownsRow w1.heap.size 9 1 (.slice a2 m2 c2) m2 (ys.map Value.string)) := own_ne (own_ne (own_ne (own_ne ho2 (ob2 _ (by omega)) _) (ob2 _ (by omega)) _) (ob2 _ (by omega)) _) (ob2 _ (by omega)) _
          have HBF : Hid (Below B w ((((w2.setCell ⟨B + 2, 2, none⟩ (.slice a2 m2 c2)).setCell ⟨B + 1, 0, none⟩ (.int .i64 h)).setCell ⟨B + 1, 1, none⟩ (.slice a1 m1 c1)).setCell ⟨B + 1, 2, none⟩ (.slice a2 m2 c2))) := (((hbW3.setCell (by simp) _).setCell (by simp) _).setCell (by simp) _).setCell (by simp) _
          clear hnew KP2 KR2 HO2 HBW2 kp2 kr2 kr3 kr4 HO3 ho2 hbW3 hb2 ob1 ob2 hsz2 ks1 q1 g1
          go_wp2
          refine bodyPost_ret (v := .agg #[.int .i64 h, .slice a1 m1 c1, .slice a2 m2 c2]) (by simp [results, Tryz.results143, go_sem, e0, e1, e2]) rfl ⟨a1, c1, a2, c2, ?_, ?_, ?_, ?_⟩
          · rw [HD.out, HXS.out, HYS.out, HM1.out, HM2.out]
          · rw [HXS.out]; exact strs_at HF1.out HM1.out
          · rw [HYS.out]; exact strs_at HF2.out HM2.out
          · rw [HBE.out]; exact HBF.out

end Go.Proofs.YtnkdmgekpajfhadGreatDoor

namespace Go.Proofs.YtnkdmgekpajfhadGreatDoor
open Go.RowKit Dist

/-- The place and the fault of hunks that are done strictly. -/
def stF (xs : List ByteArray) (l : List Hk) : Nat × Int :=
  if lsf (bts xs) ≠ 0 then (0, lsf (bts xs)) else if (hf l).2 ≠ 0 then hf l else match clash xs l with
    | some k => (k, 6)
    | none => if 60 < (sR xs l).length then (0, 3) else (0, 0)
/-- What comes of it, if there is no fault. -/
def stO (xs : List ByteArray) (l : List Hk) : List ByteArray := if (stF xs l).2 = 0 then sR xs l else []

theorem stF_lines {xs : List ByteArray} {l : List Hk} (h : lsf (bts xs) ≠ 0) : stF xs l = (0, lsf (bts xs)) := by unfold stF; rw [if_pos h]
theorem stF_hunks {xs : List ByteArray} {l : List Hk} (h : lsf (bts xs) = 0) (h2 : (hf l).2 ≠ 0) : stF xs l = hf l := by unfold stF; rw [if_neg (fun x => x h), if_pos h2]
theorem stF_clash {xs : List ByteArray} {l : List Hk} {k : Nat} (h : lsf (bts xs) = 0) (h2 : (hf l).2 = 0) (h3 : clash xs l = some k) : stF xs l = (k, 6) := by unfold stF; rw [if_neg (fun x => x h), if_neg (fun x => x h2), h3]
theorem stF_full {xs : List ByteArray} {l : List Hk} (h : lsf (bts xs) = 0) (h2 : (hf l).2 = 0) (h3 : clash xs l = none) (h4 : 60 < (sR xs l).length) : stF xs l = (0, 3) := by unfold stF; rw [if_neg (fun x => x h), if_neg (fun x => x h2), h3]; exact if_pos h4
theorem stF_ok {xs : List ByteArray} {l : List Hk} (h : lsf (bts xs) = 0) (h2 : (hf l).2 = 0) (h3 : clash xs l = none) (h4 : ¬ 60 < (sR xs l).length) : stF xs l = (0, 0) := by unfold stF; rw [if_neg (fun x => x h), if_neg (fun x => x h2), h3]; exact if_neg h4
theorem stO_bad {xs : List ByteArray} {l : List Hk} (h : (stF xs l).2 ≠ 0) : stO xs l = [] := by unfold stO; rw [if_neg h]
theorem stO_ok {xs : List ByteArray} {l : List Hk} (h : (stF xs l).2 = 0) : stO xs l = sR xs l := by unfold stO; rw [if_pos h]

/-- No fault: lines and hunks have none, all stand, there is room. -/
theorem stF_zero {xs : List ByteArray} {l : List Hk} (h : (stF xs l).2 = 0) : lsf (bts xs) = 0 ∧ (hf l).2 = 0 ∧ clash xs l = none ∧ (sR xs l).length ≤ 60 := by
  by_cases h1 : lsf (bts xs) = 0
  · by_cases h2 : (hf l).2 = 0
    · cases h3 : clash xs l with
      | some k => rw [stF_clash h1 h2 h3] at h; simp at h
      | none =>
        by_cases h4 : 60 < (sR xs l).length
        · rw [stF_full h1 h2 h3 h4] at h; simp at h
        · exact ⟨h1, h2, rfl, by omega⟩
    · rw [stF_hunks h1 h2] at h; exact absurd h h2
  · rw [stF_lines h1] at h; exact absurd h h1

/-- Hunks without a fault are good. -/
theorem hf_good {l : List Hk} (h : (hf l).2 = 0) : Dist.Good l ∧ l.length ≤ 60 ∧ ∀ x ∈ l, sf x.2.2 = 0 ∧ 0 < chg x.2.2 ∧ 0 ≤ x.1 ∧ x.1 ≤ 60 := by
  obtain ⟨h1, h2⟩ := hf_zero h
  have hat : ∀ x ∈ l, sf x.2.2 = 0 ∧ 0 < chg x.2.2 ∧ 0 ≤ x.1 ∧ x.1 ≤ 60 := fun x hx => by
    obtain ⟨i, hi, rfl⟩ := List.mem_iff_getElem.1 hx
    have h3 := hOne_zero (hAt_zero (h2 i hi)).1
    have e : l.getD i (0, 0, []) = l[i] := by simp [hi]
    rw [e] at h3
    exact ⟨h3.1, h3.2.1, h3.2.2.1, h3.2.2.2.1⟩
  refine ⟨⟨fun j hj => (hAt_zero (h2 j hj)).2, fun x hx => ?_⟩, h1, hat⟩
  obtain ⟨a1, a2, a3, a4⟩ := hat x hx
  exact ⟨a3, fun m hm => ((sf_zero a1).2 m hm).1⟩

theorem sO_small {xs : List ByteArray} {l : List Hk} (h : ∀ x ∈ l, sf x.2.2 = 0 ∧ 0 < chg x.2.2 ∧ 0 ≤ x.1 ∧ x.1 ≤ 60) (k : Nat) (hk : k ≤ l.length) : (sO xs l k).length ≤ 180 * k := by
  induction k with
  | zero => exact Nat.le_refl _
  | succ k ih =>
    have := ih (by omega)
    obtain ⟨a1, _, _, a4⟩ := h _ (hk_mem (show k < l.length by omega))
    have h3 := (sf_zero a1).1
    have h4 := lessOf_len 45 (l.getD k (0, 0, [])).2.2
    rw [sO, List.length_append, List.length_append, List.length_drop, List.length_take]
    omega

theorem sO_mem {xs : List ByteArray} {l : List Hk} {x : ByteArray} (k : Nat) (hk : k ≤ l.length) (hx : x ∈ sO xs l k) : x ∈ xs ∨ ∃ h ∈ l, ∃ m ∈ h.2.2, m.2 = x := by
  induction k with
  | zero => cases hx
  | succ k ih =>
    rw [sO] at hx
    rcases List.mem_append.1 hx with hx | hx
    · exact ih (by omega) hx
    · rcases List.mem_append.1 hx with hx | hx
      · exact .inl (List.mem_of_mem_take (List.mem_of_mem_drop hx))
      · obtain ⟨m, hm, e⟩ := less_mem hx
        exact .inr ⟨_, hk_mem (show k < l.length by omega), m, hm, e⟩

/-- What comes are lines. -/
theorem sR_lines {xs : List ByteArray} {l : List Hk} (h1 : lsf (bts xs) = 0) (h2 : (hf l).2 = 0) : ∀ x ∈ sR xs l, lf x.data.toList = 0 := by
  intro x hx
  unfold sR at hx
  have hin : x ∈ xs ∨ ∃ h ∈ l, ∃ m ∈ h.2.2, m.2 = x := by
    rcases List.mem_append.1 hx with hx | hx
    · exact sO_mem _ (Nat.le_refl _) hx
    · exact .inl (List.mem_of_mem_drop hx)
  rcases hin with hx | ⟨h, hh, m, hm, rfl⟩
  · exact (lsf_zero h1).2 _ (List.mem_map.2 ⟨x, hx, rfl⟩)
  · exact ((sf_zero ((hf_good h2).2.2 h hh).1).2 m hm).2

theorem sR_sizes {xs : List ByteArray} {l : List Hk} (h1 : lsf (bts xs) = 0) (h2 : (hf l).2 = 0) : ∀ x ∈ sR xs l, x.size ≤ 80 := fun x hx => by
  have := (lf_zero (sR_lines h1 h2 x hx)).2
  rw [Lib.size_eq]; exact this

/-- The file ends behind what stands in it. -/
theorem eN_in {xs : List ByteArray} {l : List Hk} (hg : Dist.Good l) {k : Nat} (hk : k ≤ l.length) (hs : ∀ j, j < k → stH xs (l.getD j (0, 0, [])) = true) : eN l k ≤ xs.length := by
  cases k with
  | zero => rw [eN_zero]; exact Nat.zero_le _
  | succ k =>
    obtain ⟨_, _, _, g4⟩ := hg.at (show k < l.length by omega)
    have := hs k (by omega)
    unfold stH at this
    rw [g4]
    exact (stB_iff.1 this).1

/-- Three lists of lines, new. -/
theorem pts_three (w : World) (a b c : Option Addr) (xs ys zs : List ByteArray) (ca cb cc : Nat) (t : TypeId) (ha : Strs w a xs) (hb : Strs w b ys) (hc : Strs w c zs) : Pts (w.alloc (.cells #[.slice a xs.length ca, .slice b ys.length cb, .slice c zs.length cc] t)) (some ⟨w.heap.size, 0, none⟩) [xs, ys, zs] := by
  intro i hi
  have hblk := heap_alloc_new w (.cells #[.slice a xs.length ca, .slice b ys.length cb, .slice c zs.length cc] t)
  have hbl := below_alloc w (.cells #[.slice a xs.length ca, .slice b ys.length cb, .slice c zs.length cc] t)
  match i, hi with
  | 0, _ => exact ⟨_, 0, a, ca, rfl, by rw [Lib.cell_of_heap hblk]; rfl, ha.below hbl⟩
  | 1, _ => exact ⟨_, 0, b, cb, rfl, by rw [Lib.cell_of_heap hblk]; rfl, hb.below hbl⟩
  | 2, _ => exact ⟨_, 0, c, cc, rfl, by rw [Lib.cell_of_heap hblk]; rfl, hc.below hbl⟩

theorem pts_two (w : World) (a b : Option Addr) (xs ys : List ByteArray) (ca cb : Nat) (t : TypeId) (ha : Strs w a xs) (hb : Strs w b ys) : Pts (w.alloc (.cells #[.slice a xs.length ca, .slice b ys.length cb] t)) (some ⟨w.heap.size, 0, none⟩) [xs, ys] := by
  intro i hi
  have hblk := heap_alloc_new w (.cells #[.slice a xs.length ca, .slice b ys.length cb] t)
  have hbl := below_alloc w (.cells #[.slice a xs.length ca, .slice b ys.length cb] t)
  match i, hi with
  | 0, _ => exact ⟨_, 0, a, ca, rfl, by rw [Lib.cell_of_heap hblk]; rfl, ha.below hbl⟩
  | 1, _ => exact ⟨_, 0, b, cb, rfl, by rw [Lib.cell_of_heap hblk]; rfl, hb.below hbl⟩

set_option maxHeartbeats 400000 in
theorem strict_lines (a la : Option Addr) (xs : List ByteArray) (n ca cl : Nat) (w : World) (ha : Strs w a xs) (h1 : xs.length ≤ maxLen) (hf1 : lsf (bts xs) ≠ 0) :
    Calls Tryz.prog 125 #[.slice a xs.length ca, .slice la n cl] w fun e w' => e = .returned (.tuple #[.slice none 0 0, .int .i64 0, .iface 23 (.int .i64 (lsf (bts xs)))]) ∧ w' = w := by
  have hck := check_any a xs ca w ha h1
  rw [errV_not hf1] at hck
  obtain ⟨m, hm⟩ : ∃ m, xs.length = m := ⟨_, rfl⟩
  obtain ⟨f, hf⟩ : ∃ f, lsf (bts xs) = f := ⟨_, rfl⟩
  rw [hm, hf] at hck
  rw [hm, hf]
  clear ha h1 hf1 hm hf
  go_enter Tryz.func125, Tryz.ntmps125
  go_wp2_with (go_at_call 142; refine hck.mono ?_; rintro e w' ⟨rfl, hw⟩; rw [hw])
  refine bodyPost_ret (v := .tuple #[.slice none 0 0, .int .i64 0, .iface 23 (.int .i64 f)]) (by simp [results, Tryz.results125, go_sem]) rfl ⟨rfl, rfl⟩

set_option maxHeartbeats 400000 in
theorem strict_hunks (a la : Option Addr) (xs : List ByteArray) (l : List Hk) (ca cl : Nat) (w : World) (ha : Strs w a xs) (hl : Hks w la l) (h1 : xs.length ≤ maxLen) (h0 : l.length ≤ maxLen) (h00 : ∀ h ∈ l, h.2.2.length ≤ maxLen) (hf1 : lsf (bts xs) = 0) (hf2 : (hf l).2 ≠ 0) :
    Calls Tryz.prog 125 #[.slice a xs.length ca, .slice la l.length cl] w fun e w' => e = .returned (.tuple #[.slice none 0 0, .int .i64 (hf l).1, .iface 23 (.int .i64 (hf l).2)]) ∧ Below w.heap.size w w' := by
  have hck := check_any a xs ca w ha h1
  rw [hf1, errV_zero] at hck
  have hhk := hunkCheck la l cl w hl h0 h00
  rw [errV_not hf2] at hhk
  obtain ⟨m, hm⟩ : ∃ m, xs.length = m := ⟨_, rfl⟩
  obtain ⟨n, hn⟩ : ∃ n, l.length = n := ⟨_, rfl⟩
  obtain ⟨f, hf'⟩ : ∃ f, (hf l).2 = f := ⟨_, rfl⟩
  obtain ⟨k, hk⟩ : ∃ k, (hf l).1 = k := ⟨_, rfl⟩
  rw [hm] at hck
  rw [hn, hf', hk] at hhk
  rw [hm, hn, hf', hk]
  clear ha hl h1 h0 h00 hf1 hf2 hm hn hf' hk
  go_enter Tryz.func125, Tryz.ntmps125
  go_wp2_with (go_at_call 142; refine hck.mono ?_; rintro e w' ⟨rfl, hw⟩; rw [hw])
  go_wp2_with (go_at_call 52; refine hhk.mono ?_)
  rintro e w1 ⟨rfl, hb1⟩
  clear hck hhk
  go_wp2
  refine bodyPost_ret (v := .tuple #[.slice none 0 0, .int .i64 k, .iface 23 (.int .i64 f)]) (by simp [results, Tryz.results125, go_sem]) rfl ⟨rfl, hb1⟩

set_option maxRecDepth 100000 in
set_option maxHeartbeats 8000000 in
theorem strict_main (a la : Option Addr) (xs : List ByteArray) (l : List Hk) (ca cl : Nat) (w : World) (ha : Strs w a xs) (hl : Hks w la l) (hca : xs.length ≤ ca) (hf1 : lsf (bts xs) = 0) (hf2 : (hf l).2 = 0) :
    Calls Tryz.prog 125 #[.slice a xs.length ca, .slice la l.length cl] w fun e w' => ∃ a' c', e = .returned (.tuple #[.slice a' (stO xs l).length c', .int .i64 (stF xs l).1, errV (stF xs l).2]) ∧ Below w.heap.size w w' ∧ Strs w' a' (stO xs l) ∧ (stO xs l).length ≤ c' := by
  obtain ⟨hgood, hl60, hone⟩ := hf_good hf2
  have hx60 := lsf_len hf1
  have hck := check_any a xs ca w ha (by unfold maxLen; omega)
  rw [hf1, errV_zero] at hck
  have hhk := hunkCheck la l cl w hl (by unfold maxLen; omega) (fun h hh => by have := (sf_zero (hone h hh).1).1; unfold maxLen; omega)
  have hz := hf_zero hf2
  rw [hf_ok hz.1 hz.2] at hhk
  dsimp only at hhk
  rw [errV_zero] at hhk
  obtain ⟨m, hm⟩ : ∃ m, xs.length = m := ⟨_, rfl⟩
  obtain ⟨n, hn⟩ : ∃ n, l.length = n := ⟨_, rfl⟩
  rw [hm] at hck hx60 hca
  rw [hn] at hhk hl60
  rw [hm, hn]
  have HM : Hid (xs.length = m) := hm
  have HN : Hid (l.length = n) := hn
  have HA : Hid (Strs w a xs) := ha
  have HL : Hid (Hks w la l) := hl
  have HG : Hid (Dist.Good l) := hgood
  have HONE : Hid (∀ x ∈ l, sf x.2.2 = 0 ∧ 0 < chg x.2.2 ∧ 0 ≤ x.1 ∧ x.1 ≤ 60) := hone
  have F1 : Hid (lsf (bts xs) = 0) := hf1
  have F2 : Hid ((hf l).2 = 0) := hf2
  obtain ⟨B, hB⟩ : ∃ B, w.heap.size = B := ⟨_, rfl⟩
  have HB : Hid (w.heap.size = B) := hB
  rw [hB] at hhk ⊢
  clear ha hl hgood hone hf1 hf2 hz hm hn hB
  go_enter Tryz.func125, Tryz.ntmps125
  go_wp2_with (go_at_call 142; refine hck.mono ?_; rintro e w' ⟨rfl, hw⟩; rw [hw])
  go_wp2_with (go_at_call 52; refine hhk.mono ?_)
  rintro e w0 ⟨rfl, hb0⟩
  have HB0 : Hid (Below B w w0) := hb0
  clear hck hhk hb0
  go_wp2
  go_loopw [10, 11, 12, 13, 14, 31] (fun v u _ _ _ i w1 => ∃ k : Nat, k ≤ n ∧ i = .int .i64 k ∧ u = .int .i64 (eN l k) ∧ Below B w w1 ∧ (∃ a' c', v = .slice a' (sO xs l k).length c' ∧ Strs w1 a' (sO xs l k)) ∧ ∀ j : Nat, j < k → stH xs (l.getD j (0, 0, [])) = true) (fun _ _ _ _ _ i _ => n - (intOf i).toNat)
  case atStart => exact ⟨0, Nat.zero_le _, rfl, by rw [eN_zero]; rfl, HB0.out, ⟨none, 0, rfl, fun i hi => absurd hi (by simp [sO])⟩, fun j hj => absurd hj (Nat.not_lt_zero _)⟩
  case round =>
    obtain ⟨k, hk, rfl, rfl, hbl, ⟨a0, c0, rfl, hs0⟩, hall⟩ := hrel
    have HALL : Hid (∀ j : Nat, j < k → stH xs (l.getD j (0, 0, [])) = true) := hall
    have hen : eN l k ≤ m := by rw [← HM.out]; exact eN_in HG.out (by rw [HN.out]; exact hk) hall
    have hsm := sO_small (xs := xs) HONE.out k (by rw [HN.out]; exact hk)
    have HS0 : Hid (Strs wr a0 (sO xs l k)) := hs0
    obtain ⟨D, hD⟩ : ∃ D, sO xs l k = D := ⟨_, rfl⟩
    have HD : Hid (sO xs l k = D) := hD
    rw [hD] at hsm HS0 ⊢
    obtain ⟨d, hd⟩ : ∃ d, D.length = d := ⟨_, rfl⟩
    have HDL : Hid (D.length = d) := hd
    rw [hd] at hsm ⊢
    clear hall hs0 hD hd
    have hzB : B ≤ wr.heap.size := by have := hbl.size; have := HB.out; omega
    by_cases hlt : k < n
    · have hkl : k < l.length := by rw [HN.out]; exact hlt
      have hl := HL.out
      obtain ⟨b, off, am, cm, rfl, hc1, hc2, hc3, hmk, hcap⟩ := hl k hkl
      clear hl
      have hb' : Below w.heap.size w wr := by rw [HB.out]; exact hbl
      replace hc1 := cell_later hb' hc1
      replace hc2 := cell_later hb' hc2
      replace hc3 := cell_later hb' hc3
      replace hmk := hmk.below hb'
      obtain ⟨o1, o2, o3, o4⟩ := HONE.out _ (hk_mem hkl)
      obtain ⟨_, _, g3, g4⟩ := HG.out.at hkl
      have HSN : Hid (sO xs l (k + 1) = D ++ ((xs.take (l.getD k (0, 0, [])).1.toNat).drop (eN l k) ++ lessOf 45 (l.getD k (0, 0, [])).2.2)) := by
        show sO xs l (k + 1) = _
        rw [sO, HD.out]
      obtain ⟨H, hH⟩ : ∃ H, l.getD k (0, 0, []) = H := ⟨_, rfl⟩
      have HHK : Hid (l.getD k (0, 0, []) = H) := hH
      rw [hH] at hc1 hc2 hc3 hmk hcap o1 o2 o3 o4 g3 g4 HSN
      clear hH
      obtain ⟨o, p, ms⟩ := H
      dsimp only at hc1 hc2 hc3 hmk hcap o1 o2 o3 o4 g3 g4 HSN
      obtain ⟨O, rfl⟩ := Int.eq_ofNat_of_zero_le o3
      rw [Int.toNat_natCast] at g3 g4 HSN
      have hml := (sf_zero o1).1
      have hpos : 0 < ms.length := by obtain ⟨c, hc, _⟩ := chg_ex o2; omega
      obtain ⟨bm, om, rfl, _⟩ := hmk.at hpos
      obtain ⟨q, hq⟩ : ∃ q, ms.length = q := ⟨_, rfl⟩
      have hblW := below_alloc wr (.cells #[.int .i64 O, .int .i64 p, .slice (some ⟨bm, om, none⟩) q cm] 57)
      have htr := trimOf bm om ms cm 0 _ (hmk.below hblW) o1 hcap o2 (by decide)
      obtain ⟨z1, z2⟩ := ptM_zero ms
      rw [z1, z2, hq, show ((0 : Nat) : Int) = 0 from rfl] at htr
      have hll := lessOf_len 43 ms
      have hlm := lessOf_len 45 ms
      rw [hq] at hc3 hll hlm hml
      obtain ⟨os, hos⟩ : ∃ os, lessOf 43 ms = os := ⟨_, rfl⟩
      obtain ⟨ns, hns⟩ : ∃ ns, lessOf 45 ms = ns := ⟨_, rfl⟩
      have HOS : Hid (lessOf 43 ms = os) := hos
      have HNS : Hid (lessOf 45 ms = ns) := hns
      rw [hos] at htr g4 hll
      rw [hns] at htr HSN hlm
      obtain ⟨m1, hm1⟩ : ∃ m, os.length = m := ⟨_, rfl⟩
      obtain ⟨m2, hm2⟩ : ∃ m, ns.length = m := ⟨_, rfl⟩
      have HM1 : Hid (os.length = m1) := hm1
      have HM2 : Hid (ns.length = m2) := hm2
      rw [hm1] at htr g4 hll
      rw [hm2] at htr hlm
      have G4 : Hid (eN l (k + 1) = O + m1) := g4
      have hbW : Below B w (wr.alloc (.cells #[.int .i64 O, .int .i64 p, .slice (some ⟨bm, om, none⟩) q cm] 57)) := hbl.trans (hblW.mono hzB)
      have hW1 := (heap_alloc_new wr (.cells #[.int .i64 O, .int .i64 p, .slice (some ⟨bm, om, none⟩) q cm] 57))
      have HBW : Hid (Below B w (wr.alloc (.cells #[.int .i64 O, .int .i64 p, .slice (some ⟨bm, om, none⟩) q cm] 57))) := hbW
      have HW1 : Hid ((wr.alloc (.cells #[.int .i64 O, .int .i64 p, .slice (some ⟨bm, om, none⟩) q cm] 57)).heap[wr.heap.size]? = some (.cells #[.int .i64 O, .int .i64 p, .slice (some ⟨bm, om, none⟩) q cm] 57)) := hW1
      have HS1 : Hid (Strs (wr.alloc (.cells #[.int .i64 O, .int .i64 p, .slice (some ⟨bm, om, none⟩) q cm] 57)) a0 D) := HS0.out.below hblW
      clear hmk hcap o1 o2 o3 z1 z2 hos hns hm1 hm2 g4 hbW hW1 hblW hb' hq hpos hkl
      go_wp2_with (go_at_call 143; refine htr.mono ?_)
      rintro e w2 ⟨a1, c1, a2, c2, rfl, hs1, hs2, hb2⟩
      have hUW : wr.heap.size < (wr.alloc (.cells #[.int .i64 O, .int .i64 p, .slice (some ⟨bm, om, none⟩) q cm] 57)).heap.size := by simp
      have kU := blk_below hb2 hUW HW1.out
      have hUV : wr.heap.size < w2.heap.size := by have := hb2.size; omega
      have hbW := HBW.out.trans (hb2.mono (by omega))
      have hsD := HS1.out.below hb2
      obtain ⟨U, hU⟩ : ∃ U, wr.heap.size = U := ⟨_, rfl⟩
      obtain ⟨V, hV⟩ : ∃ V, w2.heap.size = V := ⟨_, rfl⟩
      rw [hU] at kU hUV hzB
      rw [hV] at hUV
      have hbv := below_alloc w2 (.cells #[.int .i64 0, .slice a1 m1 c1, .slice a2 m2 c2] 222)
      have hbW3 := hbW.trans (hbv.mono (by omega))
      have hsa := HA.out.below (by rw [HB.out]; exact hbW3)
      have hst := standsS a a1 xs os ca c1 O _ hsa (hs1.below hbv) (by rw [HM.out]; exact hca) (by rw [HM.out]; omega) (by rw [HM1.out]; omega) (by omega)
      rw [HM.out, HM1.out] at hst
      have kV3 := heap_alloc_new w2 (.cells #[.int .i64 0, .slice a1 m1 c1, .slice a2 m2 c2] 222)
      have kU3 := blk_below hbv (by omega) kU
      rw [hV] at kV3
      have hzW3 : (w2.alloc (.cells #[.int .i64 0, .slice a1 m1 c1, .slice a2 m2 c2] 222)).heap.size = V + 1 := by simp [hV]
      have HST2 := hs2.below hbv
      have HSTD := hsD.below hbv
      generalize hW3 : w2.alloc (.cells #[.int .i64 0, .slice a1 m1 c1, .slice a2 m2 c2] 222) = W3 at hst hbW3 hsa kV3 kU3 hzW3 HST2 HSTD
      have HV : Hid (w2.heap.size = V) := hV
      have HU : Hid (wr.heap.size = U) := hU
      have HBW3 : Hid (Below B w W3) := hbW3
      have HSA : Hid (Strs W3 a xs) := hsa
      have KV3 : Hid (W3.heap[V]? = some (.cells #[.int .i64 0, .slice a1 m1 c1, .slice a2 m2 c2] 222)) := kV3
      have KU3 : Hid (W3.heap[U]? = some (.cells #[.int .i64 O, .int .i64 p, .slice (some ⟨bm, om, none⟩) q cm] 57)) := kU3
      have HZ3 : Hid (W3.heap.size = V + 1) := hzW3
      have HS2 : Hid (Strs W3 a2 ns) := HST2
      have HSD : Hid (Strs W3 a0 D) := HSTD
      have HW3 : Hid (w2.alloc (.cells #[.int .i64 0, .slice a1 m1 c1, .slice a2 m2 c2] 222) = W3) := hW3
      have hU2 : U < w2.heap.size := by rw [hV]; exact hUV
      have u2 : w2.cell? ⟨U, 0, none⟩ = some (.int .i64 O) := by rw [Lib.cell_of_heap kU]; rfl
      rw [hU]
      clear hs1 hs2 hb2 hbW hsD hbv hbW3 hsa kV3 kU3 hzW3 HST2 HSTD hW3 hV hU hUW HBW HW1 HS1 htr hbl kU HS0
      by_cases hok : stB xs O os = true
      case' pos =>
        rw [hok] at hst
        have hOm : O + m1 ≤ m := by have := (stB_iff.1 hok).1; rw [HM.out, HM1.out] at this; exact this
        have HOK : Hid (stB xs O os = true) := hok
        clear hok
      case' neg =>
        have hok : stB xs O os = false := by simpa using hok
        rw [hok] at hst
        have HOK : Hid (stB xs O os = false) := hok
        clear hok
      all_goals
        go_wp2_with fail
        rw [HV.out]
        rw [HW3.out]
        refine hst.mono ?_
        rintro e w4 ⟨rfl, hb4⟩
        have hb4' := HBW3.out.trans (hb4.mono (by have := HZ3.out; omega))
        clear hst
      · go_wp2
        have e1 : stF xs l = (k, 6) := stF_clash F1.out F2.out (clash_at HALL.out (by rw [HN.out]; exact hlt) (by rw [HHK.out]; show stB xs ((O : Int)).toNat (lessOf 43 ms) = false; rw [Int.toNat_natCast, HOS.out]; exact HOK.out))
        have e2 : stO xs l = [] := stO_bad (by rw [e1]; show (6 : Int) ≠ 0; decide)
        refine bodyPost_ret (v := .tuple #[.slice none 0 0, .int .i64 k, .iface 23 (.int .i64 6)]) (by simp [results, Tryz.results125, go_sem]) rfl ⟨none, 0, ?_, hb4', ?_, ?_⟩
        · rw [e1, e2]; rfl
        · rw [e2]; exact fun i hi => absurd hi (by simp)
        · rw [e2]; exact Nat.le_refl _
      · have kU4 := blk_below hb4 (by rw [HZ3.out]; omega) KU3.out
        have kV4 := blk_below hb4 (by rw [HZ3.out]; omega) KV3.out
        have u0 : w4.cell? ⟨U, 0, none⟩ = some (.int .i64 O) := by rw [Lib.cell_of_heap kU4]; rfl
        have v1 : w4.cell? ⟨V, 1, none⟩ = some (.slice a1 m1 c1) := by rw [Lib.cell_of_heap kV4]; rfl
        have v2 : w4.cell? ⟨V, 2, none⟩ = some (.slice a2 m2 c2) := by rw [Lib.cell_of_heap kV4]; rfl
        have hsl := fun w => run_slice_at a m ca (eN l k) O g3 (by omega) w (eN l k) O rfl rfl
        have hdr : Below w4.heap.size w4 w4.drew := ⟨rfl, rfl, rfl, Nat.le_refl _, fun _ _ => rfl⟩
        have hpl : ((xs.take O).drop (eN l k)).length = O - eN l k := by rw [List.length_drop, List.length_take, HM.out]; omega
        have hpt := pts_three w4.drew a0 (sa a ca (eN l k)) a2 D ((xs.take O).drop (eN l k)) ns c0 (ca - eN l k) c2 58 ((HSD.out.below hb4).below hdr) (((HSA.out.below hb4).below hdr).part (by rw [HM.out]; exact hca) (eN l k) O) ((HS2.out.below hb4).below hdr)
        have hfl : [D, (xs.take O).drop (eN l k), ns].flatten = sO xs l (k + 1) := by rw [HSN.out]; simp
        have hcc := concatS _ _ 3 _ hpt (by rw [hfl]; have := sO_small (xs := xs) HONE.out (k + 1) (by rw [HN.out]; exact hlt); omega) (by simp)
        rw [hfl, hpl, HDL.out, HM2.out, show [D, (xs.take O).drop (eN l k), ns].length = 3 from rfl] at hcc
        have hbc := below_alloc w4.drew (.cells #[.slice a0 d c0, .slice (sa a ca (eN l k)) (O - eN l k) (ca - eN l k), .slice a2 m2 c2] 58)
        have hz4 : V + 1 ≤ w4.heap.size := by have := hb4.size; have := HZ3.out; omega
        have U5 : Hid (∀ w5, Below (w4.drew.alloc (.cells #[.slice a0 d c0, .slice (sa a ca (eN l k)) (O - eN l k) (ca - eN l k), .slice a2 m2 c2] 58)).heap.size (w4.drew.alloc (.cells #[.slice a0 d c0, .slice (sa a ca (eN l k)) (O - eN l k) (ca - eN l k), .slice a2 m2 c2] 58)) w5 → w5.cell? ⟨U, 0, none⟩ = some (.int .i64 O) ∧ w5.cell? ⟨V, 1, none⟩ = some (.slice a1 m1 c1) ∧ Below B w w5) := fun w5 hb5 => by
          have h5 := hdr.trans (hbc.trans (hb5.mono (by simp)))
          exact ⟨cell_later h5 u0, cell_later h5 v1, hb4'.trans (h5.mono (by omega))⟩
        obtain ⟨N, hN⟩ : ∃ N, sO xs l (k + 1) = N := ⟨_, rfl⟩
        have HNE : Hid (sO xs l (k + 1) = N) := hN
        obtain ⟨nl, hnl⟩ : ∃ nl, N.length = nl := ⟨_, rfl⟩
        have HNL : Hid (N.length = nl) := hnl
        rw [hN, hnl] at hcc
        clear hb4 hb4' kU4 kV4 hpl hpt hfl hbc hdr HSD HSA HS2 KU3 KV3 HZ3 HBW3 hN hnl hc1 hc2 hc3 u2 hU2 HV HW3
        go_wp2
        go_region_with (go_at_call 145; refine hcc.mono ?_; rintro e w5 ⟨a5, c5, rfl, hs5, hb5, hc5⟩; obtain ⟨u5, v5, hbw5⟩ := U5.out w5 hb5)
        all_goals
          clear hcc U5 u0 v1 v2 hb5 hsl
          have HS5 : Hid (Strs w5 a5 N) := hs5
          clear hs5 hc5
          go_wp2
          go_roundw
          case rel =>
            refine ⟨k + 1, by omega, by go_num, by rw [G4.out]; go_num, hbw5, ⟨a5, c5, by rw [HNE.out, HNL.out], by rw [HNE.out]; exact HS5.out⟩, fun j hj => ?_⟩
            by_cases e : j = k
            · rw [e, HHK.out]
              show stB xs ((O : Int)).toNat (lessOf 43 ms) = true
              rw [Int.toNat_natCast, HOS.out]; exact HOK.out
            · exact HALL.out j (by omega)
          case measure => simp [intOf]; omega
    · obtain rfl : k = n := by omega
      have hstand : Stand xs l := fun j hj => HALL.out j (by rw [← HN.out]; exact hj)
      have hclash := clash_none hstand
      have hsl := fun w => run_slice_from a m ca (eN l k) hen w (eN l k) rfl
      have hb' : Below w.heap.size w wr := by rw [HB.out]; exact hbl
      have hpl : (xs.drop (eN l k)).length = m - eN l k := by rw [List.length_drop, HM.out]
      have hps := (HA.out.below hb').part (cap := ca) (by rw [HM.out]; exact hca) (eN l k) m
      rw [← HM.out, List.take_length] at hps
      have hpt := pts_two wr a0 (sa a ca (eN l k)) D (xs.drop (eN l k)) c0 (ca - eN l k) 58 HS0.out hps
      have hfl : [D, xs.drop (eN l k)].flatten = sR xs l := by unfold sR; rw [HN.out, HD.out]; simp
      have hcc := concatS _ _ 2 _ hpt (by rw [hfl]; unfold sR; rw [HN.out, HD.out, List.length_append, HDL.out, hpl]; omega) (by simp)
      rw [hfl, hpl, HDL.out, show [D, xs.drop (eN l k)].length = 2 from rfl] at hcc
      have hbc := below_alloc wr (.cells #[.slice a0 d c0, .slice (sa a ca (eN l k)) (m - eN l k) (ca - eN l k)] 58)
      have HSR := sR_sizes F1.out F2.out
      have E1 : Hid (60 < (sR xs l).length → stF xs l = (0, 3)) := fun h => stF_full F1.out F2.out hclash h
      have E2 : Hid (¬ 60 < (sR xs l).length → stF xs l = (0, 0)) := fun h => stF_ok F1.out F2.out hclash h
      obtain ⟨N, hN⟩ : ∃ N, sR xs l = N := ⟨_, rfl⟩
      have HNE : Hid (sR xs l = N) := hN
      obtain ⟨nl, hnl⟩ : ∃ nl, N.length = nl := ⟨_, rfl⟩
      have HNL : Hid (N.length = nl) := hnl
      rw [hN, hnl] at hcc E1 E2
      rw [hN] at HSR
      have HSZ : Hid (∀ x ∈ N, x.size ≤ 80) := HSR
      have hbW := hbl.trans (hbc.mono hzB)
      have HBW : Hid (Below B w (wr.alloc (.cells #[.slice a0 d c0, .slice (sa a ca (eN l k)) (m - eN l k) (ca - eN l k)] 58))) := hbW
      clear hpl hps hpt hfl hbc hN hnl HSR hstand hclash hbl hb' HS0 hbW
      go_wp2_with (go_at_call 145; refine hcc.mono ?_)
      rintro e w5 ⟨a5, c5, rfl, hs5, hb5, hc5⟩
      have hbw5 := HBW.out.trans (hb5.mono (by simp; omega))
      have hz5 : B ≤ w5.heap.size := by have := hbw5.size; have := HB.out; omega
      have HS5 : Hid (Strs w5 a5 N) := hs5
      clear hcc hsl hb5 hs5 HBW
      by_cases h60 : 60 < nl
      · have e1 := E1.out h60
        have h60' : 60 < (nl : Int) := by omega
        have e2 : stO xs l = [] := stO_bad (by rw [e1]; show (3 : Int) ≠ 0; decide)
        have E1 : Hid (stF xs l = (0, 3)) := e1
        have E2 : Hid (stO xs l = []) := e2
        clear e1 e2
        go_wp2
        refine bodyPost_ret (v := .tuple #[.slice none 0 0, .int .i64 0, .iface 23 (.int .i64 3)]) (by simp [results, Tryz.results125, go_sem]) rfl ⟨none, 0, ?_, hbw5, ?_, ?_⟩
        · rw [E1.out, E2.out]; rfl
        · rw [E2.out]; exact fun i hi => absurd hi (by simp)
        · rw [E2.out]; exact Nat.le_refl _
      · have e1 := E2.out h60
        have h60' : ¬ 60 < (nl : Int) := by omega
        have e2 : stO xs l = N := by rw [stO_ok (by rw [e1]), HNE.out]
        have E1 : Hid (stF xs l = (0, 0)) := e1
        have E2 : Hid (stO xs l = N) := e2
        have hcp := copyLines a5 N c5 w5 HS5.out (by rw [HNL.out]; omega) HSZ.out
        rw [HNL.out] at hcp
        clear e1 e2 h60
        go_wp2_with (go_at_call 127; refine hcp.mono ?_)
        rintro e w6 ⟨rfl, hb6, hs6⟩
        have hbw6 := hbw5.trans (hb6.mono hz5)
        clear hcp
        go_wp2
        refine bodyPost_ret (v := .tuple #[.slice (some ⟨w5.heap.size, 0, none⟩) nl nl, .int .i64 0, .nilIface]) (by simp [results, Tryz.results125, go_sem]) rfl ⟨some ⟨w5.heap.size, 0, none⟩, nl, ?_, hbw6, ?_, ?_⟩
        · rw [E1.out, E2.out, HNL.out]; rfl
        · rw [E2.out]; exact hs6
        · rw [E2.out, HNL.out]; exact Nat.le_refl _

theorem strictAny (a la : Option Addr) (xs : List ByteArray) (l : List Hk) (ca cl : Nat) (w : World) (ha : Strs w a xs) (hl : Hks w la l) (h1 : xs.length ≤ maxLen) (h0 : l.length ≤ maxLen) (h00 : ∀ h ∈ l, h.2.2.length ≤ maxLen) (hca : xs.length ≤ ca) :
    Calls Tryz.prog 125 #[.slice a xs.length ca, .slice la l.length cl] w fun e w' => ∃ a' c', e = .returned (.tuple #[.slice a' (stO xs l).length c', .int .i64 (stF xs l).1, errV (stF xs l).2]) ∧ Below w.heap.size w w' ∧ Strs w' a' (stO xs l) ∧ (stO xs l).length ≤ c' := by
  by_cases hf1 : lsf (bts xs) = 0
  · by_cases hf2 : (hf l).2 = 0
    · exact strict_main a la xs l ca cl w ha hl hca hf1 hf2
    · have e1 := stF_hunks hf1 hf2
      have e2 : stO xs l = [] := stO_bad (by rw [e1]; exact hf2)
      rw [e1, e2, errV_not hf2]
      exact (strict_hunks a la xs l ca cl w ha hl h1 h0 h00 hf1 hf2).mono fun e w' ⟨he, hb⟩ => ⟨none, 0, he, hb, fun i hi => absurd hi (by simp), Nat.le_refl _⟩
  · have e1 := stF_lines (l := l) hf1
    have e2 : stO xs l = [] := stO_bad (by rw [e1]; exact hf1)
    rw [e1, e2]
    dsimp only
    rw [errV_not hf1]
    exact (strict_lines a la xs l.length ca cl w ha h1 hf1).mono fun e w' ⟨he, hw⟩ => ⟨none, 0, he, by rw [hw]; exact Below.refl _ _, fun i hi => absurd hi (by simp), Nat.le_refl _⟩

end Go.Proofs.YtnkdmgekpajfhadGreatDoor
