/-
  Walks of the closure in apply.trim, of apply.trim and of apply.stands: what is left of a hunk's marks; whether old lines stand at a place.
-/
import Derived.Test.YtnkdmgekpajfhaeDoorCut
import Derived.Test.YtnkdmgekpajfhaeDoorSls
import Derived.Test.YtnkdmgekpajfhaeDoorCat
import Derived.Test.YtnkdmgekpajfhaeDoorXk
namespace Go.Proofs.YtnkdmgekpajfhaeDoor
open Go.RowKit Dist

set_option maxHeartbeats 400000 in
theorem isKept (b off : Nat) (ms : List (Int × ByteArray)) (ca i S : Nat) (w : World) (ha : Mks w (some ⟨b, off, none⟩) ms) (hi : i < ms.length) (hs : w.cell? ⟨S, 0, none⟩ = some (.slice (some ⟨b, off, none⟩) ms.length ca)) :
    Calls Tryd.prog 65 #[.int .i64 i, .pointer (some ⟨S, 0, none⟩)] w fun e w' => e = .returned (.bool (kp ms i)) ∧ w' = w := by
  obtain ⟨b', off', e, hc, _⟩ := ha.at hi
  simp only [Option.some.injEq, Addr.mk.injEq] at e
  obtain ⟨rfl, rfl, _⟩ := e
  have HK : Hid (∀ x, ((ms.getD i (0, ByteArray.empty)).1 == 32) = x → Ending.returned (.bool x) = .returned (.bool (kp ms i))) := fun x hx => by rw [← hx]; rfl
  obtain ⟨c, hcc⟩ : ∃ c, (ms.getD i (0, ByteArray.empty)).1 = c := ⟨_, rfl⟩
  rw [hcc] at hc HK
  obtain ⟨q, hq⟩ : ∃ q, ms.length = q := ⟨_, rfl⟩
  rw [hq] at hs hi
  clear ha hcc hq
  go_enter Tryd.func65, Tryd.ntmps65
  go_wp2
  go_ret
  exact ⟨HK.out _ rfl, rfl⟩

theorem strs_at {B n c : Nat} {a : Option Addr} {ss : List ByteArray} {w : World} (h : w.ownsRow B 9 1 (.slice a n c) n (ss.map Value.string)) (hn : ss.length = n) : Strs w a ss := by
  subst hn
  obtain ⟨a', c', ea, hs⟩ := strs_of_own h
  simp only [Value.slice.injEq] at ea
  rw [ea.1]; exact hs

theorem stB_parts (xs ys : List ByteArray) (p : Nat) (h : p + ys.length ≤ xs.length) : stB xs p ys = decide ((xs.take (p + ys.length)).drop p = ys) := by
  unfold stB
  have e : (xs.take (p + ys.length)).drop p = (xs.drop p).take ys.length := by rw [List.drop_take, Nat.add_sub_cancel_left]
  rw [e]
  by_cases h2 : (xs.drop p).take ys.length = ys
  · rw [decide_eq_true h2, decide_eq_true ⟨h, h2⟩]
  · rw [decide_eq_false h2, decide_eq_false (fun h => h2 h.2)]

set_option maxRecDepth 100000 in
set_option maxHeartbeats 1000000 in
theorem standsS (a b : Option Addr) (xs ys : List ByteArray) (ca cb p : Nat) (w : World) (ha : Strs w a xs) (hb : Strs w b ys) (hca : xs.length ≤ ca) (hx : xs.length ≤ 1000) (hy : ys.length ≤ 1000) (hp : p ≤ 100000) :
    Calls Tryd.prog 43 #[.slice a xs.length ca, .slice b ys.length cb, .int .i64 p] w fun e w' => e = .returned (.bool (stB xs p ys)) ∧ Below w.heap.size w w' := by
  by_cases h : p + ys.length ≤ xs.length
  · have heq := equalS (sa a ca p) b ((xs.take (p + ys.length)).drop p) ys (ca - p) cb w (ha.part hca p (p + ys.length)) hb (by rw [List.length_drop, List.length_take]; unfold maxLen; omega)
    rw [← stB_parts xs ys p h, List.length_drop, List.length_take, Nat.min_eq_left h, Nat.add_sub_cancel_left] at heq
    have hsl := fun w => run_slice_at a xs.length ca p (p + ys.length) (by omega) (by omega) w p ((p : Int) + ys.length) rfl (by omega)
    rw [Nat.add_sub_cancel_left] at hsl
    obtain ⟨r, hr⟩ : ∃ r, stB xs p ys = r := ⟨_, rfl⟩
    obtain ⟨m, hm⟩ : ∃ m, xs.length = m := ⟨_, rfl⟩
    obtain ⟨n, hn⟩ : ∃ n, ys.length = n := ⟨_, rfl⟩
    rw [hr, hn] at heq
    rw [hm, hn] at hsl h
    rw [hm] at hx
    rw [hn] at hy
    rw [hr, hm, hn]
    have h' : (p : Int) + n ≤ m := by omega
    clear ha hb hca hr hm hn h
    go_enter Tryd.func43, Tryd.ntmps43
    go_wp2_with (go_at_call 49; refine heq.mono ?_)
    rintro e w1 ⟨rfl, hb1⟩
    clear heq
    go_wp2
    go_ret
    exact ⟨rfl, hb1⟩
  · have he : stB xs p ys = false := by unfold stB; exact decide_eq_false (fun h2 => h h2.1)
    rw [he]
    obtain ⟨m, hm⟩ : ∃ m, xs.length = m := ⟨_, rfl⟩
    obtain ⟨n, hn⟩ : ∃ n, ys.length = n := ⟨_, rfl⟩
    rw [hm, hn] at h
    rw [hm] at hx
    rw [hn] at hy
    rw [hm, hn]
    have h' : ¬ ((p : Int) + n ≤ m) := by omega
    clear ha hb hca hm hn h he
    go_enter Tryd.func43, Tryd.ntmps43
    go_wp2
    go_ret
    exact ⟨rfl, Below.refl _ _⟩

set_option maxRecDepth 100000 in
set_option maxHeartbeats 8000000 in
theorem trimOf (b off : Nat) (ms : List (Int × ByteArray)) (ca n : Nat) (w : World) (ha : Mks w (some ⟨b, off, none⟩) ms) (hsf : sf ms = 0) (hca : ms.length ≤ ca) (hch : 0 < chg ms) (hn : n ≤ 1000) :
    Calls Tryd.prog 42 #[.slice (some ⟨b, off, none⟩) ms.length ca, .int .i64 n] w fun e w' => ∃ a1 c1 a2 c2, e = .returned (.agg #[.int .i64 (hd ms n), .slice a1 (lessOf 43 (ptM ms n)).length c1, .slice a2 (lessOf 45 (ptM ms n)).length c2]) ∧ Strs w' a1 (lessOf 43 (ptM ms n)) ∧ Strs w' a2 (lessOf 45 (ptM ms n)) ∧ Below w.heap.size w w' := by
  have hm := (sf_zero hsf).1
  have HSF : Hid (sf ms = 0) := hsf
  obtain ⟨c, hc, hkc⟩ := chg_ex hch
  have HH := hd_lt hkc n
  have HT := tl_gt hc hkc n
  have HTL := (tl_spec ms n).1
  have hmf : ∀ (fn : Fn) (first cap : Array Value) (w : World), (Instr.makeFunc fn first cap).run Tryd.prog w = .ok (.func fn first cap) w := fun _ _ _ _ => rfl
  have eg : ∀ args w, (callFunc 65 args).run Tryd.prog w = .ok (.enter 65 args) w := enters_of Tryd.func65 (by kernel_rfl) rfl
  obtain ⟨q, hq⟩ : ∃ q, ms.length = q := ⟨_, rfl⟩
  have HQ : Hid (ms.length = q) := hq
  rw [hq] at hca hm hc HTL ⊢
  have HA : Hid (Mks w (some ⟨b, off, none⟩) ms) := ha
  have HKC : Hid (kp ms c = false) := hkc
  clear ha hkc hq hsf hch
  go_enter Tryd.func42, Tryd.ntmps42
  go_wp2
  go_quiet (fail)
  go_wp2
  have hb0 : Below w.heap.size w (((w.alloc (.cells #[.slice (some ⟨b, off, none⟩) q ca] 38)).alloc (.cells #[.int .i64 0, .slice none 0 0, .slice none 0 0] 88)).drewN nq) := below_drawn (((Below.refl _ _).alloc (Nat.le_refl _) _).alloc (by simp) _)
  have hs0 : (((w.alloc (.cells #[.slice (some ⟨b, off, none⟩) q ca] 38)).alloc (.cells #[.int .i64 0, .slice none 0 0, .slice none 0 0] 88)).drewN nq).heap.size = w.heap.size + 2 := by simp
  have hk0 : (((w.alloc (.cells #[.slice (some ⟨b, off, none⟩) q ca] 38)).alloc (.cells #[.int .i64 0, .slice none 0 0, .slice none 0 0] 88)).drewN nq).cell? ⟨w.heap.size, 0, none⟩ = some (.slice (some ⟨b, off, none⟩) q ca) := by simp
  have hk1 : (((w.alloc (.cells #[.slice (some ⟨b, off, none⟩) q ca] 38)).alloc (.cells #[.int .i64 0, .slice none 0 0, .slice none 0 0] 88)).drewN nq).heap[w.heap.size + 1]? = some (.cells #[.int .i64 0, .slice none 0 0, .slice none 0 0] 88) := by
    have h := heap_alloc_new (w.alloc (.cells #[.slice (some ⟨b, off, none⟩) q ca] 38)) (.cells #[.int .i64 0, .slice none 0 0, .slice none 0 0] 88)
    rw [show (w.alloc (.cells #[.slice (some ⟨b, off, none⟩) q ca] 38)).heap.size = w.heap.size + 1 by simp] at h
    exact h
  generalize (((w.alloc (.cells #[.slice (some ⟨b, off, none⟩) q ca] 38)).alloc (.cells #[.int .i64 0, .slice none 0 0, .slice none 0 0] 88)).drewN nq) = W0 at hb0 hs0 hk0 hk1 ⊢
  have HB0 : Hid (Below w.heap.size w W0) := hb0
  have HS0 : Hid (W0.heap.size = w.heap.size + 2) := hs0
  have hz0 : w.heap.size < W0.heap.size := by omega
  have hz1 : w.heap.size + 1 < W0.heap.size := by omega
  have HK1 : Hid (W0.heap[w.heap.size + 1]? = some (.cells #[.int .i64 0, .slice none 0 0, .slice none 0 0] 88)) := hk1
  have HA0 : Hid (Mks W0 (some ⟨b, off, none⟩) ms) := HA.out.below hb0
  have HIK := fun i (hi : i < q) => isKept b off ms ca i w.heap.size W0 HA0.out (by rw [HQ.out]; exact hi) (by rw [HQ.out]; exact hk0)
  clear hb0 hs0 hk1 hmf
  go_loop [6] (fun v => ∃ h : Nat, h ≤ n ∧ v = .int .i64 h ∧ hdF ms (n - h) h = hd ms n ∧ ∀ j, j < h → kp ms j = true) (fun v => n - (intOf v).toNat)
  case atStart => exact ⟨0, Nat.zero_le _, rfl, rfl, fun j hj => absurd hj (Nat.not_lt_zero _)⟩
  case round =>
    obtain ⟨h, hhn, rfl, hrest, hall⟩ := hrel
    have hhc : h ≤ c := by
      by_cases e : h ≤ c
      · exact e
      · have := hall c (by omega); rw [HKC.out] at this; cases this
    have HR : Hid (hdF ms (n - h) h = hd ms n) := hrest
    have HALL : Hid (∀ j, j < h → kp ms j = true) := hall
    clear hrest hall
    by_cases hlt : h < n
    case' pos =>
      have hik := HIK h (by omega)
      by_cases hk : kp ms h = true
      case' pos =>
        rw [hk] at hik
        have HK : Hid (kp ms h = true) := hk
        clear hk HIK
        go_wp2_with (go_at_fn 65; refine hik.mono ?_; rintro e w' ⟨rfl, hw⟩; rw [hw])
        go_round
        case rel =>
          refine ⟨h + 1, by omega, by go_num, ?_, fun j hj => ?_⟩
          · rw [← HR.out, show n - h = (n - (h + 1)) + 1 by omega, hdF, if_pos HK.out]
          · by_cases e : j = h
            · rw [e]; exact HK.out
            · exact HALL.out j (by omega)
        case measure => simp [intOf]; omega
      case' neg =>
        have hk : kp ms h = false := by simpa using hk
        rw [hk] at hik
        have HD : Hid (hd ms n = h) := by
          show hd ms n = h
          rw [← HR.out, show n - h = (n - (h + 1)) + 1 by omega, hdF, if_neg (by rw [hk]; simp)]
        clear hk
        go_wp2_with (go_at_fn 65; refine hik.mono ?_; rintro e w' ⟨rfl, hw⟩; rw [hw])
        clear hik
    case' neg =>
      have HD : Hid (hd ms n = h) := by
        show hd ms n = h
        rw [← HR.out, show n - h = 0 by omega, hdF]
      go_wp2
    all_goals
      clear HR HALL
      have OLD := fun t (ht : tl ms n = t) (htq : t ≤ q) => old_own (some ⟨b, off + h * 2, none⟩) ((ms.take t).drop h) (ca - h) (W0.alloc (.cells #[.int .i64 h, .slice none 0 0, .slice none 0 0] 88)) ((HA0.out.part h t).below (below_alloc _ _)) (sf_part HSF.out h t)
      go_loop [7] (fun v => ∃ t : Nat, t ≤ q ∧ q - t ≤ n ∧ v = .int .i64 t ∧ tlF ms (n - (q - t)) t = tl ms n ∧ ∀ j, t ≤ j → j < q → kp ms j = true) (fun v => (intOf v).toNat)
      case atStart => exact ⟨q, Nat.le_refl _, by omega, rfl, by rw [Nat.sub_self, Nat.sub_zero, ← HQ.out]; rfl, fun j h1 h2 => by omega⟩
      case round =>
        obtain ⟨t, htq, hqn, rfl, hrest, hall⟩ := hrel
        have hct : c < t := by
          by_cases e : c < t
          · exact e
          · have := hall c (by omega) hc; rw [HKC.out] at this; cases this
        have HR : Hid (tlF ms (n - (q - t)) t = tl ms n) := hrest
        have HALL : Hid (∀ j, t ≤ j → j < q → kp ms j = true) := hall
        clear hrest hall
        by_cases hlt2 : (q : Int) - t < n
        case' pos =>
          have hik := HIK (t - 1) (by omega)
          rw [show ((t - 1 : Nat) : Int) = (t : Int) - 1 by omega] at hik
          by_cases hk : kp ms (t - 1) = true
          case' pos =>
            rw [hk] at hik
            have HK : Hid (kp ms (t - 1) = true) := hk
            clear hk HIK
            go_wp2_with (go_at_fn 65; refine hik.mono ?_; rintro e w' ⟨rfl, hw⟩; rw [hw])
            go_round
            case rel =>
              refine ⟨t - 1, by omega, by omega, by rw [show ((t - 1 : Nat) : Int) = (t : Int) - 1 by omega], ?_, fun j h1 h2 => ?_⟩
              · rw [← HR.out, show n - (q - t) = (n - (q - (t - 1))) + 1 by omega, tlF, if_neg (by omega), if_pos HK.out]
              · by_cases e : j = t - 1
                · rw [e]; exact HK.out
                · exact HALL.out j (by omega) h2
            case measure => simp [intOf]; omega
          case' neg =>
            have hk : kp ms (t - 1) = false := by simpa using hk
            rw [hk] at hik
            have TD : Hid (tl ms n = t) := by
              show tl ms n = t
              rw [← HR.out, show n - (q - t) = (n - (q - (t - 1))) + 1 by omega, tlF, if_neg (by omega), if_neg (by rw [hk]; simp)]
            have hht : h ≤ t := by omega
            have hold := OLD t TD.out htq
            rw [List.length_drop, List.length_take, HQ.out, Nat.min_eq_left htq] at hold
            clear hk
            go_wp2_with (go_at_fn 65; refine hik.mono ?_; rintro e w' ⟨rfl, hw⟩; rw [hw])
            clear hik
        case' neg =>
          have TD : Hid (tl ms n = t) := by
            show tl ms n = t
            rw [← HR.out, show n - (q - t) = 0 by omega, tlF]
          have hht : h ≤ t := by omega
          have hold := OLD t TD.out htq
          rw [List.length_drop, List.length_take, HQ.out, Nat.min_eq_left htq] at hold
          go_wp2_with fail
        all_goals
          refine hold.mono ?_
          rintro e w1 ⟨v1, rfl, ho1, hb1⟩
          clear hold OLD HIK eg HR HALL
          have E1 : Hid ((ms.take t).drop h = ptM ms n) := by show (ms.take t).drop h = ptM ms n; unfold ptM; rw [HD.out, TD.out]
          rw [E1.out] at ho1
          have hb01 := (below_alloc W0 (.cells #[.int .i64 h, .slice none 0 0, .slice none 0 0] 88)).trans (hb1.mono (by simp))
          have kp1 := blk_below hb1 (by simp) (heap_alloc_new W0 (.cells #[.int .i64 h, .slice none 0 0, .slice none 0 0] 88))
          have kr1 := blk_below hb01 hz1 HK1.out
          have ks1 := cell_later hb01 hk0
          have hbW : Below w.heap.size w w1 := HB0.out.trans (hb01.mono (by omega))
          have hzw : W0.heap.size < w1.heap.size := by have := hb1.size; simp at this; omega
          rw [show (W0.alloc (.cells #[.int .i64 h, .slice none 0 0, .slice none 0 0] 88)).heap.size = W0.heap.size + 1 by simp] at ho1
          obtain ⟨B, hB⟩ : ∃ B, w.heap.size = B := ⟨_, rfl⟩
          have hP := HS0.out
          rw [hP, hB] at hzw kp1 ho1
          rw [hB] at kr1 ks1 hbW
          rw [hP, hB]
          have HBE : Hid (w.heap.size = B) := hB
          clear hB hP hb1 hb01 HA0 HB0 HS0 HK1 hk0 hz0 hz1
          try clear hw
          obtain ⟨xs, hxs⟩ : ∃ xs, lessOf 43 (ptM ms n) = xs := ⟨_, rfl⟩
          obtain ⟨ys, hys⟩ : ∃ ys, lessOf 45 (ptM ms n) = ys := ⟨_, rfl⟩
          rw [hxs] at ho1
          obtain ⟨a1, c1, rfl, _, _⟩ := strs_of_own_cap ho1
          obtain ⟨m1, hm1⟩ : ∃ m, xs.length = m := ⟨_, rfl⟩
          obtain ⟨m2, hm2⟩ : ∃ m, ys.length = m := ⟨_, rfl⟩
          have HM1 : Hid (xs.length = m1) := hm1
          have HM2 : Hid (ys.length = m2) := hm2
          have HXS : Hid (lessOf 43 (ptM ms n) = xs) := hxs
          have HYS : Hid (lessOf 45 (ptM ms n) = ys) := hys
          rw [hm1] at ho1
          rw [hm1]
          have q1 : w1.cell? ⟨B + 2, 1, none⟩ = some (.slice none 0 0) := by rw [Lib.cell_of_heap kp1]; rfl
          have g1 := Lib.frozen_of_heap kp1 1
          have hbW2 : Below B w (w1.setCell ⟨B + 2, 1, none⟩ (.slice a1 m1 c1)) := hbW.setCell (by simp) _
          have hnew := new_own (some ⟨b, off + h * 2, none⟩) ((ms.take t).drop h) (ca - h) (w1.setCell ⟨B + 2, 1, none⟩ (.slice a1 m1 c1)) ((HA.out.below (by rw [HBE.out]; exact hbW2)).part h t) (sf_part HSF.out h t)
          rw [List.length_drop, List.length_take, HQ.out, Nat.min_eq_left htq, E1.out, hys, hm2] at hnew
          have KP2 : Hid ((w1.setCell ⟨B + 2, 1, none⟩ (.slice a1 m1 c1)).heap[B + 2]? = some (.cells #[.int .i64 h, .slice a1 m1 c1, .slice none 0 0] 88)) := blk_set kp1 _
          have KR2 : Hid ((w1.setCell ⟨B + 2, 1, none⟩ (.slice a1 m1 c1)).heap[B + 1]? = some (.cells #[.int .i64 0, .slice none 0 0, .slice none 0 0] 88)) := by
            show (w1.setCell ⟨B + 2, 1, none⟩ (.slice a1 m1 c1)).heap[B + 1]? = _
            simp only [World.setCell, Array.getElem?_modify]
            rw [if_neg (by omega)]; exact kr1
          have HO2 : Hid ((w1.setCell ⟨B + 2, 1, none⟩ (.slice a1 m1 c1)).ownsRow (B + 2 + 1) 9 1 (.slice a1 m1 c1) m1 (xs.map Value.string)) := own_ne ho1 (fun e => by have := (ho1.lt _ e).1; omega) _
          have HBW2 : Hid (Below B w (w1.setCell ⟨B + 2, 1, none⟩ (.slice a1 m1 c1))) := hbW2
          clear hxs hys hm1 hm2 kp1 kr1 ho1 hbW hbW2
          go_wp2_with (go_at_call 67; refine hnew.mono ?_)
          rintro e w2 ⟨v2, rfl, ho2, hb2⟩
          have hsz2 : (w1.setCell ⟨B + 2, 1, none⟩ (.slice a1 m1 c1)).heap.size = w1.heap.size := by simp
          have kp2 := blk_below hb2 (by rw [hsz2]; omega) KP2.out
          have kr2 := blk_below hb2 (by rw [hsz2]; omega) KR2.out
          have HO3 := own_later HO2.out hb2
          have hbW3 := HBW2.out.trans (hb2.mono (by have := HBW2.out.size; have := HBE.out; omega))
          rw [hsz2] at ho2
          rw [← HM2.out] at ho2
          obtain ⟨a2, c2, rfl, _, _⟩ := strs_of_own_cap ho2
          rw [HM2.out] at ho2
          rw [HM2.out]
          have p0 : w2.cell? ⟨B + 2, 0, none⟩ = some (.int .i64 h) := by rw [Lib.cell_of_heap kp2]; rfl
          have p1 : w2.cell? ⟨B + 2, 1, none⟩ = some (.slice a1 m1 c1) := by rw [Lib.cell_of_heap kp2]; rfl
          have p2 : w2.cell? ⟨B + 2, 2, none⟩ = some (.slice none 0 0) := by rw [Lib.cell_of_heap kp2]; rfl
          have g2 := Lib.frozen_of_heap kp2 2
          have r0 : w2.cell? ⟨B + 1, 0, none⟩ = some (.int .i64 0) := by rw [Lib.cell_of_heap kr2]; rfl
          have r1 : w2.cell? ⟨B + 1, 1, none⟩ = some (.slice none 0 0) := by rw [Lib.cell_of_heap kr2]; rfl
          have r2 : w2.cell? ⟨B + 1, 2, none⟩ = some (.slice none 0 0) := by rw [Lib.cell_of_heap kr2]; rfl
          have f0 := Lib.frozen_of_heap kr2 0
          have f1 := Lib.frozen_of_heap kr2 1
          have f2 := Lib.frozen_of_heap kr2 2
          have kr3 : (w2.setCell ⟨B + 2, 2, none⟩ (.slice a2 m2 c2)).heap[B + 1]? = some (.cells #[.int .i64 0, .slice none 0 0, .slice none 0 0] 88) := by
            simp only [World.setCell, Array.getElem?_modify]
            rw [if_neg (by omega)]; exact kr2
          have kr4 := blk_set (i := 2) (blk_set (i := 1) (blk_set (i := 0) kr3 (.int .i64 h)) (.slice a1 m1 c1)) (.slice a2 m2 c2)
          have e0 := Lib.cell_of_heap kr4 0
          have e1 := Lib.cell_of_heap kr4 1
          have e2 := Lib.cell_of_heap kr4 2
          simp at e0 e1 e2
          have ob1 : ∀ x, x ≤ B + 2 → (Value.slice a1 m1 c1).ownBlock ≠ some x := fun x hx e => by have := (HO3.lt _ e).1; omega
          have ob2 : ∀ x, x ≤ B + 2 → (Value.slice a2 m2 c2).ownBlock ≠ some x := fun x hx e => by have := (ho2.lt _ e).1; omega
          have HF1 : Hid (((((w2.setCell ⟨B + 2, 2, none⟩ (.slice a2 m2 c2)).setCell ⟨B + 1, 0, none⟩ (.int .i64 h)).setCell ⟨B + 1, 1, none⟩ (.slice a1 m1 c1)).setCell ⟨B + 1, 2, none⟩ (.slice a2 m2 c2)).ownsRow (B + 2 + 1) 9 1 (.slice a1 m1 c1) m1 (xs.map Value.string)) := own_ne (own_ne (own_ne (own_ne HO3 (ob1 _ (by omega)) _) (ob1 _ (by omega)) _) (ob1 _ (by omega)) _) (ob1 _ (by omega)) _
          have HF2 : Hid (((((w2.setCell ⟨B + 2, 2, none⟩ (.slice a2 m2 c2)).setCell ⟨B + 1, 0, none⟩ (.int .i64 h)).setCell ⟨B + 1, 1, none⟩ (.slice a1 m1 c1)).setCell ⟨B + 1, 2, none⟩ (.slice a2 m2 c2)).ownsRow w1.heap.size 9 1 (.slice a2 m2 c2) m2 (ys.map Value.string)) := own_ne (own_ne (own_ne (own_ne ho2 (ob2 _ (by omega)) _) (ob2 _ (by omega)) _) (ob2 _ (by omega)) _) (ob2 _ (by omega)) _
          have HBF : Hid (Below B w ((((w2.setCell ⟨B + 2, 2, none⟩ (.slice a2 m2 c2)).setCell ⟨B + 1, 0, none⟩ (.int .i64 h)).setCell ⟨B + 1, 1, none⟩ (.slice a1 m1 c1)).setCell ⟨B + 1, 2, none⟩ (.slice a2 m2 c2))) := (((hbW3.setCell (by simp) _).setCell (by simp) _).setCell (by simp) _).setCell (by simp) _
          clear hnew KP2 KR2 HO2 HBW2 kp2 kr2 kr3 kr4 HO3 ho2 hbW3 hb2 ob1 ob2 hsz2 ks1 q1 g1
          go_wp2
          refine bodyPost_ret (v := .agg #[.int .i64 h, .slice a1 m1 c1, .slice a2 m2 c2]) (by simp [results, Tryd.results42, go_sem, e0, e1, e2]) rfl ⟨a1, c1, a2, c2, ?_, ?_, ?_, ?_⟩
          · rw [HD.out, HXS.out, HYS.out, HM1.out, HM2.out]
          · rw [HXS.out]; exact strs_at HF1.out HM1.out
          · rw [HYS.out]; exact strs_at HF2.out HM2.out
          · rw [HBE.out]; exact HBF.out

end Go.Proofs.YtnkdmgekpajfhaeDoor
