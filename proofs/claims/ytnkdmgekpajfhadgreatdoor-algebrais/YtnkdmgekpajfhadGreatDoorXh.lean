/-
  Walk of edit.toEnd: the array of arrays tells at each two places how far it is from there on. Walks of edit.checkBoth and edit.Far: how far it is from good lines to good lines; the first fault else. Walks of edit.mark, of the array's step and of edit.Script: the first of the scripts of the fewest lines. Walks of the comparison of two lists of the same marks, and of edit.Script where a file has a fault.
-/
import Derived.Test.YtnkdmgekpajfhadGreatDoorXi
import Derived.Test.YtnkdmgekpajfhadGreatDoorXm
import Derived.BigRegion
import Derived.Lib.Walk
import Derived.Lib.Builder
import Derived.KernelRfl
import Derived.Test.YtnkdmgekpajfhadGreatDoorXba

namespace Go.Proofs.YtnkdmgekpajfhadGreatDoor
open Go.RowKit Dist

def aggSize : Value → Nat
  | .agg cs => cs.size
  | _ => 0

theorem run_ti {P : Program} {w : World} {t : TypeId} {i : TypeInfo} (h : P.info? t = some i) : (typeInfo t).run P w = .ok i w := by
  simp [typeInfo, h]

/-- A new array of arrays: so many cells. -/
theorem zeroTab : ∃ zs : Array Value, zs.size = 3721 ∧ zs ≠ #[] ∧ ∀ w, Sem.run Tryz.prog (zeroValue 243) w = .ok (.agg zs) w := by
  have h : ((Tryz.prog.info? 243).bind (·.zero)).map aggSize = some 3721 := by kernel_rfl
  cases hi : Tryz.prog.info? 243 with
  | none => rw [hi] at h; simp at h
  | some i =>
    rw [hi] at h
    cases hz : i.zero with
    | none => simp [hz] at h
    | some z =>
      simp [hz] at h
      have key : ∀ w, Sem.run Tryz.prog (zeroValue 243) w = .ok z w := by
        intro w
        unfold zeroValue
        rw [Sem.run_bind, run_ti hi]
        simp only [Result.andThen, hz]
        simp
      cases z <;> simp [aggSize] at h
      rename_i zs
      exact ⟨zs, h, fun e => by simp [e] at h, key⟩

/-- The array of arrays in memory: at the places that P names it tells how far it is from there on. -/
def Tab (w : World) (B : Nat) (xs ys : List ByteArray) (P : Nat → Nat → Prop) : Prop :=
  ∃ cs : Array Value, w.heap[B]? = some (.cells cs 243 (0, 0)) ∧ cs.size = 3721 ∧
    ∀ i j, P i j → i ≤ 60 → j ≤ 60 → cs[i * 61 + j]? = some (.int .i64 (dist (xs.drop i) (ys.drop j)))

theorem Tab.any {w : World} {B : Nat} {xs ys : List ByteArray} {P : Nat → Nat → Prop} (h : Tab w B xs ys P) {i j : Nat} (hi : i ≤ 60) (hj : j ≤ 60) : ∃ v, w.cell? ⟨B, i * 61 + j, none⟩ = some v := by
  obtain ⟨cs, hb, hs, _⟩ := h
  rw [Lib.cell_of_heap hb]
  exact ⟨_, Array.getElem?_eq_getElem (by omega)⟩

theorem Tab.frozen {w : World} {B : Nat} {xs ys : List ByteArray} {P : Nat → Nat → Prop} (h : Tab w B xs ys P) (p : Nat) : w.frozen? ⟨B, p, none⟩ = false := by
  obtain ⟨cs, hb, _, _⟩ := h
  exact Lib.frozen_of_heap hb p

theorem Tab.cell {w : World} {B : Nat} {xs ys : List ByteArray} {P : Nat → Nat → Prop} (h : Tab w B xs ys P) {i j : Nat} (hp : P i j) (hi : i ≤ 60) (hj : j ≤ 60) : w.cell? ⟨B, i * 61 + j, none⟩ = some (.int .i64 (dist (xs.drop i) (ys.drop j))) := by
  obtain ⟨cs, hb, _, hat⟩ := h
  rw [Lib.cell_of_heap hb]
  exact hat i j hp hi hj

theorem Tab.mono {w : World} {B : Nat} {xs ys : List ByteArray} {P Q : Nat → Nat → Prop} (h : Tab w B xs ys P) (hq : ∀ i j, Q i j → P i j) : Tab w B xs ys Q := by
  obtain ⟨cs, hb, hs, hat⟩ := h
  exact ⟨cs, hb, hs, fun i j hp => hat i j (hq i j hp)⟩

theorem Tab.below {w w' : World} {B : Nat} {xs ys : List ByteArray} {P : Nat → Nat → Prop} (h : Tab w B xs ys P) (hb : Below w.heap.size w w') (hB : B < w.heap.size) : Tab w' B xs ys P := by
  obtain ⟨cs, hc, hs, hat⟩ := h
  exact ⟨cs, blk_below hb hB hc, hs, hat⟩

theorem Tab.set {w : World} {B : Nat} {xs ys : List ByteArray} {P Q : Nat → Nat → Prop} (h : Tab w B xs ys P) {i j : Nat} (hi : i ≤ 60) (hj : j ≤ 60) {d : Int} (hd : d = dist (xs.drop i) (ys.drop j)) (hq : ∀ i' j', Q i' j' → P i' j' ∨ (i' = i ∧ j' = j)) :
    Tab (w.setCell ⟨B, i * 61 + j, none⟩ (.int .i64 d)) B xs ys Q := by
  obtain ⟨cs, hb, hs, hat⟩ := h
  refine ⟨_, blk_set hb _, by simpa using hs, fun i' j' hp h1 h2 => ?_⟩
  by_cases e : i' = i ∧ j' = j
  · obtain ⟨rfl, rfl⟩ := e
    rw [Array.getElem?_setIfInBounds_self_of_lt (by omega), hd]
  · rw [Array.getElem?_setIfInBounds_ne (by omega)]
    exact hat i' j' ((hq i' j' hp).resolve_right e) h1 h2

theorem Tab.drawn {w : World} {B : Nat} {xs ys : List ByteArray} {P : Nat → Nat → Prop} (h : Tab w B xs ys P) (q : Nat) : Tab (w.drewN q) B xs ys P := h

theorem dist_end {xs ys : List ByteArray} {j : Nat} (hj : j ≤ ys.length) : ((ys.length : Int) - j) = (dist (xs.drop xs.length) (ys.drop j) : Nat) := by
  rw [List.drop_of_length_le (Nat.le_refl _), dist_nil, List.length_drop]; omega

theorem dist_end' {xs ys : List ByteArray} {i : Nat} (hi : i ≤ xs.length) : ((xs.length : Int) - i) = (dist (xs.drop i) (ys.drop ys.length) : Nat) := by
  rw [List.drop_of_length_le (Nat.le_refl ys.length), dist_nil', List.length_drop]; omega

theorem drop_at {xs : List ByteArray} {i : Nat} (hi : i < xs.length) : xs.drop i = xs.getD i ByteArray.empty :: xs.drop (i + 1) := by
  rw [List.drop_eq_getElem_cons hi]; simp [hi]

theorem dist_hit {xs ys : List ByteArray} {i j : Nat} (hi : i < xs.length) (hj : j < ys.length) (e : xs.getD i ByteArray.empty = ys.getD j ByteArray.empty) :
    dist (xs.drop i) (ys.drop j) = dist (xs.drop (i + 1)) (ys.drop (j + 1)) := by
  rw [drop_at hi, drop_at hj, dist_cons, if_pos e]

theorem dist_miss {xs ys : List ByteArray} {i j : Nat} (hi : i < xs.length) (hj : j < ys.length) (e : xs.getD i ByteArray.empty ≠ ys.getD j ByteArray.empty) :
    dist (xs.drop i) (ys.drop j) = 1 + min (dist (xs.drop (i + 1)) (ys.drop j)) (dist (xs.drop i) (ys.drop (j + 1))) := by
  conv => lhs; rw [drop_at hi, drop_at hj, dist_cons, if_neg e]
  rw [← drop_at hi, ← drop_at hj]

theorem bytes_eq {x y : ByteArray} (h : (x.toList == y.toList) = true) : x = y := by
  have := beq_iff_eq.1 h
  rw [Lib.toList_data, Lib.toList_data] at this
  exact ByteArray.ext (Array.toList_inj.1 this)

theorem bytes_ne {x y : ByteArray} (h : (x.toList == y.toList) = false) : x ≠ y := fun e => by subst e; simp at h

set_option maxRecDepth 100000 in
set_option maxHeartbeats 4000000 in
theorem toEnd (a b : Option Addr) (xs ys : List ByteArray) (ca cb : Nat) (w : World) (ha : Strs w a xs) (hb : Strs w b ys) (h1 : xs.length ≤ 60) (h2 : ys.length ≤ 60) :
    Calls Tryz.prog 147 #[.slice a xs.length ca, .slice b ys.length cb] w fun e w' => e = .returned (.pointer (some ⟨w.heap.size, 0, none⟩)) ∧
      Below w.heap.size w w' ∧ w.heap.size < w'.heap.size ∧ Tab w' w.heap.size xs ys (fun i j => i ≤ xs.length ∧ j ≤ ys.length) := by
  obtain ⟨m, hm⟩ : ∃ m, xs.length = m := ⟨_, rfl⟩
  obtain ⟨n, hn⟩ : ∃ n, ys.length = n := ⟨_, rfl⟩
  rw [hm] at h1 ⊢
  rw [hn] at h2 ⊢
  have HM : Hid (xs.length = m) := hm
  have HN : Hid (ys.length = n) := hn
  have HA : Hid (Strs w a xs) := ha
  have HBB : Hid (Strs w b ys) := hb
  clear hm hn ha hb
  obtain ⟨B, hB⟩ : ∃ B, w.heap.size = B := ⟨_, rfl⟩
  rw [hB]
  have HB : Hid (w.heap.size = B) := hB
  obtain ⟨zs, hzs, hne, hz⟩ := zeroTab
  have HZ : Hid (zs.size = 3721) := hzs
  go_enter Tryz.func147, Tryz.ntmps147
  go_wp2
  clear hz
  go_loopw [6] (fun s6 w1 => ∃ k : Int, -1 ≤ k ∧ k ≤ m ∧ s6 = .int .i64 k ∧ Below B w w1 ∧ B < w1.heap.size ∧ Tab w1 B xs ys (fun i j => k < i ∧ i ≤ m ∧ j ≤ n)) (fun s6 _ => (intOf s6 + 1).toNat)
  case atStart =>
    refine ⟨m, by omega, by omega, rfl, (Below.refl _ _).alloc (by rw [hB]; exact Nat.le_refl _) _, by simp; omega, zs, ?_, hzs, fun i j h => by omega⟩
    subst hB
    exact heap_alloc_new w _
  case round =>
    obtain ⟨k, hk0, hk1, rfl, hbl, hsz, htab⟩ := hrel
    by_cases hk : 0 ≤ k
    · obtain ⟨i, rfl⟩ : ∃ i : Nat, k = i := ⟨k.toNat, by omega⟩
      have HT : Hid (Tab wr B xs ys (fun i' j => (i : Int) < i' ∧ i' ≤ m ∧ j ≤ n)) := htab
      have HL : Hid (Below B w wr) := hbl
      have hszr := hsz
      clear htab hbl
      go_wp2
      go_loopw [7] (fun s7 w1 => ∃ l : Int, -1 ≤ l ∧ l ≤ n ∧ s7 = .int .i64 l ∧ Below B w w1 ∧ B < w1.heap.size ∧ Tab w1 B xs ys (fun i' j => ((i : Int) < i' ∧ i' ≤ m ∧ j ≤ n) ∨ (i' = i ∧ l < j ∧ j ≤ n))) (fun s7 _ => (intOf s7 + 1).toNat)
      case atStart =>
        exact ⟨n, by omega, by omega, rfl, HL.out, hszr, HT.out.mono fun i' j' h => by omega⟩
      case round =>
        clear HT HL hszr
        obtain ⟨l, hl0, hl1, rfl, hbl, hsz, htab⟩ := hrel
        by_cases hl : 0 ≤ l
        · obtain ⟨j, rfl⟩ : ∃ j : Nat, l = j := ⟨l.toNat, by omega⟩
          obtain ⟨v, hcell⟩ := htab.any (i := i) (j := j) (by omega) (by omega)
          have hfr := htab.frozen (i * 61 + j)
          have HT : Hid (Tab wr B xs ys (fun i' j' => ((i : Int) < i' ∧ i' ≤ m ∧ j' ≤ n) ∨ (i' = i ∧ (j : Int) < j' ∧ j' ≤ n))) := htab
          clear htab
          by_cases hi : i = m
          · subst hi
            have HD : Hid ((n : Int) - j = (dist (xs.drop i) (ys.drop j) : Nat)) := by
              have := dist_end (xs := xs) (ys := ys) (j := j) (by rw [HN.out]; omega)
              rw [HN.out, HM.out] at this; exact this
            go_wp2
            go_roundw
            case rel => exact ⟨j - 1, by omega, by omega, rfl, hbl.setCell (Nat.le_refl _) _, by simpa using hsz, HT.out.set (by omega) (by omega) HD.out fun i' j' h => by omega⟩
            case measure => simp [intOf]
          · have hie : ((i : Int) == (m : Int)) = false := by simp; omega
            by_cases hj : j = n
            · subst hj
              have HD : Hid ((m : Int) - i = (dist (xs.drop i) (ys.drop j) : Nat)) := by
                have := dist_end' (xs := xs) (ys := ys) (i := i) (by rw [HM.out]; omega)
                rw [HN.out, HM.out] at this; exact this
              go_wp2
              go_roundw
              case rel => exact ⟨j - 1, by omega, by omega, rfl, hbl.setCell (Nat.le_refl _) _, by simpa using hsz, HT.out.set (by omega) (by omega) HD.out fun i' j' h => by omega⟩
              case measure => simp [intOf]
            · have hje : ((j : Int) == (n : Int)) = false := by simp; omega
              have him : i < m := by omega
              have hjn : j < n := by omega
              have ha := HA.out
              have hb := HBB.out
              obtain ⟨ba, oa, rfl, hca⟩ := Strs.at ha (i := i) (by rw [HM.out]; exact him)
              obtain ⟨bb, ob, rfl, hcb⟩ := Strs.at hb (i := j) (by rw [HN.out]; exact hjn)
              replace hca := cell_later (by rw [HB.out]; exact hbl) (hca i (by rw [HM.out]; exact him))
              replace hcb := cell_later (by rw [HB.out]; exact hbl) (hcb j (by rw [HN.out]; exact hjn))
              have hdh := dist_hit (xs := xs) (ys := ys) (i := i) (j := j) (by rw [HM.out]; exact him) (by rw [HN.out]; exact hjn)
              have hdm := dist_miss (xs := xs) (ys := ys) (i := i) (j := j) (by rw [HM.out]; exact him) (by rw [HN.out]; exact hjn)
              obtain ⟨x, hx⟩ : ∃ x, xs.getD i ByteArray.empty = x := ⟨_, rfl⟩
              obtain ⟨y, hy⟩ : ∃ y, ys.getD j ByteArray.empty = y := ⟨_, rfl⟩
              rw [hx] at hca hdh hdm
              rw [hy] at hcb hdh hdm
              clear hx hy ha hb
              by_cases he : (x.toList == y.toList) = true
              · have HD : Hid (dist (xs.drop (i + 1)) (ys.drop (j + 1)) = dist (xs.drop i) (ys.drop j)) := (hdh (bytes_eq he)).symm
                have hrd := HT.out.cell (i := i + 1) (j := j + 1) (by omega) (by omega) (by omega)
                clear hdh hdm
                obtain ⟨d, hd⟩ : ∃ d, dist (xs.drop (i + 1)) (ys.drop (j + 1)) = d := ⟨_, rfl⟩
                rw [hd] at hrd HD
                clear hd
                go_wp2
                go_quiet (fail)
                go_wp2
                go_region
                go_wp2
                go_roundw
                case rel => exact ⟨j - 1, by omega, by omega, rfl, (below_drawn hbl).setCell (Nat.le_refl _) _, by simpa using hsz, (HT.out.drawn _).set (by omega) (by omega) (by rw [← HD.out]) fun i' j' h => by omega⟩
                case measure => simp [intOf]
              · have he : (x.toList == y.toList) = false := by simpa using he
                have HD := hdm (bytes_ne he)
                have hrd := HT.out.cell (i := i + 1) (j := j) (by omega) (by omega) (by omega)
                have hrd2 := HT.out.cell (i := i) (j := j + 1) (by omega) (by omega) (by omega)
                clear hdh hdm
                obtain ⟨d, hd⟩ : ∃ d, dist (xs.drop (i + 1)) (ys.drop j) = d := ⟨_, rfl⟩
                obtain ⟨d2, hd2⟩ : ∃ d, dist (xs.drop i) (ys.drop (j + 1)) = d := ⟨_, rfl⟩
                rw [hd] at hrd HD
                rw [hd2] at hrd2 HD
                have HL1 : d ≤ 120 := by have := dist_le (xs.drop (i + 1)) (ys.drop j); rw [hd, List.length_drop, List.length_drop, HM.out, HN.out] at this; omega
                have HL2 : d2 ≤ 120 := by have := dist_le (xs.drop i) (ys.drop (j + 1)); rw [hd2, List.length_drop, List.length_drop, HM.out, HN.out] at this; omega
                replace HD : Hid (dist (xs.drop i) (ys.drop j) = 1 + min d d2) := HD
                clear hd hd2
                go_wp2
                go_quiet (fail)
                go_wp2
                go_region
                go_wp2
                go_roundw
                case rel => exact ⟨j - 1, by omega, by omega, rfl, (below_drawn hbl).setCell (Nat.le_refl _) _, by simpa using hsz, (HT.out.drawn _).set (by omega) (by omega) (by rw [HD.out]; omega) fun i' j' h => by omega⟩
                case measure => simp [intOf]
        · go_wp2
          go_roundw
          case rel => exact ⟨i - 1, by omega, by omega, rfl, hbl, hsz, htab.mono fun i' j' h => by omega⟩
          case measure => simp [intOf]
    · go_wp2
      go_ret
      exact ⟨rfl, hbl, hsz, htab.mono fun i' j' h => by omega⟩

end Go.Proofs.YtnkdmgekpajfhadGreatDoor

namespace Go.Proofs.YtnkdmgekpajfhadGreatDoor
open Go.RowKit Dist

/-- The first of two faults. -/
def both (f g : Int) : Int := if f = 0 then g else f

theorem both_zero {f g : Int} (h : both f g = 0) : f = 0 ∧ g = 0 := by
  unfold both at h
  by_cases e : f = 0
  · rw [if_pos e] at h; exact ⟨e, h⟩
  · rw [if_neg e] at h; exact absurd h e

/-- The fault of two files. -/
def ff (xs ys : List ByteArray) : Int := both (lsf (bts xs)) (lsf (bts ys))

theorem ff_zero {xs ys : List ByteArray} (h : ff xs ys = 0) : lsf (bts xs) = 0 ∧ lsf (bts ys) = 0 := both_zero h
theorem ff_of {xs ys : List ByteArray} (h1 : lsf (bts xs) = 0) (h2 : lsf (bts ys) = 0) : ff xs ys = 0 := by unfold ff both; rw [if_pos h1, h2]

theorem lsf_len {xs : List ByteArray} (h : lsf (bts xs) = 0) : xs.length ≤ 60 := by have := (lsf_zero h).1; rwa [bts_length] at this

set_option maxHeartbeats 400000 in
theorem checkBoth (a b : Option Addr) (xs ys : List ByteArray) (ca cb : Nat) (w : World) (ha : Strs w a xs) (hb : Strs w b ys) (h1 : xs.length ≤ maxLen) (h2 : ys.length ≤ maxLen) :
    Calls Tryz.prog 146 #[.slice a xs.length ca, .slice b ys.length cb] w fun e w' => e = .returned (errV (ff xs ys)) ∧ w' = w := by
  have hc1 := check_any a xs ca w ha h1
  have hc2 := check_any b ys cb w hb h2
  obtain ⟨m, hm⟩ : ∃ m, xs.length = m := ⟨_, rfl⟩
  obtain ⟨n, hn⟩ : ∃ n, ys.length = n := ⟨_, rfl⟩
  obtain ⟨f, hf⟩ : ∃ f, lsf (bts xs) = f := ⟨_, rfl⟩
  obtain ⟨g, hg⟩ : ∃ g, lsf (bts ys) = g := ⟨_, rfl⟩
  have e : ff xs ys = both f g := by unfold ff; rw [hf, hg]
  rw [hm, hf] at hc1
  rw [hn, hg] at hc2
  rw [hm, hn, e]
  clear hm hn hf hg e ha hb h1 h2
  by_cases h : f = 0
  · subst h
    have e2 : both 0 g = g := rfl
    rw [e2]
    rw [errV_zero] at hc1
    obtain ⟨v, hv⟩ : ∃ v, errV g = v := ⟨_, rfl⟩
    rw [hv] at hc2 ⊢
    clear hv e2
    go_enter Tryz.func146, Tryz.ntmps146
    go_wp2_with (go_at_call 142; refine hc1.mono ?_)
    rintro e w1 ⟨rfl, hw⟩
    rw [hw]
    clear hw hc1
    go_wp2_with (go_at_call 142; refine hc2.mono ?_)
    rintro e w1 ⟨rfl, hw⟩
    rw [hw]
    clear hw hc2
    go_wp2
    go_ret
    exact ⟨rfl, rfl⟩
  · have e2 : both f g = f := by unfold both; rw [if_neg h]
    rw [e2]
    rw [errV_not h] at hc1 ⊢
    clear e2 hc2 h
    go_enter Tryz.func146, Tryz.ntmps146
    go_wp2_with (go_at_call 142; refine hc1.mono ?_; rintro e w' ⟨rfl, hw⟩; rw [hw])
    go_ret
    exact ⟨rfl, rfl⟩

end Go.Proofs.YtnkdmgekpajfhadGreatDoor

namespace Go.Proofs.YtnkdmgekpajfhadGreatDoor
open Go.RowKit Dist

set_option maxHeartbeats 400000 in
theorem markOf (c : Int) (t : ByteArray) (w : World) (ht : t.size ≤ 80) : Calls Tryz.prog 103 #[.int .u8 c, .string t] w fun e w' => e = .returned (.agg #[.int .u8 c, .string t]) ∧ Below w.heap.size w w' := by
  have hcl := clone t (w.alloc (.cells #[.int .u8 0, .string ⟨#[]⟩] 97)) (by omega)
  have hb0 := below_alloc w (.cells #[.int .u8 0, .string ⟨#[]⟩] 97)
  have hblk := heap_alloc_new w (.cells #[.int .u8 0, .string ⟨#[]⟩] 97)
  have hsz : w.heap.size < (w.alloc (.cells #[.int .u8 0, .string ⟨#[]⟩] 97)).heap.size := by simp
  have HB0 : Hid (Below w.heap.size w (w.alloc (.cells #[.int .u8 0, .string ⟨#[]⟩] 97))) := hb0
  have HBLK : Hid ((w.alloc (.cells #[.int .u8 0, .string ⟨#[]⟩] 97)).heap[w.heap.size]? = some (.cells #[.int .u8 0, .string ⟨#[]⟩] 97)) := hblk
  have HSZ : Hid (w.heap.size < (w.alloc (.cells #[.int .u8 0, .string ⟨#[]⟩] 97)).heap.size) := hsz
  clear hb0 hblk hsz ht
  go_enter Tryz.func103, Tryz.ntmps103
  go_wp2_with (go_at_call 70; refine hcl.mono ?_)
  rintro e w1 ⟨rfl, hb1⟩
  clear hcl
  have hblk := blk_below hb1 HSZ.out HBLK.out
  have hb1 := HB0.out.trans (hb1.mono HB0.out.size)
  have hc1 : w1.cell? ⟨w.heap.size, 0, none⟩ = some (.int .u8 0) := by rw [Lib.cell_of_heap hblk]; rfl
  have hc2 : w1.cell? ⟨w.heap.size, 1, none⟩ = some (.string ⟨#[]⟩) := by rw [Lib.cell_of_heap hblk]; rfl
  have hf1 := Lib.frozen_of_heap hblk 0
  have hf2 := Lib.frozen_of_heap hblk 1
  have hblk2 := blk_set (i := 1) (blk_set (i := 0) hblk (.int .u8 c)) (.string t)
  have hc3 := Lib.cell_of_heap hblk2 0
  have hc4 := Lib.cell_of_heap hblk2 1
  simp at hc3 hc4
  clear hblk
  go_wp2
  refine bodyPost_ret (v := .agg #[.int .u8 c, .string t]) (by simp [results, Tryz.results103, go_sem, hc3, hc4]) rfl ⟨rfl, ?_⟩
  exact (hb1.setCell (Nat.le_refl _) _).setCell (Nat.le_refl _) _

/-- The sign of the next mark. -/
def stp (xs ys : List ByteArray) (i j : Nat) : Int :=
  if i = xs.length then 43 else if j = ys.length then 45 else if xs.getD i ByteArray.empty = ys.getD j ByteArray.empty then 32
  else if dist (xs.drop (i + 1)) (ys.drop j) ≤ dist (xs.drop i) (ys.drop (j + 1)) then 45 else 43

set_option maxRecDepth 100000 in
set_option maxHeartbeats 1000000 in
theorem step (a b : Option Addr) (xs ys : List ByteArray) (ca cb B i j : Nat) (w : World) (ha : Strs w a xs) (hb : Strs w b ys) (h1 : xs.length ≤ 60) (h2 : ys.length ≤ 60) (hi : i ≤ xs.length) (hj : j ≤ ys.length)
    (ht : Tab w B xs ys (fun i j => i ≤ xs.length ∧ j ≤ ys.length)) :
    Calls Tryz.prog 148 #[.pointer (some ⟨B, 0, none⟩), .slice a xs.length ca, .slice b ys.length cb, .int .i64 i, .int .i64 j] w fun e w' => e = .returned (.int .u8 (stp xs ys i j)) ∧ Below w.heap.size w w' := by
  have HD : Hid (stp xs ys i j = if i = xs.length then 43 else if j = ys.length then 45 else if xs.getD i ByteArray.empty = ys.getD j ByteArray.empty then 32 else if dist (xs.drop (i + 1)) (ys.drop j) ≤ dist (xs.drop i) (ys.drop (j + 1)) then 45 else 43) := rfl
  have HR1 := fun h1 h2 => ht.cell (i := i + 1) (j := j) (by exact ⟨h1, h2⟩)
  have HR2 := fun h1 h2 => ht.cell (i := i) (j := j + 1) (by exact ⟨h1, h2⟩)
  obtain ⟨d, hd⟩ : ∃ d, stp xs ys i j = d := ⟨_, rfl⟩
  rw [hd] at HD ⊢
  clear hd ht
  obtain ⟨m, hm⟩ : ∃ m, xs.length = m := ⟨_, rfl⟩
  obtain ⟨n, hn⟩ : ∃ n, ys.length = n := ⟨_, rfl⟩
  rw [hm] at h1 hi HD HR1 HR2 ⊢
  rw [hn] at h2 hj HD HR1 HR2 ⊢
  have HM : Hid (xs.length = m) := hm
  have HN : Hid (ys.length = n) := hn
  clear hm hn
  by_cases e1 : i = m
  · obtain rfl : d = 43 := by rw [HD.out, if_pos e1]
    subst e1
    clear HD HR1 HR2 ha hb
    go_enter Tryz.func148, Tryz.ntmps148
    go_wp2
    go_ret
    exact ⟨rfl, Below.refl _ _⟩
  have f1 : ((i : Int) == (m : Int)) = false := by simp; omega
  by_cases e2 : j = n
  · obtain rfl : d = 45 := by rw [HD.out, if_neg e1, if_pos e2]
    subst e2
    clear HD HR1 HR2 ha hb
    go_enter Tryz.func148, Tryz.ntmps148
    go_wp2
    go_ret
    exact ⟨rfl, Below.refl _ _⟩
  have f2 : ((j : Int) == (n : Int)) = false := by simp; omega
  have him : i < m := by omega
  have hjn : j < n := by omega
  have hr1 := HR1 (by omega) (by omega) (by omega) (by omega)
  have hr2 := HR2 (by omega) (by omega) (by omega) (by omega)
  obtain ⟨ba, oa, rfl, hca⟩ := Strs.at ha (i := i) (by rw [HM.out]; exact him)
  obtain ⟨bb, ob, rfl, hcb⟩ := Strs.at hb (i := j) (by rw [HN.out]; exact hjn)
  replace hca := hca i (by rw [HM.out]; exact him)
  replace hcb := hcb j (by rw [HN.out]; exact hjn)
  obtain ⟨x, hx⟩ : ∃ x, xs.getD i ByteArray.empty = x := ⟨_, rfl⟩
  obtain ⟨y, hy⟩ : ∃ y, ys.getD j ByteArray.empty = y := ⟨_, rfl⟩
  rw [hx] at hca HD
  rw [hy] at hcb HD
  rw [if_neg e1, if_neg e2] at HD
  obtain ⟨d1, hd1⟩ : ∃ d, dist (xs.drop (i + 1)) (ys.drop j) = d := ⟨_, rfl⟩
  obtain ⟨d2, hd2⟩ : ∃ d, dist (xs.drop i) (ys.drop (j + 1)) = d := ⟨_, rfl⟩
  rw [hd1] at hr1 HD
  rw [hd2] at hr2 HD
  clear hx hy ha hb HR1 HR2 hd1 hd2 e1 e2
  by_cases he : (x.toList == y.toList) = true
  · obtain rfl : d = 32 := by rw [HD.out, if_pos (bytes_eq he)]
    clear HD hr1 hr2
    go_enter Tryz.func148, Tryz.ntmps148
    go_wp2
    go_quiet (fail)
    go_wp2
    go_ret
    exact ⟨rfl, below_drawn (Below.refl _ _)⟩
  · have he : (x.toList == y.toList) = false := by simpa using he
    by_cases hle : d1 ≤ d2
    · obtain rfl : d = 45 := by rw [HD.out, if_neg (bytes_ne he), if_pos hle]
      have hle' : (d1 : Int) ≤ (d2 : Int) := by omega
      clear HD hle
      go_enter Tryz.func148, Tryz.ntmps148
      go_wp2
      go_quiet (fail)
      go_wp2
      go_quiet (fail)
      go_wp2
      go_ret
      exact ⟨rfl, below_drawn (below_drawn (Below.refl _ _))⟩
    · obtain rfl : d = 43 := by rw [HD.out, if_neg (bytes_ne he), if_neg hle]
      have hle' : ¬ (d1 : Int) ≤ (d2 : Int) := by omega
      clear HD hle
      go_enter Tryz.func148, Tryz.ntmps148
      go_wp2
      go_quiet (fail)
      go_wp2
      go_quiet (fail)
      go_wp2
      go_ret
      exact ⟨rfl, below_drawn (below_drawn (Below.refl _ _))⟩

theorem stp_cases {xs ys : List ByteArray} {i j : Nat} (hi : i ≤ xs.length) (hj : j ≤ ys.length) (h : i < xs.length ∨ j < ys.length) :
    (stp xs ys i j = 32 ∧ i < xs.length ∧ j < ys.length ∧ scr (xs.drop i) (ys.drop j) = (32, xs.getD i ByteArray.empty) :: scr (xs.drop (i + 1)) (ys.drop (j + 1))) ∨
    (stp xs ys i j = 45 ∧ i < xs.length ∧ scr (xs.drop i) (ys.drop j) = (45, xs.getD i ByteArray.empty) :: scr (xs.drop (i + 1)) (ys.drop j)) ∨
    (stp xs ys i j = 43 ∧ j < ys.length ∧ scr (xs.drop i) (ys.drop j) = (43, ys.getD j ByteArray.empty) :: scr (xs.drop i) (ys.drop (j + 1))) := by
  unfold stp
  by_cases e1 : i = xs.length
  · refine .inr (.inr ⟨if_pos e1, by omega, ?_⟩)
    rw [e1, List.drop_of_length_le (Nat.le_refl _), drop_at (xs := ys) (i := j) (by omega), scr_put]
  rw [if_neg e1]
  by_cases e2 : j = ys.length
  · refine .inr (.inl ⟨if_pos e2, by omega, ?_⟩)
    rw [e2, List.drop_of_length_le (Nat.le_refl ys.length), drop_at (xs := xs) (i := i) (by omega), scr_take]
  rw [if_neg e2]
  have h1 : i < xs.length := by omega
  have h2 : j < ys.length := by omega
  have hs : scr (xs.drop i) (ys.drop j) = if xs.getD i ByteArray.empty = ys.getD j ByteArray.empty then (32, xs.getD i ByteArray.empty) :: scr (xs.drop (i + 1)) (ys.drop (j + 1)) else if dist (xs.drop (i + 1)) (ys.drop j) ≤ dist (xs.drop i) (ys.drop (j + 1)) then (45, xs.getD i ByteArray.empty) :: scr (xs.drop (i + 1)) (ys.drop j) else (43, ys.getD j ByteArray.empty) :: scr (xs.drop i) (ys.drop (j + 1)) := by
    conv => lhs; rw [drop_at h1, drop_at h2, scr_cons]
    rw [← drop_at h1, ← drop_at h2]
  rw [hs]
  by_cases e3 : xs.getD i ByteArray.empty = ys.getD j ByteArray.empty
  · exact .inl ⟨if_pos e3, h1, h2, if_pos e3⟩
  rw [if_neg e3, if_neg e3]
  by_cases e4 : dist (xs.drop (i + 1)) (ys.drop j) ≤ dist (xs.drop i) (ys.drop (j + 1))
  · exact .inr (.inl ⟨if_pos e4, h1, if_pos e4⟩)
  · exact .inr (.inr ⟨if_neg e4, h2, if_neg e4⟩)

theorem Tryz.infoMark : (Tryz.prog.info? 97).map (fun i => (i.zero, i.size, i.bytes)) = some (some (.agg #[.int .u8 0, .string ByteArray.empty]), 2, 24) := by kernel_rfl

theorem cell_two_new (w : World) (x y : Value) (t : TypeId) : ∀ j u, [x, y][j]? = some u → (w.alloc (.cells #[x, y] t)).cell? ((⟨w.heap.size, 0, none⟩ : Addr).add j) = some u := by
  intro j u hj
  have hblk := heap_alloc_new w (.cells #[x, y] t)
  match j, hj with
  | 0, hj =>
    simp at hj
    subst hj
    exact Lib.cell_of_heap hblk 0
  | 1, hj =>
    simp at hj
    subst hj
    exact Lib.cell_of_heap hblk 1

theorem mem_getD {xs : List ByteArray} {i : Nat} (hi : i < xs.length) : xs.getD i ByteArray.empty ∈ xs := by
  have e : xs.getD i ByteArray.empty = xs[i] := by simp [hi]
  rw [e]; exact List.getElem_mem _

theorem line_small {xs : List ByteArray} (h : lsf (bts xs) = 0) {i : Nat} (hi : i < xs.length) : (xs.getD i ByteArray.empty).size ≤ 80 := by
  have := (lsf_zero h).2 _ (List.mem_map.2 ⟨_, mem_getD hi, rfl⟩)
  have := (lf_zero this).2
  rw [Lib.size_eq]; exact this

end Go.Proofs.YtnkdmgekpajfhadGreatDoor

namespace Go.Proofs.YtnkdmgekpajfhadGreatDoor
open Go.RowKit Dist

set_option maxHeartbeats 1000000 in
theorem marks_eq (a b : Option Addr) (ms : List (Int × ByteArray)) (ca cb : Nat) (w : World) (ha : Mks w a ms) (hb : Mks w b ms) (hm : ms.length ≤ maxLen) :
    Calls Tryz.prog 91 #[.slice a ms.length ca, .slice b ms.length cb] w fun e w' => e = .returned (.bool true) ∧ Below w.heap.size w w' := by
  unfold maxLen at hm
  obtain ⟨n, hn⟩ : ∃ n, ms.length = n := ⟨_, rfl⟩
  rw [hn] at hm ⊢
  have HN : Hid (ms.length = n) := hn
  have HA : Hid (Mks w a ms) := ha
  have HB : Hid (Mks w b ms) := hb
  clear hn ha hb
  go_enter Tryz.func91, Tryz.ntmps91
  go_wp2
  go_loopw [5] (fun i w1 => ∃ k : Nat, k ≤ n ∧ i = .int .i64 k ∧ ∃ q, w1 = w.drewN q) (fun i _ => n - (intOf i).toNat)
  case atStart => exact ⟨0, Nat.zero_le _, rfl, 0, rfl⟩
  case round =>
    obtain ⟨k, hk, rfl, q, rfl⟩ := hrel
    by_cases hlt : k < n
    · have ha := HA.out
      have hb := HB.out
      obtain ⟨ba, oa, rfl, hc1, hc2⟩ := ha.at (i := k) (by rw [HN.out]; exact hlt)
      obtain ⟨bb, ob, rfl, hc3, hc4⟩ := hb.at (i := k) (by rw [HN.out]; exact hlt)
      obtain ⟨c, hc⟩ : ∃ c, (ms.getD k (0, ByteArray.empty)).1 = c := ⟨_, rfl⟩
      obtain ⟨t, ht⟩ : ∃ t, (ms.getD k (0, ByteArray.empty)).2 = t := ⟨_, rfl⟩
      rw [hc] at hc1 hc3
      rw [ht] at hc2 hc4
      clear ha hb hc ht
      go_wp2
      go_quiet (fail)
      go_wp2
      go_roundw
      case rel => exact ⟨k + 1, by omega, by go_num, _, rfl⟩
      case measure => simp [intOf]; omega
    · go_wp2
      go_ret
      exact ⟨rfl, below_drawn (Below.refl _ _)⟩

end Go.Proofs.YtnkdmgekpajfhadGreatDoor
