/-
  Walk of edit.toEnd: the array of arrays tells at each two places how far it is from there on. Walks of edit.checkBoth and edit.Far: how far it is from good lines to good lines; the first fault else. Walks of edit.mark, of the array's step and of edit.Script: the first of the scripts of the fewest lines. Walks of the comparison of two lists of the same marks, and of edit.Script where a file has a fault.
-/
import Derived.Test.YtnkdmgekpajfhaeDoorXi
import Derived.Test.YtnkdmgekpajfhaeDoorXm
import Derived.BigRegion
import Derived.Lib.Walk
import Derived.Lib.Builder
import Derived.KernelRfl
import Derived.Test.YtnkdmgekpajfhaeDoorLess
namespace Go.Proofs.YtnkdmgekpajfhaeDoor
open Go.RowKit Dist

def aggSize : Value → Nat
  | .agg cs => cs.size
  | _ => 0

theorem run_ti {P : Program} {w : World} {t : TypeId} {i : TypeInfo} (h : P.info? t = some i) : (typeInfo t).run P w = .ok i w := by
  simp [typeInfo, h]

/-- A new array of arrays: so many cells. -/
theorem zeroTab : ∃ zs : Array Value, zs.size = 3721 ∧ zs ≠ #[] ∧ ∀ w, Sem.run Tryd.prog (zeroValue 182) w = .ok (.agg zs) w := by
  have h : ((Tryd.prog.info? 182).bind (·.zero)).map aggSize = some 3721 := by kernel_rfl
  cases hi : Tryd.prog.info? 182 with
  | none => rw [hi] at h; simp at h
  | some i =>
    rw [hi] at h
    cases hz : i.zero with
    | none => simp [hz] at h
    | some z =>
      simp [hz] at h
      have key : ∀ w, Sem.run Tryd.prog (zeroValue 182) w = .ok z w := by
        intro w
        unfold zeroValue
        rw [Sem.run_bind, run_ti hi]
        simp only [Result.andThen, hz]
        simp
      cases z <;> simp [aggSize] at h
      rename_i zs
      exact ⟨zs, h, fun e => by simp [e] at h, key⟩

/-- The array of arrays in memory: at the places that P names it tells how far it is from there on. -/
def Tab (w : World) (B : Nat) (xs ys : List ByteArray) (P : Nat → Nat → Prop) : Prop :=
  ∃ cs : Array Value, w.heap[B]? = some (.cells cs 182 (0, 0)) ∧ cs.size = 3721 ∧
    ∀ i j, P i j → i ≤ 60 → j ≤ 60 → cs[i * 61 + j]? = some (.int .i64 (dist (xs.drop i) (ys.drop j)))

theorem Tab.any {w : World} {B : Nat} {xs ys : List ByteArray} {P : Nat → Nat → Prop} (h : Tab w B xs ys P) {i j : Nat} (hi : i ≤ 60) (hj : j ≤ 60) : ∃ v, w.cell? ⟨B, i * 61 + j, none⟩ = some v := by
  obtain ⟨cs, hb, hs, _⟩ := h
  rw [Lib.cell_of_heap hb]
  exact ⟨_, Array.getElem?_eq_getElem (by omega)⟩

theorem Tab.frozen {w : World} {B : Nat} {xs ys : List ByteArray} {P : Nat → Nat → Prop} (h : Tab w B xs ys P) (p : Nat) : w.frozen? ⟨B, p, none⟩ = false := by
  obtain ⟨cs, hb, _, _⟩ := h
  exact Lib.frozen_of_heap hb p

theorem Tab.cell {w : World} {B : Nat} {xs ys : List ByteArray} {P : Nat → Nat → Prop} (h : Tab w B xs ys P) {i j : Nat} (hp : P i j) (hi : i ≤ 60) (hj : j ≤ 60) : w.cell? ⟨B, i * 61 + j, none⟩ = some (.int .i64 (dist (xs.drop i) (ys.drop j))) := by
  obtain ⟨cs, hb, _, hat⟩ := h
  rw [Lib.cell_of_heap hb]
  exact hat i j hp hi hj

theorem Tab.mono {w : World} {B : Nat} {xs ys : List ByteArray} {P Q : Nat → Nat → Prop} (h : Tab w B xs ys P) (hq : ∀ i j, Q i j → P i j) : Tab w B xs ys Q := by
  obtain ⟨cs, hb, hs, hat⟩ := h
  exact ⟨cs, hb, hs, fun i j hp => hat i j (hq i j hp)⟩

theorem Tab.below {w w' : World} {B : Nat} {xs ys : List ByteArray} {P : Nat → Nat → Prop} (h : Tab w B xs ys P) (hb : Below w.heap.size w w') (hB : B < w.heap.size) : Tab w' B xs ys P := by
  obtain ⟨cs, hc, hs, hat⟩ := h
  exact ⟨cs, blk_below hb hB hc, hs, hat⟩

theorem Tab.set {w : World} {B : Nat} {xs ys : List ByteArray} {P Q : Nat → Nat → Prop} (h : Tab w B xs ys P) {i j : Nat} (hi : i ≤ 60) (hj : j ≤ 60) {d : Int} (hd : d = dist (xs.drop i) (ys.drop j)) (hq : ∀ i' j', Q i' j' → P i' j' ∨ (i' = i ∧ j' = j)) :
    Tab (w.setCell ⟨B, i * 61 + j, none⟩ (.int .i64 d)) B xs ys Q := by
  obtain ⟨cs, hb, hs, hat⟩ := h
  refine ⟨_, blk_set hb _, by simpa using hs, fun i' j' hp h1 h2 => ?_⟩
  by_cases e : i' = i ∧ j' = j
  · obtain ⟨rfl, rfl⟩ := e
    rw [Array.getElem?_setIfInBounds_self_of_lt (by omega), hd]
  · rw [Array.getElem?_setIfInBounds_ne (by omega)]
    exact hat i' j' ((hq i' j' hp).resolve_right e) h1 h2

theorem Tab.drawn {w : World} {B : Nat} {xs ys : List ByteArray} {P : Nat → Nat → Prop} (h : Tab w B xs ys P) (q : Nat) : Tab (w.drewN q) B xs ys P := h

theorem dist_end {xs ys : List ByteArray} {j : Nat} (hj : j ≤ ys.length) : ((ys.length : Int) - j) = (dist (xs.drop xs.length) (ys.drop j) : Nat) := by
  rw [List.drop_of_length_le (Nat.le_refl _), dist_nil, List.length_drop]; omega

theorem dist_end' {xs ys : List ByteArray} {i : Nat} (hi : i ≤ xs.length) : ((xs.length : Int) - i) = (dist (xs.drop i) (ys.drop ys.length) : Nat) := by
  rw [List.drop_of_length_le (Nat.le_refl ys.length), dist_nil', List.length_drop]; omega

theorem drop_at {xs : List ByteArray} {i : Nat} (hi : i < xs.length) : xs.drop i = xs.getD i ByteArray.empty :: xs.drop (i + 1) := by
  rw [List.drop_eq_getElem_cons hi]; simp [hi]

theorem dist_hit {xs ys : List ByteArray} {i j : Nat} (hi : i < xs.length) (hj : j < ys.length) (e : xs.getD i ByteArray.empty = ys.getD j ByteArray.empty) :
    dist (xs.drop i) (ys.drop j) = dist (xs.drop (i + 1)) (ys.drop (j + 1)) := by
  rw [drop_at hi, drop_at hj, dist_cons, if_pos e]

theorem dist_miss {xs ys : List ByteArray} {i j : Nat} (hi : i < xs.length) (hj : j < ys.length) (e : xs.getD i ByteArray.empty ≠ ys.getD j ByteArray.empty) :
    dist (xs.drop i) (ys.drop j) = 1 + min (dist (xs.drop (i + 1)) (ys.drop j)) (dist (xs.drop i) (ys.drop (j + 1))) := by
  conv => lhs; rw [drop_at hi, drop_at hj, dist_cons, if_neg e]
  rw [← drop_at hi, ← drop_at hj]

theorem bytes_eq {x y : ByteArray} (h : (x.toList == y.toList) = true) : x = y := by
  have := beq_iff_eq.1 h
  rw [Lib.toList_data, Lib.toList_data] at this
  exact ByteArray.ext (Array.toList_inj.1 this)

theorem bytes_ne {x y : ByteArray} (h : (x.toList == y.toList) = false) : x ≠ y := fun e => by subst e; simp at h

set_option maxRecDepth 100000 in
set_option maxHeartbeats 4000000 in
theorem toEnd (a b : Option Addr) (xs ys : List ByteArray) (ca cb : Nat) (w : World) (ha : Strs w a xs) (hb : Strs w b ys) (h1 : xs.length ≤ 60) (h2 : ys.length ≤ 60) :
    Calls Tryd.prog 99 #[.slice a xs.length ca, .slice b ys.length cb] w fun e w' => e = .returned (.pointer (some ⟨w.heap.size, 0, none⟩)) ∧
      Below w.heap.size w w' ∧ w.heap.size < w'.heap.size ∧ Tab w' w.heap.size xs ys (fun i j => i ≤ xs.length ∧ j ≤ ys.length) := by
  obtain ⟨m, hm⟩ : ∃ m, xs.length = m := ⟨_, rfl⟩
  obtain ⟨n, hn⟩ : ∃ n, ys.length = n := ⟨_, rfl⟩
  rw [hm] at h1 ⊢
  rw [hn] at h2 ⊢
  have HM : Hid (xs.length = m) := hm
  have HN : Hid (ys.length = n) := hn
  have HA : Hid (Strs w a xs) := ha
  have HBB : Hid (Strs w b ys) := hb
  clear hm hn ha hb
  obtain ⟨B, hB⟩ : ∃ B, w.heap.size = B := ⟨_, rfl⟩
  rw [hB]
  have HB : Hid (w.heap.size = B) := hB
  obtain ⟨zs, hzs, hne, hz⟩ := zeroTab
  have HZ : Hid (zs.size = 3721) := hzs
  go_enter Tryd.func99, Tryd.ntmps99
  go_wp2
  clear hz
  go_loopw [6] (fun s6 w1 => ∃ k : Int, -1 ≤ k ∧ k ≤ m ∧ s6 = .int .i64 k ∧ Below B w w1 ∧ B < w1.heap.size ∧ Tab w1 B xs ys (fun i j => k < i ∧ i ≤ m ∧ j ≤ n)) (fun s6 _ => (intOf s6 + 1).toNat)
  case atStart =>
    refine ⟨m, by omega, by omega, rfl, (Below.refl _ _).alloc (by rw [hB]; exact Nat.le_refl _) _, by simp; omega, zs, ?_, hzs, fun i j h => by omega⟩
    subst hB
    exact heap_alloc_new w _
  case round =>
    obtain ⟨k, hk0, hk1, rfl, hbl, hsz, htab⟩ := hrel
    by_cases hk : 0 ≤ k
    · obtain ⟨i, rfl⟩ : ∃ i : Nat, k = i := ⟨k.toNat, by omega⟩
      have HT : Hid (Tab wr B xs ys (fun i' j => (i : Int) < i' ∧ i' ≤ m ∧ j ≤ n)) := htab
      have HL : Hid (Below B w wr) := hbl
      have hszr := hsz
      clear htab hbl
      go_wp2
      go_loopw [7] (fun s7 w1 => ∃ l : Int, -1 ≤ l ∧ l ≤ n ∧ s7 = .int .i64 l ∧ Below B w w1 ∧ B < w1.heap.size ∧ Tab w1 B xs ys (fun i' j => ((i : Int) < i' ∧ i' ≤ m ∧ j ≤ n) ∨ (i' = i ∧ l < j ∧ j ≤ n))) (fun s7 _ => (intOf s7 + 1).toNat)
      case atStart =>
        exact ⟨n, by omega, by omega, rfl, HL.out, hszr, HT.out.mono fun i' j' h => by omega⟩
      case round =>
        clear HT HL hszr
        obtain ⟨l, hl0, hl1, rfl, hbl, hsz, htab⟩ := hrel
        by_cases hl : 0 ≤ l
        · obtain ⟨j, rfl⟩ : ∃ j : Nat, l = j := ⟨l.toNat, by omega⟩
          obtain ⟨v, hcell⟩ := htab.any (i := i) (j := j) (by omega) (by omega)
          have hfr := htab.frozen (i * 61 + j)
          have HT : Hid (Tab wr B xs ys (fun i' j' => ((i : Int) < i' ∧ i' ≤ m ∧ j' ≤ n) ∨ (i' = i ∧ (j : Int) < j' ∧ j' ≤ n))) := htab
          clear htab
          by_cases hi : i = m
          · subst hi
            have HD : Hid ((n : Int) - j = (dist (xs.drop i) (ys.drop j) : Nat)) := by
              have := dist_end (xs := xs) (ys := ys) (j := j) (by rw [HN.out]; omega)
              rw [HN.out, HM.out] at this; exact this
            go_wp2
            go_roundw
            case rel => exact ⟨j - 1, by omega, by omega, rfl, hbl.setCell (Nat.le_refl _) _, by simpa using hsz, HT.out.set (by omega) (by omega) HD.out fun i' j' h => by omega⟩
            case measure => simp [intOf]
          · have hie : ((i : Int) == (m : Int)) = false := by simp; omega
            by_cases hj : j = n
            · subst hj
              have HD : Hid ((m : Int) - i = (dist (xs.drop i) (ys.drop j) : Nat)) := by
                have := dist_end' (xs := xs) (ys := ys) (i := i) (by rw [HM.out]; omega)
                rw [HN.out, HM.out] at this; exact this
              go_wp2
              go_roundw
              case rel => exact ⟨j - 1, by omega, by omega, rfl, hbl.setCell (Nat.le_refl _) _, by simpa using hsz, HT.out.set (by omega) (by omega) HD.out fun i' j' h => by omega⟩
              case measure => simp [intOf]
            · have hje : ((j : Int) == (n : Int)) = false := by simp; omega
              have him : i < m := by omega
              have hjn : j < n := by omega
              have ha := HA.out
              have hb := HBB.out
              obtain ⟨ba, oa, rfl, hca⟩ := Strs.at ha (i := i) (by rw [HM.out]; exact him)
              obtain ⟨bb, ob, rfl, hcb⟩ := Strs.at hb (i := j) (by rw [HN.out]; exact hjn)
              replace hca := cell_later (by rw [HB.out]; exact hbl) (hca i (by rw [HM.out]; exact him))
              replace hcb := cell_later (by rw [HB.out]; exact hbl) (hcb j (by rw [HN.out]; exact hjn))
              have hdh := dist_hit (xs := xs) (ys := ys) (i := i) (j := j) (by rw [HM.out]; exact him) (by rw [HN.out]; exact hjn)
              have hdm := dist_miss (xs := xs) (ys := ys) (i := i) (j := j) (by rw [HM.out]; exact him) (by rw [HN.out]; exact hjn)
              obtain ⟨x, hx⟩ : ∃ x, xs.getD i ByteArray.empty = x := ⟨_, rfl⟩
              obtain ⟨y, hy⟩ : ∃ y, ys.getD j ByteArray.empty = y := ⟨_, rfl⟩
              rw [hx] at hca hdh hdm
              rw [hy] at hcb hdh hdm
              clear hx hy ha hb
              by_cases he : (x.toList == y.toList) = true
              · have HD : Hid (dist (xs.drop (i + 1)) (ys.drop (j + 1)) = dist (xs.drop i) (ys.drop j)) := (hdh (bytes_eq he)).symm
                have hrd := HT.out.cell (i := i + 1) (j := j + 1) (by omega) (by omega) (by omega)
                clear hdh hdm
                obtain ⟨d, hd⟩ : ∃ d, dist (xs.drop (i + 1)) (ys.drop (j + 1)) = d := ⟨_, rfl⟩
                rw [hd] at hrd HD
                clear hd
                go_wp2
                go_quiet (fail)
                go_wp2
                go_region
                go_wp2
                go_roundw
                case rel => exact ⟨j - 1, by omega, by omega, rfl, (below_drawn hbl).setCell (Nat.le_refl _) _, by simpa using hsz, (HT.out.drawn _).set (by omega) (by omega) (by rw [← HD.out]) fun i' j' h => by omega⟩
                case measure => simp [intOf]
              · have he : (x.toList == y.toList) = false := by simpa using he
                have HD := hdm (bytes_ne he)
                have hrd := HT.out.cell (i := i + 1) (j := j) (by omega) (by omega) (by omega)
                have hrd2 := HT.out.cell (i := i) (j := j + 1) (by omega) (by omega) (by omega)
                clear hdh hdm
                obtain ⟨d, hd⟩ : ∃ d, dist (xs.drop (i + 1)) (ys.drop j) = d := ⟨_, rfl⟩
                obtain ⟨d2, hd2⟩ : ∃ d, dist (xs.drop i) (ys.drop (j + 1)) = d := ⟨_, rfl⟩
                rw [hd] at hrd HD
                rw [hd2] at hrd2 HD
                have HL1 : d ≤ 120 := by have := dist_le (xs.drop (i + 1)) (ys.drop j); rw [hd, List.length_drop, List.length_drop, HM.out, HN.out] at this; omega
                have HL2 : d2 ≤ 120 := by have := dist_le (xs.drop i) (ys.drop (j + 1)); rw [hd2, List.length_drop, List.length_drop, HM.out, HN.out] at this; omega
                replace HD : Hid (dist (xs.drop i) (ys.drop j) = 1 + min d d2) := HD
                clear hd hd2
                go_wp2
                go_quiet (fail)
                go_wp2
                go_region
                go_wp2
                go_roundw
                case rel => exact ⟨j - 1, by omega, by omega, rfl, (below_drawn hbl).setCell (Nat.le_refl _) _, by simpa using hsz, (HT.out.drawn _).set (by omega) (by omega) (by rw [HD.out]; omega) fun i' j' h => by omega⟩
                case measure => simp [intOf]
        · go_wp2
          go_roundw
          case rel => exact ⟨i - 1, by omega, by omega, rfl, hbl, hsz, htab.mono fun i' j' h => by omega⟩
          case measure => simp [intOf]
    · go_wp2
      go_ret
      exact ⟨rfl, hbl, hsz, htab.mono fun i' j' h => by omega⟩

end Go.Proofs.YtnkdmgekpajfhaeDoor
namespace Go.Proofs.YtnkdmgekpajfhaeDoor
open Go.RowKit Dist

/-- The first of two faults. -/
def both (f g : Int) : Int := if f = 0 then g else f

theorem both_zero {f g : Int} (h : both f g = 0) : f = 0 ∧ g = 0 := by
  unfold both at h
  by_cases e : f = 0
  · rw [if_pos e] at h; exact ⟨e, h⟩
  · rw [if_neg e] at h; exact absurd h e

/-- The fault of two files. -/
def ff (xs ys : List ByteArray) : Int := both (lsf (bts xs)) (lsf (bts ys))

theorem ff_zero {xs ys : List ByteArray} (h : ff xs ys = 0) : lsf (bts xs) = 0 ∧ lsf (bts ys) = 0 := both_zero h
theorem ff_of {xs ys : List ByteArray} (h1 : lsf (bts xs) = 0) (h2 : lsf (bts ys) = 0) : ff xs ys = 0 := by unfold ff both; rw [if_pos h1, h2]

theorem lsf_len {xs : List ByteArray} (h : lsf (bts xs) = 0) : xs.length ≤ 60 := by have := (lsf_zero h).1; rwa [bts_length] at this

set_option maxHeartbeats 400000 in
theorem checkBoth (a b : Option Addr) (xs ys : List ByteArray) (ca cb : Nat) (w : World) (ha : Strs w a xs) (hb : Strs w b ys) (h1 : xs.length ≤ maxLen) (h2 : ys.length ≤ maxLen) :
    Calls Tryd.prog 98 #[.slice a xs.length ca, .slice b ys.length cb] w fun e w' => e = .returned (errV (ff xs ys)) ∧ w' = w := by
  have hc1 := check_any a xs ca w ha h1
  have hc2 := check_any b ys cb w hb h2
  obtain ⟨m, hm⟩ : ∃ m, xs.length = m := ⟨_, rfl⟩
  obtain ⟨n, hn⟩ : ∃ n, ys.length = n := ⟨_, rfl⟩
  obtain ⟨f, hf⟩ : ∃ f, lsf (bts xs) = f := ⟨_, rfl⟩
  obtain ⟨g, hg⟩ : ∃ g, lsf (bts ys) = g := ⟨_, rfl⟩
  have e : ff xs ys = both f g := by unfold ff; rw [hf, hg]
  rw [hm, hf] at hc1
  rw [hn, hg] at hc2
  rw [hm, hn, e]
  clear hm hn hf hg e ha hb h1 h2
  by_cases h : f = 0
  · subst h
    have e2 : both 0 g = g := rfl
    rw [e2]
    rw [errV_zero] at hc1
    obtain ⟨v, hv⟩ : ∃ v, errV g = v := ⟨_, rfl⟩
    rw [hv] at hc2 ⊢
    clear hv e2
    go_enter Tryd.func98, Tryd.ntmps98
    go_wp2_with (go_at_call 40; refine hc1.mono ?_)
    rintro e w1 ⟨rfl, hw⟩
    rw [hw]
    clear hw hc1
    go_wp2_with (go_at_call 40; refine hc2.mono ?_)
    rintro e w1 ⟨rfl, hw⟩
    rw [hw]
    clear hw hc2
    go_wp2
    go_ret
    exact ⟨rfl, rfl⟩
  · have e2 : both f g = f := by unfold both; rw [if_neg h]
    rw [e2]
    rw [errV_not h] at hc1 ⊢
    clear e2 hc2 h
    go_enter Tryd.func98, Tryd.ntmps98
    go_wp2_with (go_at_call 40; refine hc1.mono ?_; rintro e w' ⟨rfl, hw⟩; rw [hw])
    go_ret
    exact ⟨rfl, rfl⟩

/-- How far it is, 0 where a file has a fault. -/
def farOf (xs ys : List ByteArray) : Int := if ff xs ys = 0 then dist xs ys else 0

end Go.Proofs.YtnkdmgekpajfhaeDoor
namespace Go.Proofs.YtnkdmgekpajfhaeDoor
open Go.RowKit Dist

set_option maxHeartbeats 400000 in
theorem markOf (c : Int) (t : ByteArray) (w : World) (ht : t.size ≤ 80) : Calls Tryd.prog 74 #[.int .u8 c, .string t] w fun e w' => e = .returned (.agg #[.int .u8 c, .string t]) ∧ Below w.heap.size w w' := by
  have hcl := clone t (w.alloc (.cells #[.int .u8 0, .string ⟨#[]⟩] 37)) (by omega)
  have hb0 := below_alloc w (.cells #[.int .u8 0, .string ⟨#[]⟩] 37)
  have hblk := heap_alloc_new w (.cells #[.int .u8 0, .string ⟨#[]⟩] 37)
  have hsz : w.heap.size < (w.alloc (.cells #[.int .u8 0, .string ⟨#[]⟩] 37)).heap.size := by simp
  have HB0 : Hid (Below w.heap.size w (w.alloc (.cells #[.int .u8 0, .string ⟨#[]⟩] 37))) := hb0
  have HBLK : Hid ((w.alloc (.cells #[.int .u8 0, .string ⟨#[]⟩] 37)).heap[w.heap.size]? = some (.cells #[.int .u8 0, .string ⟨#[]⟩] 37)) := hblk
  have HSZ : Hid (w.heap.size < (w.alloc (.cells #[.int .u8 0, .string ⟨#[]⟩] 37)).heap.size) := hsz
  clear hb0 hblk hsz ht
  go_enter Tryd.func74, Tryd.ntmps74
  go_wp2_with (go_at_call 31; refine hcl.mono ?_)
  rintro e w1 ⟨rfl, hb1⟩
  clear hcl
  have hblk := blk_below hb1 HSZ.out HBLK.out
  have hb1 := HB0.out.trans (hb1.mono HB0.out.size)
  have hc1 : w1.cell? ⟨w.heap.size, 0, none⟩ = some (.int .u8 0) := by rw [Lib.cell_of_heap hblk]; rfl
  have hc2 : w1.cell? ⟨w.heap.size, 1, none⟩ = some (.string ⟨#[]⟩) := by rw [Lib.cell_of_heap hblk]; rfl
  have hf1 := Lib.frozen_of_heap hblk 0
  have hf2 := Lib.frozen_of_heap hblk 1
  have hblk2 := blk_set (i := 1) (blk_set (i := 0) hblk (.int .u8 c)) (.string t)
  have hc3 := Lib.cell_of_heap hblk2 0
  have hc4 := Lib.cell_of_heap hblk2 1
  simp at hc3 hc4
  clear hblk
  go_wp2
  refine bodyPost_ret (v := .agg #[.int .u8 c, .string t]) (by simp [results, Tryd.results74, go_sem, hc3, hc4]) rfl ⟨rfl, ?_⟩
  exact (hb1.setCell (Nat.le_refl _) _).setCell (Nat.le_refl _) _

/-- The sign of the next mark. -/
def stp (xs ys : List ByteArray) (i j : Nat) : Int :=
  if i = xs.length then 43 else if j = ys.length then 45 else if xs.getD i ByteArray.empty = ys.getD j ByteArray.empty then 32
  else if dist (xs.drop (i + 1)) (ys.drop j) ≤ dist (xs.drop i) (ys.drop (j + 1)) then 45 else 43

set_option maxRecDepth 100000 in
set_option maxHeartbeats 1000000 in
theorem step (a b : Option Addr) (xs ys : List ByteArray) (ca cb B i j : Nat) (w : World) (ha : Strs w a xs) (hb : Strs w b ys) (h1 : xs.length ≤ 60) (h2 : ys.length ≤ 60) (hi : i ≤ xs.length) (hj : j ≤ ys.length)
    (ht : Tab w B xs ys (fun i j => i ≤ xs.length ∧ j ≤ ys.length)) :
    Calls Tryd.prog 100 #[.pointer (some ⟨B, 0, none⟩), .slice a xs.length ca, .slice b ys.length cb, .int .i64 i, .int .i64 j] w fun e w' => e = .returned (.int .u8 (stp xs ys i j)) ∧ Below w.heap.size w w' := by
  have HD : Hid (stp xs ys i j = if i = xs.length then 43 else if j = ys.length then 45 else if xs.getD i ByteArray.empty = ys.getD j ByteArray.empty then 32 else if dist (xs.drop (i + 1)) (ys.drop j) ≤ dist (xs.drop i) (ys.drop (j + 1)) then 45 else 43) := rfl
  have HR1 := fun h1 h2 => ht.cell (i := i + 1) (j := j) (by exact ⟨h1, h2⟩)
  have HR2 := fun h1 h2 => ht.cell (i := i) (j := j + 1) (by exact ⟨h1, h2⟩)
  obtain ⟨d, hd⟩ : ∃ d, stp xs ys i j = d := ⟨_, rfl⟩
  rw [hd] at HD ⊢
  clear hd ht
  obtain ⟨m, hm⟩ : ∃ m, xs.length = m := ⟨_, rfl⟩
  obtain ⟨n, hn⟩ : ∃ n, ys.length = n := ⟨_, rfl⟩
  rw [hm] at h1 hi HD HR1 HR2 ⊢
  rw [hn] at h2 hj HD HR1 HR2 ⊢
  have HM : Hid (xs.length = m) := hm
  have HN : Hid (ys.length = n) := hn
  clear hm hn
  by_cases e1 : i = m
  · obtain rfl : d = 43 := by rw [HD.out, if_pos e1]
    subst e1
    clear HD HR1 HR2 ha hb
    go_enter Tryd.func100, Tryd.ntmps100
    go_wp2
    go_ret
    exact ⟨rfl, Below.refl _ _⟩
  have f1 : ((i : Int) == (m : Int)) = false := by simp; omega
  by_cases e2 : j = n
  · obtain rfl : d = 45 := by rw [HD.out, if_neg e1, if_pos e2]
    subst e2
    clear HD HR1 HR2 ha hb
    go_enter Tryd.func100, Tryd.ntmps100
    go_wp2
    go_ret
    exact ⟨rfl, Below.refl _ _⟩
  have f2 : ((j : Int) == (n : Int)) = false := by simp; omega
  have him : i < m := by omega
  have hjn : j < n := by omega
  have hr1 := HR1 (by omega) (by omega) (by omega) (by omega)
  have hr2 := HR2 (by omega) (by omega) (by omega) (by omega)
  obtain ⟨ba, oa, rfl, hca⟩ := Strs.at ha (i := i) (by rw [HM.out]; exact him)
  obtain ⟨bb, ob, rfl, hcb⟩ := Strs.at hb (i := j) (by rw [HN.out]; exact hjn)
  replace hca := hca i (by rw [HM.out]; exact him)
  replace hcb := hcb j (by rw [HN.out]; exact hjn)
  obtain ⟨x, hx⟩ : ∃ x, xs.getD i ByteArray.empty = x := ⟨_, rfl⟩
  obtain ⟨y, hy⟩ : ∃ y, ys.getD j ByteArray.empty = y := ⟨_, rfl⟩
  rw [hx] at hca HD
  rw [hy] at hcb HD
  rw [if_neg e1, if_neg e2] at HD
  obtain ⟨d1, hd1⟩ : ∃ d, dist (xs.drop (i + 1)) (ys.drop j) = d := ⟨_, rfl⟩
  obtain ⟨d2, hd2⟩ : ∃ d, dist (xs.drop i) (ys.drop (j + 1)) = d := ⟨_, rfl⟩
  rw [hd1] at hr1 HD
  rw [hd2] at hr2 HD
  clear hx hy ha hb HR1 HR2 hd1 hd2 e1 e2
  by_cases he : (x.toList == y.toList) = true
  · obtain rfl : d = 32 := by rw [HD.out, if_pos (bytes_eq he)]
    clear HD hr1 hr2
    go_enter Tryd.func100, Tryd.ntmps100
    go_wp2
    go_quiet (fail)
    go_wp2
    go_ret
    exact ⟨rfl, below_drawn (Below.refl _ _)⟩
  · have he : (x.toList == y.toList) = false := by simpa using he
    by_cases hle : d1 ≤ d2
    · obtain rfl : d = 45 := by rw [HD.out, if_neg (bytes_ne he), if_pos hle]
      have hle' : (d1 : Int) ≤ (d2 : Int) := by omega
      clear HD hle
      go_enter Tryd.func100, Tryd.ntmps100
      go_wp2
      go_quiet (fail)
      go_wp2
      go_quiet (fail)
      go_wp2
      go_ret
      exact ⟨rfl, below_drawn (below_drawn (Below.refl _ _))⟩
    · obtain rfl : d = 43 := by rw [HD.out, if_neg (bytes_ne he), if_neg hle]
      have hle' : ¬ (d1 : Int) ≤ (d2 : Int) := by omega
      clear HD hle
      go_enter Tryd.func100, Tryd.ntmps100
      go_wp2
      go_quiet (fail)
      go_wp2
      go_quiet (fail)
      go_wp2
      go_ret
      exact ⟨rfl, below_drawn (below_drawn (Below.refl _ _))⟩

theorem stp_cases {xs ys : List ByteArray} {i j : Nat} (hi : i ≤ xs.length) (hj : j ≤ ys.length) (h : i < xs.length ∨ j < ys.length) :
    (stp xs ys i j = 32 ∧ i < xs.length ∧ j < ys.length ∧ scr (xs.drop i) (ys.drop j) = (32, xs.getD i ByteArray.empty) :: scr (xs.drop (i + 1)) (ys.drop (j + 1))) ∨
    (stp xs ys i j = 45 ∧ i < xs.length ∧ scr (xs.drop i) (ys.drop j) = (45, xs.getD i ByteArray.empty) :: scr (xs.drop (i + 1)) (ys.drop j)) ∨
    (stp xs ys i j = 43 ∧ j < ys.length ∧ scr (xs.drop i) (ys.drop j) = (43, ys.getD j ByteArray.empty) :: scr (xs.drop i) (ys.drop (j + 1))) := by
  unfold stp
  by_cases e1 : i = xs.length
  · refine .inr (.inr ⟨if_pos e1, by omega, ?_⟩)
    rw [e1, List.drop_of_length_le (Nat.le_refl _), drop_at (xs := ys) (i := j) (by omega), scr_put]
  rw [if_neg e1]
  by_cases e2 : j = ys.length
  · refine .inr (.inl ⟨if_pos e2, by omega, ?_⟩)
    rw [e2, List.drop_of_length_le (Nat.le_refl ys.length), drop_at (xs := xs) (i := i) (by omega), scr_take]
  rw [if_neg e2]
  have h1 : i < xs.length := by omega
  have h2 : j < ys.length := by omega
  have hs : scr (xs.drop i) (ys.drop j) = if xs.getD i ByteArray.empty = ys.getD j ByteArray.empty then (32, xs.getD i ByteArray.empty) :: scr (xs.drop (i + 1)) (ys.drop (j + 1)) else if dist (xs.drop (i + 1)) (ys.drop j) ≤ dist (xs.drop i) (ys.drop (j + 1)) then (45, xs.getD i ByteArray.empty) :: scr (xs.drop (i + 1)) (ys.drop j) else (43, ys.getD j ByteArray.empty) :: scr (xs.drop i) (ys.drop (j + 1)) := by
    conv => lhs; rw [drop_at h1, drop_at h2, scr_cons]
    rw [← drop_at h1, ← drop_at h2]
  rw [hs]
  by_cases e3 : xs.getD i ByteArray.empty = ys.getD j ByteArray.empty
  · exact .inl ⟨if_pos e3, h1, h2, if_pos e3⟩
  rw [if_neg e3, if_neg e3]
  by_cases e4 : dist (xs.drop (i + 1)) (ys.drop j) ≤ dist (xs.drop i) (ys.drop (j + 1))
  · exact .inr (.inl ⟨if_pos e4, h1, if_pos e4⟩)
  · exact .inr (.inr ⟨if_neg e4, h2, if_neg e4⟩)

theorem Tryd.infoMark : (Tryd.prog.info? 37).map (fun i => (i.zero, i.size, i.bytes)) = some (some (.agg #[.int .u8 0, .string ByteArray.empty]), 2, 24) := by kernel_rfl

theorem cell_two_new (w : World) (x y : Value) (t : TypeId) : ∀ j u, [x, y][j]? = some u → (w.alloc (.cells #[x, y] t)).cell? ((⟨w.heap.size, 0, none⟩ : Addr).add j) = some u := by
  intro j u hj
  have hblk := heap_alloc_new w (.cells #[x, y] t)
  match j, hj with
  | 0, hj =>
    simp at hj
    subst hj
    exact Lib.cell_of_heap hblk 0
  | 1, hj =>
    simp at hj
    subst hj
    exact Lib.cell_of_heap hblk 1

theorem mem_getD {xs : List ByteArray} {i : Nat} (hi : i < xs.length) : xs.getD i ByteArray.empty ∈ xs := by
  have e : xs.getD i ByteArray.empty = xs[i] := by simp [hi]
  rw [e]; exact List.getElem_mem _

theorem line_small {xs : List ByteArray} (h : lsf (bts xs) = 0) {i : Nat} (hi : i < xs.length) : (xs.getD i ByteArray.empty).size ≤ 80 := by
  have := (lsf_zero h).2 _ (List.mem_map.2 ⟨_, mem_getD hi, rfl⟩)
  have := (lf_zero this).2
  rw [Lib.size_eq]; exact this

set_option maxRecDepth 100000 in
set_option maxHeartbeats 2000000 in
theorem script_ok (a b : Option Addr) (xs ys : List ByteArray) (ca cb : Nat) (w : World) (ha : Strs w a xs) (hb : Strs w b ys) (hf : ff xs ys = 0) :
    Calls Tryd.prog 87 #[.slice a xs.length ca, .slice b ys.length cb] w fun e w' => ∃ a' cap, e = .returned (.tuple #[.slice a' (scr xs ys).length cap, .nilIface]) ∧ Mks w' a' (scr xs ys) ∧ Below w.heap.size w w' := by
  obtain ⟨f1, f2⟩ := ff_zero hf
  have h1 := lsf_len f1
  have h2 := lsf_len f2
  have hck := checkBoth a b xs ys ca cb w ha hb (by unfold maxLen; omega) (by unfold maxLen; omega)
  have hte := toEnd a b xs ys ca cb w ha hb h1 h2
  rw [hf, errV_zero] at hck
  obtain ⟨i0, hi0, hz0, hz1, hz2⟩ := info_parts Tryd.infoMark
  have HXS : Hid (∀ i, i < xs.length → (xs.getD i ByteArray.empty).size ≤ 80) := fun i hi => line_small f1 hi
  have HYS : Hid (∀ i, i < ys.length → (ys.getD i ByteArray.empty).size ≤ 80) := fun i hi => line_small f2 hi
  have HSL : Hid ((scr xs ys).length ≤ 120) := by have := (scr_ok xs ys).2.2.2.1; show (scr xs ys).length ≤ 120; omega
  have HST := fun w' B i j ha hb => step a b xs ys ca cb B i j w' ha hb h1 h2
  have HSC := fun i j hi hj h => stp_cases (xs := xs) (ys := ys) (i := i) (j := j) hi hj h
  obtain ⟨m, hm⟩ : ∃ m, xs.length = m := ⟨_, rfl⟩
  obtain ⟨n, hn⟩ : ∃ n, ys.length = n := ⟨_, rfl⟩
  rw [hm] at h1 hck hte HST HSC HXS ⊢
  rw [hn] at h2 hck hte HST HSC HYS ⊢
  have HM : Hid (xs.length = m) := hm
  have HN : Hid (ys.length = n) := hn
  have HA : Hid (Strs w a xs) := ha
  have HBB : Hid (Strs w b ys) := hb
  clear hm hn ha hb f1 f2 hf
  obtain ⟨B, hB⟩ : ∃ B, w.heap.size = B := ⟨_, rfl⟩
  have HB : Hid (w.heap.size = B) := hB
  rw [hB] at hte ⊢
  clear hB
  go_enter Tryd.func87, Tryd.ntmps87
  go_wp2_with (first | (go_at_call 98; refine hck.mono ?_; rintro e w' ⟨rfl, hw⟩; rw [hw]) | (go_at_call 99; refine hte.mono ?_))
  rintro e w0 ⟨rfl, hb0, hs0, htab⟩
  clear hck hte
  have HT : Hid (Tab w0 B xs ys (fun i j => i ≤ m ∧ j ≤ n)) := htab
  have HB0 : Hid (Below B w w0) := hb0
  have HA0 : Hid (Strs w0 a xs) := HA.out.below (by rw [HB.out]; exact hb0)
  have HBB0 : Hid (Strs w0 b ys) := HBB.out.below (by rw [HB.out]; exact hb0)
  clear htab hb0 HA HBB
  obtain ⟨B0, hB0⟩ : ∃ B0, w0.heap.size = B0 := ⟨_, rfl⟩
  have HBZ : Hid (w0.heap.size = B0) := hB0
  rw [hB0] at hs0
  clear hB0
  go_wp2
  go_loopw [8, 9, 10] (fun v vi vj w1 => ∃ (i j : Nat) (done : List (Int × ByteArray)), i ≤ m ∧ j ≤ n ∧ vi = .int .i64 i ∧ vj = .int .i64 j ∧ Below B0 w0 w1 ∧ done ++ scr (xs.drop i) (ys.drop j) = scr xs ys ∧ w1.ownsRow B0 37 2 v done.length (mcells done)) (fun _ vi vj _ => (m - (intOf vi).toNat) + (n - (intOf vj).toNat))
  case atStart => exact ⟨0, 0, [], Nat.zero_le _, Nat.zero_le _, rfl, rfl, Below.refl _ _, rfl, ⟨rfl, Or.inl ⟨rfl, rfl⟩⟩⟩
  case round =>
    obtain ⟨i, j, done, hi, hj, rfl, rfl, hbl, hdone, hown⟩ := hrel
    have HD : Hid (done ++ scr (xs.drop i) (ys.drop j) = scr xs ys) := hdone
    have HDL : done.length + (scr (xs.drop i) (ys.drop j)).length ≤ 120 := by have := HSL.out; rw [← hdone, List.length_append] at this; exact this
    clear hdone
    have hszB : B0 ≤ wr.heap.size := by have := hbl.size; rw [HBZ.out] at this; exact this
    have hst := HST wr B i j (HA0.out.below (by rw [HBZ.out]; exact hbl)) (HBB0.out.below (by rw [HBZ.out]; exact hbl)) hi hj (HT.out.below (by rw [HBZ.out]; exact hbl) (by rw [HBZ.out]; exact hs0))
    by_cases hend : i < m ∨ j < n
    · rcases HSC i j hi hj hend with ⟨e, him, hjn, hsc⟩ | ⟨e, him, hsc⟩ | ⟨e, hjn, hsc⟩
      · rw [e] at hst
        have hdl : done.length < 120 := by rw [hsc, List.length_cons] at HDL; omega
        have HSN : Hid ((done ++ [(32, xs.getD i ByteArray.empty)]) ++ scr (xs.drop (i + 1)) (ys.drop (j + 1)) = scr xs ys) := by
          have := HD.out
          rw [hsc] at this
          show (done ++ [(32, xs.getD i ByteArray.empty)]) ++ scr (xs.drop (i + 1)) (ys.drop (j + 1)) = scr xs ys
          rw [← this, List.append_assoc]; rfl
        have hln := HA0.out
        obtain ⟨bb, ob, rfl, hcc⟩ := Strs.at hln (i := i) (by rw [HM.out]; exact him)
        replace hcc := hcc i (by rw [HM.out]; exact him)
        have hts := HXS.out i him
        obtain ⟨t, ht⟩ : ∃ t, xs.getD i ByteArray.empty = t := ⟨_, rfl⟩
        rw [ht] at hcc hts HSN
        clear hln HDL HSC HD hsc e ht HST
        go_wp2_with (go_at_call 100; refine hst.mono ?_)
        rintro e w1 ⟨rfl, hb1⟩
        have hown1 := own_later hown hb1
        have hb1 := hbl.trans (hb1.mono hszB)
        have hs1 : B0 ≤ w1.heap.size := by have := hb1.size; rw [HBZ.out] at this; exact this
        replace hcc := cell_later (by rw [HBZ.out]; exact hb1) hcc
        clear hst hown hbl hszB hend
        go_wp2_with (go_at_call 74; refine (markOf 32 t w1 hts).mono ?_)
        rintro e w2 ⟨rfl, hb2⟩
        have hown2 := own_later hown1 hb2
        have hb2 := hb1.trans (hb2.mono hs1)
        have hs2 : B0 ≤ w2.heap.size := by have := hb2.size; rw [HBZ.out] at this; exact this
        clear hown1 hb1 hs1 hcc
        go_wp2_with (at_builtin; refine wpList_append_own _ rfl _ _ 38 rfl B0 37 i0 (.agg #[.int .u8 0, .string ByteArray.empty]) 2 24 Tryd.underlying38 hi0 hz0 hz1 hz2 rfl (by decide) _ _ _ rfl (hown2.alloc _) ⟨w2.heap.size, 0, none⟩ 1 1 [.int .u8 32, .string t] rfl rfl (cell_two_new _ _ _ _) (fun x hx => by simp at hx; rcases hx with rfl | rfl <;> rfl) (by unfold maxLen; omega) (by omega) (by simp; omega) ?_; intro v' w3 hown' hgrow3 hnil3)
        go_roundw
        case rel =>
          refine ⟨i + 1, j + 1, done ++ [(32, t)], by omega, by omega, by go_num, by go_num, ?_, HSN.out, ?_⟩
          · exact (hb2.alloc (by omega) _).grown hgrow3 (by simp; omega) (fun j hj => (hown2.lt j hj).1)
          · rw [mcells_append, List.length_append]; exact hown'
        case measure => simp [intOf]; omega
      · rw [e] at hst
        have hdl : done.length < 120 := by rw [hsc, List.length_cons] at HDL; omega
        have HSN : Hid ((done ++ [(45, xs.getD i ByteArray.empty)]) ++ scr (xs.drop (i + 1)) (ys.drop (j)) = scr xs ys) := by
          have := HD.out
          rw [hsc] at this
          show (done ++ [(45, xs.getD i ByteArray.empty)]) ++ scr (xs.drop (i + 1)) (ys.drop (j)) = scr xs ys
          rw [← this, List.append_assoc]; rfl
        have hln := HA0.out
        obtain ⟨bb, ob, rfl, hcc⟩ := Strs.at hln (i := i) (by rw [HM.out]; exact him)
        replace hcc := hcc i (by rw [HM.out]; exact him)
        have hts := HXS.out i him
        obtain ⟨t, ht⟩ : ∃ t, xs.getD i ByteArray.empty = t := ⟨_, rfl⟩
        rw [ht] at hcc hts HSN
        clear hln HDL HSC HD hsc e ht HST
        go_wp2_with (go_at_call 100; refine hst.mono ?_)
        rintro e w1 ⟨rfl, hb1⟩
        have hown1 := own_later hown hb1
        have hb1 := hbl.trans (hb1.mono hszB)
        have hs1 : B0 ≤ w1.heap.size := by have := hb1.size; rw [HBZ.out] at this; exact this
        replace hcc := cell_later (by rw [HBZ.out]; exact hb1) hcc
        clear hst hown hbl hszB hend
        go_wp2_with (go_at_call 74; refine (markOf 45 t w1 hts).mono ?_)
        rintro e w2 ⟨rfl, hb2⟩
        have hown2 := own_later hown1 hb2
        have hb2 := hb1.trans (hb2.mono hs1)
        have hs2 : B0 ≤ w2.heap.size := by have := hb2.size; rw [HBZ.out] at this; exact this
        clear hown1 hb1 hs1 hcc
        go_wp2_with (at_builtin; refine wpList_append_own _ rfl _ _ 38 rfl B0 37 i0 (.agg #[.int .u8 0, .string ByteArray.empty]) 2 24 Tryd.underlying38 hi0 hz0 hz1 hz2 rfl (by decide) _ _ _ rfl (hown2.alloc _) ⟨w2.heap.size, 0, none⟩ 1 1 [.int .u8 45, .string t] rfl rfl (cell_two_new _ _ _ _) (fun x hx => by simp at hx; rcases hx with rfl | rfl <;> rfl) (by unfold maxLen; omega) (by omega) (by simp; omega) ?_; intro v' w3 hown' hgrow3 hnil3)
        go_roundw
        case rel =>
          refine ⟨i + 1, j, done ++ [(45, t)], by omega, by omega, by go_num, by go_num, ?_, HSN.out, ?_⟩
          · exact (hb2.alloc (by omega) _).grown hgrow3 (by simp; omega) (fun j hj => (hown2.lt j hj).1)
          · rw [mcells_append, List.length_append]; exact hown'
        case measure => simp [intOf]; omega
      · rw [e] at hst
        have hdl : done.length < 120 := by rw [hsc, List.length_cons] at HDL; omega
        have HSN : Hid ((done ++ [(43, ys.getD j ByteArray.empty)]) ++ scr (xs.drop (i)) (ys.drop (j + 1)) = scr xs ys) := by
          have := HD.out
          rw [hsc] at this
          show (done ++ [(43, ys.getD j ByteArray.empty)]) ++ scr (xs.drop (i)) (ys.drop (j + 1)) = scr xs ys
          rw [← this, List.append_assoc]; rfl
        have hln := HBB0.out
        obtain ⟨bb, ob, rfl, hcc⟩ := Strs.at hln (i := j) (by rw [HN.out]; exact hjn)
        replace hcc := hcc j (by rw [HN.out]; exact hjn)
        have hts := HYS.out j hjn
        obtain ⟨t, ht⟩ : ∃ t, ys.getD j ByteArray.empty = t := ⟨_, rfl⟩
        rw [ht] at hcc hts HSN
        clear hln HDL HSC HD hsc e ht HST
        by_cases hg : i < m
        all_goals
          go_wp2_with (go_at_call 100; refine hst.mono ?_)
          rintro e w1 ⟨rfl, hb1⟩
          have hown1 := own_later hown hb1
          have hb1 := hbl.trans (hb1.mono hszB)
          have hs1 : B0 ≤ w1.heap.size := by have := hb1.size; rw [HBZ.out] at this; exact this
          replace hcc := cell_later (by rw [HBZ.out]; exact hb1) hcc
          clear hst hown hbl hszB hend
          go_wp2_with (go_at_call 74; refine (markOf 43 t w1 hts).mono ?_)
          rintro e w2 ⟨rfl, hb2⟩
          have hown2 := own_later hown1 hb2
          have hb2 := hb1.trans (hb2.mono hs1)
          have hs2 : B0 ≤ w2.heap.size := by have := hb2.size; rw [HBZ.out] at this; exact this
          clear hown1 hb1 hs1 hcc
          go_wp2_with (at_builtin; refine wpList_append_own _ rfl _ _ 38 rfl B0 37 i0 (.agg #[.int .u8 0, .string ByteArray.empty]) 2 24 Tryd.underlying38 hi0 hz0 hz1 hz2 rfl (by decide) _ _ _ rfl (hown2.alloc _) ⟨w2.heap.size, 0, none⟩ 1 1 [.int .u8 43, .string t] rfl rfl (cell_two_new _ _ _ _) (fun x hx => by simp at hx; rcases hx with rfl | rfl <;> rfl) (by unfold maxLen; omega) (by omega) (by simp; omega) ?_; intro v' w3 hown' hgrow3 hnil3)
          go_roundw
          case rel =>
            refine ⟨i, j + 1, done ++ [(43, t)], by omega, by omega, by go_num, by go_num, ?_, HSN.out, ?_⟩
            · exact (hb2.alloc (by omega) _).grown hgrow3 (by simp; omega) (fun j hj => (hown2.lt j hj).1)
            · rw [mcells_append, List.length_append]; exact hown'
          case measure => simp [intOf]; omega
    · have hi2 : i = m := by omega
      have hj2 : j = n := by omega
      subst hi2 hj2
      have hz : scr (xs.drop i) (ys.drop j) = [] := by rw [List.drop_of_length_le (by rw [HM.out]; exact Nat.le_refl _), List.drop_of_length_le (by rw [HN.out]; exact Nat.le_refl _), scr_nil]; rfl
      have hdone := HD.out
      rw [hz, List.append_nil] at hdone
      clear hst HST HSC HDL HD hz hend
      go_wp2
      go_ret2
      subst hdone
      obtain ⟨a', cap, rfl, hmk⟩ := mks_of_own hown
      exact ⟨a', cap, rfl, hmk, HB0.out.trans (hbl.mono (by omega))⟩

end Go.Proofs.YtnkdmgekpajfhaeDoor
namespace Go.Proofs.YtnkdmgekpajfhaeDoor
open Go.RowKit Dist

set_option maxHeartbeats 400000 in
theorem script_bad (a b : Option Addr) (xs ys : List ByteArray) (ca cb : Nat) (w : World) (ha : Strs w a xs) (hb : Strs w b ys) (h1 : xs.length ≤ maxLen) (h2 : ys.length ≤ maxLen) (hf : ff xs ys ≠ 0) :
    Calls Tryd.prog 87 #[.slice a xs.length ca, .slice b ys.length cb] w fun e w' => e = .returned (.tuple #[.slice none 0 0, .iface 45 (.int .i64 (ff xs ys))]) ∧ Below w.heap.size w w' := by
  have hck := checkBoth a b xs ys ca cb w ha hb h1 h2
  rw [errV_not hf] at hck
  obtain ⟨m, hm⟩ : ∃ m, xs.length = m := ⟨_, rfl⟩
  obtain ⟨n, hn⟩ : ∃ n, ys.length = n := ⟨_, rfl⟩
  obtain ⟨f, hff⟩ : ∃ f, ff xs ys = f := ⟨_, rfl⟩
  rw [hm, hn, hff] at hck
  rw [hm, hn, hff]
  clear hm hn hff h1 h2 hf ha hb
  go_enter Tryd.func87, Tryd.ntmps87
  go_wp2_with (go_at_call 98; refine hck.mono ?_; rintro e w' ⟨rfl, hw⟩; rw [hw])
  go_ret2
  exact ⟨rfl, Below.refl _ _⟩

theorem marks_len (a b : Option Addr) (m n ca cb : Nat) (w : World) (h : m ≠ n) : Calls Tryd.prog 39 #[.slice a m ca, .slice b n cb] w fun e w' => e = .returned (.bool false) ∧ w' = w := by
  have h' : ((m : Int) == (n : Int)) = false := by simp; omega
  go_enter Tryd.func39, Tryd.ntmps39
  go_wp2
  go_ret
  exact ⟨rfl, rfl⟩

set_option maxHeartbeats 1000000 in
theorem marks_eq (a b : Option Addr) (ms : List (Int × ByteArray)) (ca cb : Nat) (w : World) (ha : Mks w a ms) (hb : Mks w b ms) (hm : ms.length ≤ maxLen) :
    Calls Tryd.prog 39 #[.slice a ms.length ca, .slice b ms.length cb] w fun e w' => e = .returned (.bool true) ∧ Below w.heap.size w w' := by
  unfold maxLen at hm
  obtain ⟨n, hn⟩ : ∃ n, ms.length = n := ⟨_, rfl⟩
  rw [hn] at hm ⊢
  have HN : Hid (ms.length = n) := hn
  have HA : Hid (Mks w a ms) := ha
  have HB : Hid (Mks w b ms) := hb
  clear hn ha hb
  go_enter Tryd.func39, Tryd.ntmps39
  go_wp2
  go_loopw [5] (fun i w1 => ∃ k : Nat, k ≤ n ∧ i = .int .i64 k ∧ ∃ q, w1 = w.drewN q) (fun i _ => n - (intOf i).toNat)
  case atStart => exact ⟨0, Nat.zero_le _, rfl, 0, rfl⟩
  case round =>
    obtain ⟨k, hk, rfl, q, rfl⟩ := hrel
    by_cases hlt : k < n
    · have ha := HA.out
      have hb := HB.out
      obtain ⟨ba, oa, rfl, hc1, hc2⟩ := ha.at (i := k) (by rw [HN.out]; exact hlt)
      obtain ⟨bb, ob, rfl, hc3, hc4⟩ := hb.at (i := k) (by rw [HN.out]; exact hlt)
      obtain ⟨c, hc⟩ : ∃ c, (ms.getD k (0, ByteArray.empty)).1 = c := ⟨_, rfl⟩
      obtain ⟨t, ht⟩ : ∃ t, (ms.getD k (0, ByteArray.empty)).2 = t := ⟨_, rfl⟩
      rw [hc] at hc1 hc3
      rw [ht] at hc2 hc4
      clear ha hb hc ht
      go_wp2
      go_quiet (fail)
      go_wp2
      go_roundw
      case rel => exact ⟨k + 1, by omega, by go_num, _, rfl⟩
      case measure => simp [intOf]; omega
    · go_wp2
      go_ret
      exact ⟨rfl, below_drawn (Below.refl _ _)⟩

end Go.Proofs.YtnkdmgekpajfhaeDoor
