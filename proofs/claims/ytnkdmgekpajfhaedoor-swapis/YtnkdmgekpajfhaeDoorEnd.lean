/-
  Walk of edit.toEnd: the array of arrays tells at each two places how far it is from there on.
-/
import Derived.Test.YtnkdmgekpajfhaeDoorDist
import Derived.Test.YtnkdmgekpajfhaeDoorStrs
import Derived.BigRegion
import Derived.Lib.Walk
import Derived.Lib.Builder
import Derived.KernelRfl

namespace Go.Proofs.YtnkdmgekpajfhaeDoor
open Go.RowKit Dist

def aggSize : Value → Nat
  | .agg cs => cs.size
  | _ => 0

theorem run_ti {P : Program} {w : World} {t : TypeId} {i : TypeInfo} (h : P.info? t = some i) : (typeInfo t).run P w = .ok i w := by
  simp [typeInfo, h]

/-- A new array of arrays: so many cells. -/
theorem zeroTab : ∃ zs : Array Value, zs.size = 3721 ∧ zs ≠ #[] ∧ ∀ w, Sem.run Tryd.prog (zeroValue 182) w = .ok (.agg zs) w := by
  have h : ((Tryd.prog.info? 182).bind (·.zero)).map aggSize = some 3721 := by kernel_rfl
  cases hi : Tryd.prog.info? 182 with
  | none => rw [hi] at h; simp at h
  | some i =>
    rw [hi] at h
    cases hz : i.zero with
    | none => simp [hz] at h
    | some z =>
      simp [hz] at h
      have key : ∀ w, Sem.run Tryd.prog (zeroValue 182) w = .ok z w := by
        intro w
        unfold zeroValue
        rw [Sem.run_bind, run_ti hi]
        simp only [Result.andThen, hz]
        simp
      cases z <;> simp [aggSize] at h
      rename_i zs
      exact ⟨zs, h, fun e => by simp [e] at h, key⟩

/-- The array of arrays in memory: at the places that P names it tells how far it is from there on. -/
def Tab (w : World) (B : Nat) (xs ys : List ByteArray) (P : Nat → Nat → Prop) : Prop :=
  ∃ cs : Array Value, w.heap[B]? = some (.cells cs 182 (0, 0)) ∧ cs.size = 3721 ∧
    ∀ i j, P i j → i ≤ 60 → j ≤ 60 → cs[i * 61 + j]? = some (.int .i64 (dist (xs.drop i) (ys.drop j)))

theorem Tab.any {w : World} {B : Nat} {xs ys : List ByteArray} {P : Nat → Nat → Prop} (h : Tab w B xs ys P) {i j : Nat} (hi : i ≤ 60) (hj : j ≤ 60) : ∃ v, w.cell? ⟨B, i * 61 + j, none⟩ = some v := by
  obtain ⟨cs, hb, hs, _⟩ := h
  rw [Lib.cell_of_heap hb]
  exact ⟨_, Array.getElem?_eq_getElem (by omega)⟩

theorem Tab.frozen {w : World} {B : Nat} {xs ys : List ByteArray} {P : Nat → Nat → Prop} (h : Tab w B xs ys P) (p : Nat) : w.frozen? ⟨B, p, none⟩ = false := by
  obtain ⟨cs, hb, _, _⟩ := h
  exact Lib.frozen_of_heap hb p

theorem Tab.cell {w : World} {B : Nat} {xs ys : List ByteArray} {P : Nat → Nat → Prop} (h : Tab w B xs ys P) {i j : Nat} (hp : P i j) (hi : i ≤ 60) (hj : j ≤ 60) : w.cell? ⟨B, i * 61 + j, none⟩ = some (.int .i64 (dist (xs.drop i) (ys.drop j))) := by
  obtain ⟨cs, hb, _, hat⟩ := h
  rw [Lib.cell_of_heap hb]
  exact hat i j hp hi hj

theorem Tab.mono {w : World} {B : Nat} {xs ys : List ByteArray} {P Q : Nat → Nat → Prop} (h : Tab w B xs ys P) (hq : ∀ i j, Q i j → P i j) : Tab w B xs ys Q := by
  obtain ⟨cs, hb, hs, hat⟩ := h
  exact ⟨cs, hb, hs, fun i j hp => hat i j (hq i j hp)⟩

theorem Tab.below {w w' : World} {B : Nat} {xs ys : List ByteArray} {P : Nat → Nat → Prop} (h : Tab w B xs ys P) (hb : Below w.heap.size w w') (hB : B < w.heap.size) : Tab w' B xs ys P := by
  obtain ⟨cs, hc, hs, hat⟩ := h
  exact ⟨cs, blk_below hb hB hc, hs, hat⟩

theorem Tab.set {w : World} {B : Nat} {xs ys : List ByteArray} {P Q : Nat → Nat → Prop} (h : Tab w B xs ys P) {i j : Nat} (hi : i ≤ 60) (hj : j ≤ 60) {d : Int} (hd : d = dist (xs.drop i) (ys.drop j)) (hq : ∀ i' j', Q i' j' → P i' j' ∨ (i' = i ∧ j' = j)) :
    Tab (w.setCell ⟨B, i * 61 + j, none⟩ (.int .i64 d)) B xs ys Q := by
  obtain ⟨cs, hb, hs, hat⟩ := h
  refine ⟨_, blk_set hb _, by simpa using hs, fun i' j' hp h1 h2 => ?_⟩
  by_cases e : i' = i ∧ j' = j
  · obtain ⟨rfl, rfl⟩ := e
    rw [Array.getElem?_setIfInBounds_self_of_lt (by omega), hd]
  · rw [Array.getElem?_setIfInBounds_ne (by omega)]
    exact hat i' j' ((hq i' j' hp).resolve_right e) h1 h2

theorem Tab.drawn {w : World} {B : Nat} {xs ys : List ByteArray} {P : Nat → Nat → Prop} (h : Tab w B xs ys P) (q : Nat) : Tab (w.drewN q) B xs ys P := h

theorem dist_end {xs ys : List ByteArray} {j : Nat} (hj : j ≤ ys.length) : ((ys.length : Int) - j) = (dist (xs.drop xs.length) (ys.drop j) : Nat) := by
  rw [List.drop_of_length_le (Nat.le_refl _), dist_nil, List.length_drop]; omega

theorem dist_end' {xs ys : List ByteArray} {i : Nat} (hi : i ≤ xs.length) : ((xs.length : Int) - i) = (dist (xs.drop i) (ys.drop ys.length) : Nat) := by
  rw [List.drop_of_length_le (Nat.le_refl ys.length), dist_nil', List.length_drop]; omega

theorem drop_at {xs : List ByteArray} {i : Nat} (hi : i < xs.length) : xs.drop i = xs.getD i ByteArray.empty :: xs.drop (i + 1) := by
  rw [List.drop_eq_getElem_cons hi]; simp [hi]

theorem dist_hit {xs ys : List ByteArray} {i j : Nat} (hi : i < xs.length) (hj : j < ys.length) (e : xs.getD i ByteArray.empty = ys.getD j ByteArray.empty) :
    dist (xs.drop i) (ys.drop j) = dist (xs.drop (i + 1)) (ys.drop (j + 1)) := by
  rw [drop_at hi, drop_at hj, dist_cons, if_pos e]

theorem dist_miss {xs ys : List ByteArray} {i j : Nat} (hi : i < xs.length) (hj : j < ys.length) (e : xs.getD i ByteArray.empty ≠ ys.getD j ByteArray.empty) :
    dist (xs.drop i) (ys.drop j) = 1 + min (dist (xs.drop (i + 1)) (ys.drop j)) (dist (xs.drop i) (ys.drop (j + 1))) := by
  conv => lhs; rw [drop_at hi, drop_at hj, dist_cons, if_neg e]
  rw [← drop_at hi, ← drop_at hj]

theorem bytes_eq {x y : ByteArray} (h : (x.toList == y.toList) = true) : x = y := by
  have := beq_iff_eq.1 h
  rw [Lib.toList_data, Lib.toList_data] at this
  exact ByteArray.ext (Array.toList_inj.1 this)

theorem bytes_ne {x y : ByteArray} (h : (x.toList == y.toList) = false) : x ≠ y := fun e => by subst e; simp at h

set_option maxRecDepth 100000 in
set_option maxHeartbeats 4000000 in
theorem toEnd (a b : Option Addr) (xs ys : List ByteArray) (ca cb : Nat) (w : World) (ha : Strs w a xs) (hb : Strs w b ys) (h1 : xs.length ≤ 60) (h2 : ys.length ≤ 60) :
    Calls Tryd.prog 99 #[.slice a xs.length ca, .slice b ys.length cb] w fun e w' => e = .returned (.pointer (some ⟨w.heap.size, 0, none⟩)) ∧
      Below w.heap.size w w' ∧ w.heap.size < w'.heap.size ∧ Tab w' w.heap.size xs ys (fun i j => i ≤ xs.length ∧ j ≤ ys.length) := by
  obtain ⟨m, hm⟩ : ∃ m, xs.length = m := ⟨_, rfl⟩
  obtain ⟨n, hn⟩ : ∃ n, ys.length = n := ⟨_, rfl⟩
  rw [hm] at h1 ⊢
  rw [hn] at h2 ⊢
  have HM : Hid (xs.length = m) := hm
  have HN : Hid (ys.length = n) := hn
  have HA : Hid (Strs w a xs) := ha
  have HBB : Hid (Strs w b ys) := hb
  clear hm hn ha hb
  obtain ⟨B, hB⟩ : ∃ B, w.heap.size = B := ⟨_, rfl⟩
  rw [hB]
  have HB : Hid (w.heap.size = B) := hB
  obtain ⟨zs, hzs, hne, hz⟩ := zeroTab
  have HZ : Hid (zs.size = 3721) := hzs
  go_enter Tryd.func99, Tryd.ntmps99
  go_wp2
  clear hz
  go_loopw [6] (fun s6 w1 => ∃ k : Int, -1 ≤ k ∧ k ≤ m ∧ s6 = .int .i64 k ∧ Below B w w1 ∧ B < w1.heap.size ∧ Tab w1 B xs ys (fun i j => k < i ∧ i ≤ m ∧ j ≤ n)) (fun s6 _ => (intOf s6 + 1).toNat)
  case atStart =>
    refine ⟨m, by omega, by omega, rfl, (Below.refl _ _).alloc (by rw [hB]; exact Nat.le_refl _) _, by simp; omega, zs, ?_, hzs, fun i j h => by omega⟩
    subst hB
    exact heap_alloc_new w _
  case round =>
    obtain ⟨k, hk0, hk1, rfl, hbl, hsz, htab⟩ := hrel
    by_cases hk : 0 ≤ k
    · obtain ⟨i, rfl⟩ : ∃ i : Nat, k = i := ⟨k.toNat, by omega⟩
      have HT : Hid (Tab wr B xs ys (fun i' j => (i : Int) < i' ∧ i' ≤ m ∧ j ≤ n)) := htab
      have HL : Hid (Below B w wr) := hbl
      have hszr := hsz
      clear htab hbl
      go_wp2
      go_loopw [7] (fun s7 w1 => ∃ l : Int, -1 ≤ l ∧ l ≤ n ∧ s7 = .int .i64 l ∧ Below B w w1 ∧ B < w1.heap.size ∧ Tab w1 B xs ys (fun i' j => ((i : Int) < i' ∧ i' ≤ m ∧ j ≤ n) ∨ (i' = i ∧ l < j ∧ j ≤ n))) (fun s7 _ => (intOf s7 + 1).toNat)
      case atStart =>
        exact ⟨n, by omega, by omega, rfl, HL.out, hszr, HT.out.mono fun i' j' h => by omega⟩
      case round =>
        clear HT HL hszr
        obtain ⟨l, hl0, hl1, rfl, hbl, hsz, htab⟩ := hrel
        by_cases hl : 0 ≤ l
        · obtain ⟨j, rfl⟩ : ∃ j : Nat, l = j := ⟨l.toNat, by omega⟩
          obtain ⟨v, hcell⟩ := htab.any (i := i) (j := j) (by omega) (by omega)
          have hfr := htab.frozen (i * 61 + j)
          have HT : Hid (Tab wr B xs ys (fun i' j' => ((i : Int) < i' ∧ i' ≤ m ∧ j' ≤ n) ∨ (i' = i ∧ (j : Int) < j' ∧ j' ≤ n))) := htab
          clear htab
          by_cases hi : i = m
          · subst hi
            have HD : Hid ((n : Int) - j = (dist (xs.drop i) (ys.drop j) : Nat)) := by
              have := dist_end (xs := xs) (ys := ys) (j := j) (by rw [HN.out]; omega)
              rw [HN.out, HM.out] at this; exact this
            go_wp2
            go_roundw
            case rel => exact ⟨j - 1, by omega, by omega, rfl, hbl.setCell (Nat.le_refl _) _, by simpa using hsz, HT.out.set (by omega) (by omega) HD.out fun i' j' h => by omega⟩
            case measure => simp [intOf]
          · have hie : ((i : Int) == (m : Int)) = false := by simp; omega
            by_cases hj : j = n
            · subst hj
              have HD : Hid ((m : Int) - i = (dist (xs.drop i) (ys.drop j) : Nat)) := by
                have := dist_end' (xs := xs) (ys := ys) (i := i) (by rw [HM.out]; omega)
                rw [HN.out, HM.out] at this; exact this
              go_wp2
              go_roundw
              case rel => exact ⟨j - 1, by omega, by omega, rfl, hbl.setCell (Nat.le_refl _) _, by simpa using hsz, HT.out.set (by omega) (by omega) HD.out fun i' j' h => by omega⟩
              case measure => simp [intOf]
            · have hje : ((j : Int) == (n : Int)) = false := by simp; omega
              have him : i < m := by omega
              have hjn : j < n := by omega
              have ha := HA.out
              have hb := HBB.out
              obtain ⟨ba, oa, rfl, hca⟩ := Strs.at ha (i := i) (by rw [HM.out]; exact him)
              obtain ⟨bb, ob, rfl, hcb⟩ := Strs.at hb (i := j) (by rw [HN.out]; exact hjn)
              replace hca := cell_later (by rw [HB.out]; exact hbl) (hca i (by rw [HM.out]; exact him))
              replace hcb := cell_later (by rw [HB.out]; exact hbl) (hcb j (by rw [HN.out]; exact hjn))
              have hdh := dist_hit (xs := xs) (ys := ys) (i := i) (j := j) (by rw [HM.out]; exact him) (by rw [HN.out]; exact hjn)
              have hdm := dist_miss (xs := xs) (ys := ys) (i := i) (j := j) (by rw [HM.out]; exact him) (by rw [HN.out]; exact hjn)
              obtain ⟨x, hx⟩ : ∃ x, xs.getD i ByteArray.empty = x := ⟨_, rfl⟩
              obtain ⟨y, hy⟩ : ∃ y, ys.getD j ByteArray.empty = y := ⟨_, rfl⟩
              rw [hx] at hca hdh hdm
              rw [hy] at hcb hdh hdm
              clear hx hy ha hb
              by_cases he : (x.toList == y.toList) = true
              · have HD : Hid (dist (xs.drop (i + 1)) (ys.drop (j + 1)) = dist (xs.drop i) (ys.drop j)) := (hdh (bytes_eq he)).symm
                have hrd := HT.out.cell (i := i + 1) (j := j + 1) (by omega) (by omega) (by omega)
                clear hdh hdm
                obtain ⟨d, hd⟩ : ∃ d, dist (xs.drop (i + 1)) (ys.drop (j + 1)) = d := ⟨_, rfl⟩
                rw [hd] at hrd HD
                clear hd
                go_wp2
                go_quiet (fail)
                go_wp2
                go_region
                go_wp2
                go_roundw
                case rel => exact ⟨j - 1, by omega, by omega, rfl, (below_drawn hbl).setCell (Nat.le_refl _) _, by simpa using hsz, (HT.out.drawn _).set (by omega) (by omega) (by rw [← HD.out]) fun i' j' h => by omega⟩
                case measure => simp [intOf]
              · have he : (x.toList == y.toList) = false := by simpa using he
                have HD := hdm (bytes_ne he)
                have hrd := HT.out.cell (i := i + 1) (j := j) (by omega) (by omega) (by omega)
                have hrd2 := HT.out.cell (i := i) (j := j + 1) (by omega) (by omega) (by omega)
                clear hdh hdm
                obtain ⟨d, hd⟩ : ∃ d, dist (xs.drop (i + 1)) (ys.drop j) = d := ⟨_, rfl⟩
                obtain ⟨d2, hd2⟩ : ∃ d, dist (xs.drop i) (ys.drop (j + 1)) = d := ⟨_, rfl⟩
                rw [hd] at hrd HD
                rw [hd2] at hrd2 HD
                have HL1 : d ≤ 120 := by have := dist_le (xs.drop (i + 1)) (ys.drop j); rw [hd, List.length_drop, List.length_drop, HM.out, HN.out] at this; omega
                have HL2 : d2 ≤ 120 := by have := dist_le (xs.drop i) (ys.drop (j + 1)); rw [hd2, List.length_drop, List.length_drop, HM.out, HN.out] at this; omega
                replace HD : Hid (dist (xs.drop i) (ys.drop j) = 1 + min d d2) := HD
                clear hd hd2
                go_wp2
                go_quiet (fail)
                go_wp2
                go_region
                go_wp2
                go_roundw
                case rel => exact ⟨j - 1, by omega, by omega, rfl, (below_drawn hbl).setCell (Nat.le_refl _) _, by simpa using hsz, (HT.out.drawn _).set (by omega) (by omega) (by rw [HD.out]; omega) fun i' j' h => by omega⟩
                case measure => simp [intOf]
        · go_wp2
          go_roundw
          case rel => exact ⟨i - 1, by omega, by omega, rfl, hbl, hsz, htab.mono fun i' j' h => by omega⟩
          case measure => simp [intOf]
    · go_wp2
      go_ret
      exact ⟨rfl, hbl, hsz, htab.mono fun i' j' h => by omega⟩

end Go.Proofs.YtnkdmgekpajfhaeDoor
