/-
  Walk of the document's own count of lines that differ. Rows of texts that a call lengthens.
-/
import Derived.Test.YtfmhapajdnmhoafGreatDoorXp
import Derived.Test.YtfmhapajdnmhoafGreatDoorXf
namespace Go.Proofs.YtfmhapajdnmhoafGreatDoor
open Go.RowKit Dist

set_option maxHeartbeats 1000000 in
set_option maxRecDepth 100000 in
theorem differOf (a b : Option Addr) (xs ys : List ByteArray) (ca cb : Nat) (w : World) (ha : Strs w a xs) (hb : Strs w b ys) (h1 : xs.length ≤ 2912) (h2 : ys.length ≤ 2912) :
    Calls Tryz.prog 10 #[.slice a xs.length ca, .slice b ys.length cb] w fun e w' => e = .returned (.int .i64 (dif xs ys)) ∧ ∃ q, w' = w.drewN q := by
  obtain ⟨V, hV⟩ : ∃ V, ((dif xs ys : Nat) : Int) = V := ⟨_, rfl⟩
  have HV : Hid (((dif xs ys : Nat) : Int) = V) := hV
  rw [hV]
  obtain ⟨m, hm⟩ : ∃ m, xs.length = m := ⟨_, rfl⟩
  obtain ⟨n, hn⟩ : ∃ n, ys.length = n := ⟨_, rfl⟩
  rw [hm] at h1 ⊢
  rw [hn] at h2 ⊢
  have HM : Hid (xs.length = m) := hm
  have HN : Hid (ys.length = n) := hn
  have HA : Hid (Strs w a xs) := ha
  have HB : Hid (Strs w b ys) := hb
  clear hm hn ha hb hV
  go_enter Tryz.func10, Tryz.ntmps10
  go_wp2
  go_loopw [5, 6] (fun s5 i w1 => ∃ k : Nat, k ≤ max m n ∧ s5 = .int .i64 (difT xs ys k : Nat) ∧ i = .int .i64 k ∧ ∃ q, w1 = w.drewN q) (fun _ i _ => max m n - (intOf i).toNat)
  case atStart => exact ⟨0, Nat.zero_le _, rfl, rfl, 0, rfl⟩
  case round =>
    obtain ⟨k, hk, rfl, rfl, q, rfl⟩ := hrel
    have hdt := difT_le xs ys k
    have hds : difT xs ys (k + 1) = difT xs ys k + dif1 xs ys k := rfl
    unfold dif1 at hds
    rw [HM.out, HN.out] at hds
    obtain ⟨y, hy⟩ : ∃ y, difT xs ys k = y := ⟨_, rfl⟩
    rw [hy] at hds hdt
    simp only [hy]
    have HY : Hid (difT xs ys k = y) := hy
    have hyb : y ≤ 3000 := by omega
    clear hy hdt
    by_cases hm1 : k < m
    · have d1 : decide (m ≤ k) = false := by rw [decide_eq_false_iff_not]; omega
      have d1' : decide ((m : Int) ≤ (k : Int)) = false := by rw [decide_eq_false_iff_not]; omega
      by_cases hn1 : k < n
      · have d2 : decide (n ≤ k) = false := by rw [decide_eq_false_iff_not]; omega
        have d2' : decide ((n : Int) ≤ (k : Int)) = false := by rw [decide_eq_false_iff_not]; omega
        obtain ⟨ba, oa, rfl, hca⟩ := Strs.at HA.out (i := k) (by rw [HM.out]; omega)
        obtain ⟨bb, ob, rfl, hcb⟩ := Strs.at HB.out (i := k) (by rw [HN.out]; omega)
        have hca := hca k (by rw [HM.out]; omega)
        have hcb := hcb k (by rw [HN.out]; omega)
        obtain ⟨s, hs⟩ : ∃ s, xs.getD k ByteArray.empty = s := ⟨_, rfl⟩
        obtain ⟨t, ht⟩ : ∃ t, ys.getD k ByteArray.empty = t := ⟨_, rfl⟩
        rw [hs] at hca hds
        rw [ht] at hcb hds
        have HE : Hid (difT xs ys (k + 1) = y + if k < m ∧ k < n ∧ s = t then 0 else 1) := hds
        clear hs ht hds
        by_cases he : (s.toList == t.toList) = true
        · have he2 : s = t := by
            have := beq_iff_eq.1 he
            rw [Lib.toList_data, Lib.toList_data] at this
            exact ByteArray.ext (Array.toList_inj.1 this)
          have HE2 : Hid (difT xs ys (k + 1) = y) := by show _ = _; rw [HE.out, if_pos ⟨hm1, hn1, he2⟩]; rfl
          clear HE he2
          go_wp2
          go_quiet (fail)
          go_wp2
          go_roundw
          case rel => exact ⟨k + 1, by omega, by rw [HE2.out], by go_num, _, rfl⟩
          case measure => simp [intOf]; omega
        · have he : (s.toList == t.toList) = false := by simpa using he
          have he2 : ¬ s = t := fun e => by
            subst e
            simp at he
          have HE2 : Hid (difT xs ys (k + 1) = y + 1) := by show _ = _; rw [HE.out, if_neg fun h => he2 h.2.2]
          clear HE he2
          go_wp2
          go_quiet (fail)
          go_wp2
          go_roundw
          case rel => exact ⟨k + 1, by omega, by rw [HE2.out]; go_num, by go_num, _, rfl⟩
          case measure => simp [intOf]; omega
      · have d2 : decide (n ≤ k) = true := by rw [decide_eq_true_eq]; omega
        have d2' : decide ((n : Int) ≤ (k : Int)) = true := by rw [decide_eq_true_eq]; omega
        have HE2 : Hid (difT xs ys (k + 1) = y + 1) := by show _ = _; rw [hds, if_neg fun h => hn1 h.2.1]
        clear hds
        go_wp2
        go_quiet (fail)
        go_wp2
        go_roundw
        case rel => exact ⟨k + 1, by omega, by rw [HE2.out]; go_num, by go_num, _, rfl⟩
        case measure => simp [intOf]; omega
    · have d1 : decide (m ≤ k) = true := by rw [decide_eq_true_eq]; omega
      have d1' : decide ((m : Int) ≤ (k : Int)) = true := by rw [decide_eq_true_eq]; omega
      have hm2 : m ≤ k := by omega
      by_cases hn1 : k < n
      · have HE2 : Hid (difT xs ys (k + 1) = y + 1) := by show _ = _; rw [hds, if_neg fun h => hm1 h.1]
        clear hds
        go_wp2
        go_quiet (fail)
        go_wp2
        go_roundw
        case rel => exact ⟨k + 1, by omega, by rw [HE2.out]; go_num, by go_num, _, rfl⟩
        case measure => simp [intOf]; omega
      · have hn2 : n ≤ k := by omega
        have hkm : k = max m n := by omega
        have hyV : V = (y : Int) := by
          rw [← HV.out, ← HY.out]
          unfold dif
          rw [HM.out, HN.out, ← hkm]
        subst hyV
        clear hds d1 d1'
        go_wp2
        go_ret
        exact ⟨rfl, _, rfl⟩

end Go.Proofs.YtfmhapajdnmhoafGreatDoor
namespace Go.Proofs.YtfmhapajdnmhoafGreatDoor
open Go.RowKit Dist

theorem Tryz.infoTx2 : (Tryz.prog.info? 38).map (fun i => (i.zero, i.size, i.bytes)) = some (some (.slice none 0 0), 1, 24) := by kernel_rfl

/-- Rows of rows of the call's own. -/
def Txl (w : World) (B : Nat) (v : Value) (ds : List (List ByteArray)) : Prop :=
  ∃ vs : List Value, w.ownsRow B 38 1 v ds.length vs ∧ ∀ i, i < ds.length → ∃ g cap, vs[i]? = some (.slice g (ds.getD i []).length cap) ∧ Strs w g (ds.getD i []) ∧ ∀ x, g = some x → v.ownBlock ≠ some x.block ∧ x.block < w.heap.size

theorem Txl.nil (w : World) (B : Nat) : Txl w B (.slice none 0 0) [] := ⟨[], World.ownsRow_nil _ _ _ _, fun i hi => absurd hi (by simp)⟩
theorem Txl.below {w w' : World} {B : Nat} {v : Value} {ds : List (List ByteArray)} (h : Txl w B v ds) (hb : Below w.heap.size w w') : Txl w' B v ds := by
  obtain ⟨vs, h1, h2⟩ := h
  refine ⟨vs, own_blk h1 hb, fun i hi => ?_⟩
  obtain ⟨g, cap, e, hr, hx⟩ := h2 i hi
  exact ⟨g, cap, e, hr.below hb, fun x hx' => ⟨(hx x hx').1, Nat.lt_of_lt_of_le (hx x hx').2 hb.size⟩⟩
theorem Strs.grw {w w' : World} {a : Option Addr} {zs : List ByteArray} {row : Option Nat} (h : Strs w a zs) (hg : w.grownBy w' row) (hne : ∀ x, a = some x → row ≠ some x.block) : Strs w' a zs := by
  intro i hi
  obtain ⟨b, off, e, hc⟩ := h i hi
  refine ⟨b, off, e, ?_⟩
  have hlt : b < w.heap.size := by
    by_cases hb : b < w.heap.size
    · exact hb
    · simp [World.cell?, Array.getElem?_eq_none (Nat.le_of_not_lt hb)] at hc
  have := hg.block b hlt (fun e2 => hne _ e e2.symm)
  exact (World.cell?_of_block (w := w) (a := ⟨b, off + i, none⟩) this).trans hc
theorem Txl.snoc {w w' : World} {B : Nat} {v v' : Value} {ds : List (List ByteArray)} {vs : List Value} {g : Option Addr} {r : List ByteArray} {cap : Nat}
    (h2 : ∀ i, i < ds.length → ∃ g cap, vs[i]? = some (.slice g (ds.getD i []).length cap) ∧ Strs w g (ds.getD i []) ∧ ∀ x, g = some x → v.ownBlock ≠ some x.block ∧ x.block < w.heap.size) (hl : vs.length = ds.length)
    (hr : Strs w g r) (hx : ∀ x, g = some x → v.ownBlock ≠ some x.block ∧ x.block < w.heap.size) (hown : w'.ownsRow B 38 1 v' (ds.length + 1) (vs ++ [.slice g r.length cap])) (hg : w.grownBy w' v.ownBlock) (hv : v'.ownBlock = v.ownBlock ∨ v'.ownBlock = some w.heap.size) : Txl w' B v' (ds ++ [r]) := by
  have hnew : ∀ x : Addr, (v.ownBlock ≠ some x.block ∧ x.block < w.heap.size) → v'.ownBlock ≠ some x.block ∧ x.block < w'.heap.size := fun x ⟨p, q⟩ => ⟨by
    rcases hv with e | e
    · rw [e]; exact p
    · rw [e]; simp; omega, Nat.lt_of_lt_of_le q hg.size⟩
  refine ⟨vs ++ [.slice g r.length cap], by rw [List.length_append]; exact hown, fun i hi => ?_⟩
  rw [List.length_append] at hi
  by_cases e : i < ds.length
  · obtain ⟨g1, c1, e1, hr1, hx1⟩ := h2 i e
    have e2 : (ds ++ [r]).getD i [] = ds.getD i [] := by simp [List.getElem?_append_left e]
    refine ⟨g1, c1, ?_, ?_, fun x hh => hnew x (hx1 x hh)⟩
    · rw [e2, List.getElem?_append_left (by omega)]; exact e1
    · rw [e2]; exact hr1.grw hg fun x hh => (hx1 x hh).1
  · have e3 : i = ds.length := by simp at hi; omega
    subst e3
    have e2 : (ds ++ [r]).getD ds.length [] = r := by simp
    refine ⟨g, cap, ?_, ?_, fun x hh => hnew x (hx x hh)⟩
    · rw [e2, List.getElem?_append_right (by omega), hl]; simp
    · rw [e2]; exact hr.grw hg fun x hh => (hx x hh).1
theorem Txl.txs {w : World} {B : Nat} {v : Value} {ds : List (List ByteArray)} (h : Txl w B v ds) : ∃ a cap, v = .slice a ds.length cap ∧ Txs w a ds := by
  obtain ⟨vs, h1, h2⟩ := h
  rcases h1.2 with ⟨rfl, h0⟩ | ⟨g, cap, cur, rfl, hB, hh, hnc, _, hcs, ht⟩
  · have : ds = [] := List.length_eq_zero_iff.1 h0
    subst this
    exact ⟨none, 0, rfl, fun i hi => absurd hi (by simp)⟩
  · refine ⟨some ⟨g, 0, none⟩, cap, rfl, fun i hi => ?_⟩
    obtain ⟨g1, c1, e1, hr1, _⟩ := h2 i hi
    refine ⟨g, 0, g1, c1, rfl, ?_, hr1⟩
    rw [Nat.zero_add, Lib.cell_of_heap hh]
    rw [Nat.mul_one] at ht
    rw [← ht, List.getElem?_take, if_pos hi] at e1
    rw [← Array.getElem?_toList, e1]
theorem Txl.own {w : World} {B : Nat} {v : Value} {ds : List (List ByteArray)} (h : Txl w B v ds) : ∀ k, v.ownBlock = some k → B ≤ k ∧ k < w.heap.size := by
  intro k hk
  obtain ⟨vs, h1, _⟩ := h
  rcases h1.2 with ⟨rfl, _⟩ | ⟨g, cap, cur, rfl, hB, hh, _⟩
  · cases hk
  · cases hk
    exact ⟨hB, (Array.getElem?_eq_some_iff.1 hh).1⟩

/-- A row behind rows. -/
theorem append_text {w : World} {ops : Array Oper} {rest : List Oper} {o : Oper} {a : Act} {Q : Exit → Act → World → Prop} (hgd : o.guard = none) (s x : Operand)
    (ho : o.op = .call { callee := .builtin .append, args := #[s, x], argTypes := #[34, 34] }) (B : Nat) (v : Value) (ds : List (List ByteArray)) (hs : a.eval s = v) (hown : Txl w B v ds)
    (b : Nat) (g : Option Addr) (r : List ByteArray) (m c : Nat) (hm : r.length = m) (hx : a.eval x = .slice (some ⟨b, 0, none⟩) 1 1) (hc : w.cell? ⟨b, 0, none⟩ = some (.slice g m c)) (hr : Strs w g r) (hne : ∀ x, g = some x → v.ownBlock ≠ some x.block ∧ x.block < w.heap.size) (h63 : ds.length ≤ 100000) (hbase : B ≤ w.heap.size)
    (h : ∀ v' w', Txl w' B v' (ds ++ [r]) → w.grownBy w' v.ownBlock → (v'.ownBlock = v.ownBlock ∨ v'.ownBlock = some w.heap.size) → wpList Tryz.prog ops Q rest (a.put o.dst v') w') : wpList Tryz.prog ops Q (o :: rest) a w := by
  obtain ⟨i0, hi, hz0, hz1, hz2⟩ := info_parts Tryz.infoTx2
  subst hm
  obtain ⟨vs, h1, h2⟩ := hown
  refine wpList_append_own_at w hgd s x 34 ho B 38 i0 (.slice none 0 0) 1 24 Tryz.underlying34 hi hz0 hz1 hz2 rfl (by decide) v ds.length vs hs h1 ⟨b, 0, none⟩ 1 1 [.slice g r.length c] hx (by simp) (fun j u hj => ?_) (fun u hu => ?_) (by unfold maxLen; omega) (by omega) hbase (fun v' w' h3 h4 _ h5 => h v' w' (Txl.snoc h2 (by have := h1.1; omega) hr hne h3 h4 h5) h4 h5)
  · match j, hj with
    | 0, hj =>
      obtain rfl : _ = u := by simpa using hj
      exact hc
  · obtain rfl := List.mem_singleton.1 hu
    rfl

end Go.Proofs.YtfmhapajdnmhoafGreatDoor
