/-
  Lines as they lie in memory; the walk of the comparison of two lists of texts.
-/
import Derived.Test.YtfmhapajdnmhoaeDoorProg
import Derived.Test.YtfmhapajdnmhoaeDoorPlain
import Derived.WalkKit
import Derived.WalkSpells
import Derived.Deep.QuietTactic
import Derived.BigQuiet
import Derived.Deep.OwnRows
import Derived.Deep.LoopGhost
import Derived.Lib.Split
import Derived.Laws.Strings3

namespace Go.Proofs.YtfmhapajdnmhoaeDoor
open Go.RowKit

/-- Lines as they lie in memory. -/
def Strs (w : World) (a : Option Addr) (ss : List ByteArray) : Prop :=
  ∀ i : Nat, i < ss.length → ∃ b off, a = some ⟨b, off, none⟩ ∧ w.cell? ⟨b, off + i, none⟩ = some (.string (ss.getD i ByteArray.empty))

theorem ret_b {a b : Bool} (h : a = b) : Ending.returned (.bool a) = .returned (.bool b) := by rw [h]

theorem Strs.at {w : World} {a : Option Addr} {ss : List ByteArray} (h : Strs w a ss) {i : Nat} (hi : i < ss.length) :
    ∃ b off, a = some ⟨b, off, none⟩ ∧ ∀ j : Nat, j < ss.length → w.cell? ⟨b, off + j, none⟩ = some (.string (ss.getD j ByteArray.empty)) := by
  obtain ⟨b, off, rfl, _⟩ := h i hi
  refine ⟨b, off, rfl, fun j hj => ?_⟩
  obtain ⟨b', off', e, hc⟩ := h j hj
  simp at e
  obtain ⟨rfl, rfl⟩ := e
  exact hc

set_option maxHeartbeats 400000 in
theorem texts_len (a b : Option Addr) (m n ca cb : Nat) (w : World) (h : m ≠ n) : Calls Tryd.prog 20 #[.slice a m ca, .slice b n cb] w fun e w' => e = .returned (.bool false) ∧ w' = w := by
  have h' : ((m : Int) == (n : Int)) = false := by simp; omega
  go_enter Tryd.func20, Tryd.ntmps20
  go_wp2
  go_ret
  exact ⟨rfl, rfl⟩

set_option maxHeartbeats 1000000 in
theorem texts_same (a b : Option Addr) (xs ys : List ByteArray) (ca cb : Nat) (w : World) (ha : Strs w a xs) (hb : Strs w b ys) (hl : xs.length = ys.length) (hm : xs.length ≤ maxLen) :
    Calls Tryd.prog 20 #[.slice a xs.length ca, .slice b ys.length cb] w fun e w' => e = .returned (.bool (decide (xs = ys))) ∧ ∃ n, w' = w.drewN n := by
  unfold maxLen at hm
  obtain ⟨n, hn⟩ : ∃ n, ys.length = n := ⟨_, rfl⟩
  rw [hn] at hl ⊢
  rw [hl]
  have HN : Hid (ys.length = n) := hn
  have HL : Hid (xs.length = n) := hl
  rw [hl] at hm
  clear hn hl
  go_enter Tryd.func20, Tryd.ntmps20
  go_wp2
  go_loopw [5] (fun i w1 => ∃ k : Nat, k ≤ n ∧ i = .int .i64 k ∧ (∃ q, w1 = w.drewN q) ∧ ∀ j : Nat, j < k → xs.getD j ByteArray.empty = ys.getD j ByteArray.empty) (fun i _ => n - (intOf i).toNat)
  case atStart => exact ⟨0, Nat.zero_le _, rfl, ⟨0, rfl⟩, by simp⟩
  case round =>
    obtain ⟨k, hk, rfl, ⟨q, rfl⟩, hall⟩ := hrel
    have HA : Hid (∀ j : Nat, j < k → xs.getD j ByteArray.empty = ys.getD j ByteArray.empty) := hall
    clear hall
    by_cases hlt : k < n
    · obtain ⟨ba, oa, rfl, hca⟩ := Strs.at ha (i := k) (by rw [HL.out]; exact hlt)
      obtain ⟨bb, ob, rfl, hcb⟩ := Strs.at hb (i := k) (by rw [HN.out]; exact hlt)
      have hca := hca k (by rw [HL.out]; exact hlt)
      have hcb := hcb k (by rw [HN.out]; exact hlt)
      obtain ⟨x, hx⟩ : ∃ x, xs.getD k ByteArray.empty = x := ⟨_, rfl⟩
      obtain ⟨y, hy⟩ : ∃ y, ys.getD k ByteArray.empty = y := ⟨_, rfl⟩
      rw [hx] at hca
      rw [hy] at hcb
      have HX : Hid (xs.getD k ByteArray.empty = x) := hx
      have HY : Hid (ys.getD k ByteArray.empty = y) := hy
      clear hx hy ha hb
      by_cases he : (x.toList == y.toList) = true
      · have HE : Hid (x = y) := by
          have := beq_iff_eq.1 he
          rw [Lib.toList_data, Lib.toList_data] at this
          exact ByteArray.ext (Array.toList_inj.1 this)
        go_wp2
        go_quiet (fail)
        go_wp2
        go_round
        case rel => exact ⟨k + 1, by omega, by go_num, ⟨_, rfl⟩, fun j hj => by
          by_cases e : j = k
          · subst e; rw [HX.out, HY.out]; exact HE.out
          · exact HA.out j (by omega)⟩
        case measure => simp [intOf]; omega
      · have he : (x.toList == y.toList) = false := by simpa using he
        go_wp2
        go_quiet (fail)
        go_wp2
        go_ret
        refine ⟨ret_b ?_, q + nq, by simp⟩
        symm
        rw [decide_eq_false_iff_not]
        intro e
        have e2 := HX.out
        rw [e, HY.out] at e2
        subst e2
        simp at he
    · go_wp2
      go_ret
      refine ⟨ret_b ?_, _, rfl⟩
      symm
      rw [decide_eq_true_eq]
      apply List.ext_getElem
      · rw [HL.out, HN.out]
      · intro j h1 h2
        have := HA.out j (by have := HL.out; omega)
        simpa [h1, h2] using this

theorem blk_set {w : World} {g i : Nat} {cs : Array Value} {t : TypeId} {fr : Nat × Nat} (h : w.heap[g]? = some (.cells cs t fr)) (v : Value) : (w.setCell ⟨g, i, none⟩ v).heap[g]? = some (.cells (cs.setIfInBounds i v) t fr) := by
  rw [setCell_eq_setRow w g i cs t fr v h]
  exact setRow_heap w g _ _ t _ h

theorem blk_below {w w' : World} {B g : Nat} {o : Obj} (hb : Below B w w') (hg : g < B) (h : w.heap[g]? = some o) : w'.heap[g]? = some o := by
  rw [hb.block g hg]; exact h

theorem below_drawn {w w1 : World} {q : Nat} {B : Nat} (h : Below B w w1) : Below B w (w1.drewN q) := h.trans ⟨rfl, rfl, rfl, Nat.le_refl _, fun _ _ => rfl⟩

end Go.Proofs.YtfmhapajdnmhoaeDoor
