/-
  Lines as they lie in memory; the walk of the comparison of two lists of texts. Walks of line.CheckOne and line.Check: the fault of a line, the fault of lines. Lines that stay where they lie; the walk of strings.Clone; rows of texts that are filled.
-/
import Derived.Test.YtfmhapajdnmhoafDoorProg
import Derived.Test.YtfmhapajdnmhoafDoorXj
import Derived.WalkKit
import Derived.WalkSpells
import Derived.Deep.QuietTactic
import Derived.BigQuiet
import Derived.Deep.OwnRows
import Derived.Deep.LoopGhost
import Derived.Lib.Split
import Derived.Laws.Strings3
import Derived.Test.YtfmhapajdnmhoafDoorShelf
import Derived.Lib.Walk
import Derived.Lib.Builder
namespace Go.Proofs.YtfmhapajdnmhoafDoor
open Go.RowKit

/-- Lines as they lie in memory. -/
def Strs (w : World) (a : Option Addr) (ss : List ByteArray) : Prop :=
  ∀ i : Nat, i < ss.length → ∃ b off, a = some ⟨b, off, none⟩ ∧ w.cell? ⟨b, off + i, none⟩ = some (.string (ss.getD i ByteArray.empty))

theorem ret_b {a b : Bool} (h : a = b) : Ending.returned (.bool a) = .returned (.bool b) := by rw [h]

theorem Strs.at {w : World} {a : Option Addr} {ss : List ByteArray} (h : Strs w a ss) {i : Nat} (hi : i < ss.length) :
    ∃ b off, a = some ⟨b, off, none⟩ ∧ ∀ j : Nat, j < ss.length → w.cell? ⟨b, off + j, none⟩ = some (.string (ss.getD j ByteArray.empty)) := by
  obtain ⟨b, off, rfl, _⟩ := h i hi
  refine ⟨b, off, rfl, fun j hj => ?_⟩
  obtain ⟨b', off', e, hc⟩ := h j hj
  simp at e
  obtain ⟨rfl, rfl⟩ := e
  exact hc

theorem blk_set {w : World} {g i : Nat} {cs : Array Value} {t : TypeId} {fr : Nat × Nat} (h : w.heap[g]? = some (.cells cs t fr)) (v : Value) : (w.setCell ⟨g, i, none⟩ v).heap[g]? = some (.cells (cs.setIfInBounds i v) t fr) := by
  rw [setCell_eq_setRow w g i cs t fr v h]
  exact setRow_heap w g _ _ t _ h

theorem blk_below {w w' : World} {B g : Nat} {o : Obj} (hb : Below B w w') (hg : g < B) (h : w.heap[g]? = some o) : w'.heap[g]? = some o := by
  rw [hb.block g hg]; exact h

theorem below_drawn {w w1 : World} {q : Nat} {B : Nat} (h : Below B w w1) : Below B w (w1.drewN q) := h.trans ⟨rfl, rfl, rfl, Nat.le_refl _, fun _ _ => rfl⟩

end Go.Proofs.YtfmhapajdnmhoafDoor
namespace Go.Proofs.YtfmhapajdnmhoafDoor
open Go.RowKit

/-- A fault as an error. -/
def errV (e : Int) : Value := if e = 0 then .nilIface else .iface 33 (.int .i64 e)

theorem errV_zero : errV 0 = .nilIface := rfl
theorem errV_not {e : Int} (h : e ≠ 0) : errV e = .iface 33 (.int .i64 e) := by simp [errV, h]

theorem ret_v {a b : Value} (h : a = b) : Ending.returned a = .returned b := by rw [h]

set_option maxHeartbeats 400000 in
theorem checkOne_ok (s : ByteArray) (w : World) (h : lf s.data.toList = 0) : Calls Tryd.prog 78 #[.string s] w fun e w' => e = .returned .nilIface ∧ w' = w := by
  have ⟨h1, h2⟩ := lf_zero h
  have hi : ¬ 0 ≤ Lib.indexByte s.data.toList 10 := fun x => h1 ((indexByte_nonneg 10 _).1 x)
  have hsz : ¬ 80 < (s.size : Int) := by rw [Lib.size_eq]; omega
  clear h h1 h2
  go_enter Tryd.func78, Tryd.ntmps78
  go_wp2_with (go_at_call 80; refine (Tryd.strings_Contains_one _ 10 _).mono ?_; rintro e w' ⟨rfl, rfl⟩)
  go_ret
  exact ⟨rfl, rfl⟩

set_option maxHeartbeats 400000 in
theorem checkOne_bad (s : ByteArray) (w : World) (h : lf s.data.toList ≠ 0) : Calls Tryd.prog 78 #[.string s] w fun e w' => e = .returned (.iface 33 (.int .i64 (lf s.data.toList))) ∧ w' = w := by
  by_cases hi : 0 ≤ Lib.indexByte s.data.toList 10
  · have he : lf s.data.toList = 2 := by unfold lf; rw [if_pos ((indexByte_nonneg 10 _).1 hi)]
    rw [he]
    clear h he
    go_enter Tryd.func78, Tryd.ntmps78
    go_wp2_with (go_at_call 80; refine (Tryd.strings_Contains_one _ 10 _).mono ?_; rintro e w' ⟨rfl, rfl⟩)
    go_ret
    exact ⟨rfl, rfl⟩
  · have h1 : 10 ∉ s.data.toList := fun x => hi ((indexByte_nonneg 10 _).2 x)
    have hsz : 80 < (s.size : Int) := by
      rw [Lib.size_eq]
      unfold lf at h
      rw [if_neg h1] at h
      split at h
      · omega
      · exact absurd rfl h
    have he : lf s.data.toList = 3 := by unfold lf; rw [if_neg h1, if_pos (by rw [Lib.size_eq] at hsz; omega)]
    rw [he]
    clear h he h1
    go_enter Tryd.func78, Tryd.ntmps78
    go_wp2_with (go_at_call 80; refine (Tryd.strings_Contains_one _ 10 _).mono ?_; rintro e w' ⟨rfl, rfl⟩)
    go_ret
    exact ⟨rfl, rfl⟩

/-- The bytes of lines. -/
def bts (ss : List ByteArray) : List (List UInt8) := ss.map (·.data.toList)

theorem bts_length (ss : List ByteArray) : (bts ss).length = ss.length := by simp [bts]

/-- The first k lines have no fault; then the fault of all is that of the rest. -/
theorem lsg_drop (ss : List ByteArray) (k : Nat) (h : ∀ j, j < k → lf (ss.getD j ByteArray.empty).data.toList = 0) (hk : k ≤ ss.length) : lsg (bts ss) = lsg (bts (ss.drop k)) := by
  induction k generalizing ss with
  | zero => simp
  | succ k ih =>
    cases ss with
    | nil => simp at hk
    | cons s t =>
      have h0 := h 0 (by omega)
      simp at h0
      have := ih t (fun j hj => by simpa using h (j + 1) (by omega)) (by simpa using hk)
      simp only [List.drop_succ_cons]
      rw [← this]
      simp [bts, lsg, h0]

theorem lsg_at (ss : List ByteArray) (k : Nat) (h : ∀ j, j < k → lf (ss.getD j ByteArray.empty).data.toList = 0) (hk : k < ss.length) (hb : lf (ss.getD k ByteArray.empty).data.toList ≠ 0) :
    lsg (bts ss) = lf (ss.getD k ByteArray.empty).data.toList := by
  rw [lsg_drop ss k h (by omega)]
  rw [List.drop_eq_getElem_cons hk]
  have e : ss.getD k ByteArray.empty = ss[k] := by simp [hk]
  rw [e] at hb ⊢
  unfold bts
  rw [List.map_cons, lsg, if_neg hb]

end Go.Proofs.YtfmhapajdnmhoafDoor
namespace Go.Proofs.YtfmhapajdnmhoafDoor
open Go.RowKit

theorem Strs.below {w w' : World} {a : Option Addr} {ss : List ByteArray} (h : Strs w a ss) (hb : Below w.heap.size w w') : Strs w' a ss := by
  intro i hi
  obtain ⟨b, off, rfl, hc⟩ := h i hi
  exact ⟨b, off, rfl, cell_later hb hc⟩

theorem bts_take_succ (ss : List ByteArray) (k : Nat) (h : k < ss.length) : bts (ss.take (k + 1)) = bts (ss.take k) ++ [(ss.getD k ByteArray.empty).data.toList] := by
  rw [List.take_succ_eq_append_getElem h]
  unfold bts
  rw [List.map_append]
  simp [h]

theorem Tryd.info9 : (Tryd.prog.info? 9).map (fun i => (i.zero, i.size, i.bytes)) = some (some (.string ByteArray.empty), 1, 16) := by kernel_rfl

theorem cellsOf_at (l : List ByteArray) (N i : Nat) (hi : i < l.length) : (Lib.cellsOf l N)[i]? = some (.string (l.getD i ByteArray.empty)) := by
  unfold Lib.cellsOf
  rw [List.getElem?_toArray, List.getElem?_append_left (by simpa using hi)]
  simp [hi]

theorem below_alloc (w : World) (o : Obj) : Below w.heap.size w (w.alloc o) := (Below.refl _ _).alloc (Nat.le_refl _) _

end Go.Proofs.YtfmhapajdnmhoafDoor
