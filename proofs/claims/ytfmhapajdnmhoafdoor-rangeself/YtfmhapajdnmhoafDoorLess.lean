/-
  Rows that a call has made and lengthens; walks of edit.without, edit.Old, edit.New: the lines that a script leads from and to.
-/
import Derived.Test.YtfmhapajdnmhoafDoorMks
import Derived.Maps.AppendAt

namespace Go.Proofs.YtfmhapajdnmhoafDoor
open Go.RowKit Dist

theorem own_later {B : Nat} {e : TypeId} {k : Nat} {v : Value} {n : Nat} {xs : List Value} {w w' : World} (h : w.ownsRow B e k v n xs) (hb : Below w.heap.size w w') : w'.ownsRow B e k v n xs := by
  refine ⟨h.1, ?_⟩
  rcases h.2 with h0 | ⟨g, cap, cur, hv, hB, hh, hr⟩
  · exact .inl h0
  · have hg : g < w.heap.size := by
      by_cases e : g < w.heap.size
      · exact e
      · rw [Array.getElem?_eq_none (by omega)] at hh; cases hh
    exact .inr ⟨g, cap, cur, hv, hB, blk_below hb hg hh, hr⟩

theorem own_ne {w : World} {B : Nat} {e : TypeId} {k : Nat} {v : Value} {n : Nat} {xs : List Value} (h : w.ownsRow B e k v n xs) {G i : Nat} (hG : v.ownBlock ≠ some G) (x : Value) : (w.setCell ⟨G, i, none⟩ x).ownsRow B e k v n xs := by
  refine ⟨h.1, ?_⟩
  rcases h.2 with h0 | ⟨g, cap, cur, hv, hB, hh, hr⟩
  · exact .inl h0
  · refine .inr ⟨g, cap, cur, hv, hB, ?_, hr⟩
    have hne : g ≠ G := by
      intro e
      apply hG
      rw [hv, e]; rfl
    have e : (w.setCell ⟨G, i, none⟩ x).heap[g]? = w.heap[g]? := by
      simp only [World.setCell, Array.getElem?_modify]
      rw [if_neg (fun e => hne e.symm)]
    rw [e]; exact hh

theorem strs_of_own {B : Nat} {v : Value} {ss : List ByteArray} {w : World} (h : w.ownsRow B 9 1 v ss.length (ss.map Value.string)) : ∃ a cap, v = .slice a ss.length cap ∧ Strs w a ss := by
  rcases h.2 with ⟨rfl, h0⟩ | ⟨g, cap, cur, rfl, hB, hh, _, _, hcs, ht⟩
  · have : ss = [] := List.length_eq_zero_iff.1 h0
    subst this
    exact ⟨none, 0, rfl, fun i hi => absurd hi (by simp)⟩
  · refine ⟨some ⟨g, 0, none⟩, cap, rfl, fun i hi => ⟨g, 0, rfl, ?_⟩⟩
    rw [Nat.zero_add, Lib.cell_of_heap hh]
    rw [Nat.mul_one] at ht
    have h1 : (cur.toList.take ss.length)[i]? = (ss.map Value.string)[i]? := by rw [ht]
    rw [List.getElem?_take, if_pos hi, List.getElem?_map] at h1
    rw [← Array.getElem?_toList, h1]
    simp [hi]

/-- The cells of marks. -/
def mcells (ms : List (Int × ByteArray)) : List Value := ms.flatMap fun m => [.int .u8 m.1, .string m.2]

theorem mcells_length (ms : List (Int × ByteArray)) : (mcells ms).length = ms.length * 2 := by
  induction ms with
  | nil => rfl
  | cons m r ih => unfold mcells at ih ⊢; rw [List.flatMap_cons, List.length_append, ih]; simp; omega

theorem mcells_append (a b : List (Int × ByteArray)) : mcells (a ++ b) = mcells a ++ mcells b := by unfold mcells; rw [List.flatMap_append]

theorem mcells_at (ms : List (Int × ByteArray)) (i : Nat) (hi : i < ms.length) : (mcells ms)[i * 2]? = some (.int .u8 (ms.getD i (0, ByteArray.empty)).1) ∧ (mcells ms)[i * 2 + 1]? = some (.string (ms.getD i (0, ByteArray.empty)).2) := by
  induction ms generalizing i with
  | nil => simp at hi
  | cons m r ih =>
    have e : mcells (m :: r) = .int .u8 m.1 :: .string m.2 :: mcells r := rfl
    rw [e]
    cases i with
    | zero => simp
    | succ i =>
      have := ih i (by simpa using hi)
      rw [show (i + 1) * 2 = i * 2 + 1 + 1 by omega]
      simpa using this

theorem mks_of_own {B : Nat} {v : Value} {ms : List (Int × ByteArray)} {w : World} (h : w.ownsRow B 69 2 v ms.length (mcells ms)) : ∃ a cap, v = .slice a ms.length cap ∧ Mks w a ms := by
  rcases h.2 with ⟨rfl, h0⟩ | ⟨g, cap, cur, rfl, hB, hh, _, _, hcs, ht⟩
  · have : ms = [] := List.length_eq_zero_iff.1 h0
    subst this
    exact ⟨none, 0, rfl, fun i hi => absurd hi (by simp)⟩
  · refine ⟨some ⟨g, 0, none⟩, cap, rfl, fun i hi => ⟨g, 0, rfl, ?_⟩⟩
    obtain ⟨c1, c2⟩ := mcells_at ms i hi
    rw [Nat.zero_add, Lib.cell_of_heap hh, Lib.cell_of_heap hh, ← Array.getElem?_toList, ← Array.getElem?_toList]
    rw [← ht, List.getElem?_take, if_pos (by omega)] at c1 c2
    exact ⟨c1, c2⟩

theorem lessOf_append (c : Int) (a b : List (Int × ByteArray)) : lessOf c (a ++ b) = lessOf c a ++ lessOf c b := by
  unfold lessOf; rw [List.filter_append, List.map_append]

theorem lessOf_len (c : Int) (a : List (Int × ByteArray)) : (lessOf c a).length ≤ a.length := by
  unfold lessOf; rw [List.length_map]; exact List.length_filter_le _ _

theorem lessOf_mem (c : Int) (a : List (Int × ByteArray)) (x : ByteArray) (h : x ∈ lessOf c a) : ∃ m ∈ a, m.2 = x := by
  unfold lessOf at h
  obtain ⟨m, hm, e⟩ := List.mem_map.1 h
  exact ⟨m, (List.mem_filter.1 hm).1, e⟩

theorem take_snoc (ms : List (Int × ByteArray)) (k : Nat) (hk : k < ms.length) : ms.take (k + 1) = ms.take k ++ [((ms.getD k (0, ByteArray.empty)).1, (ms.getD k (0, ByteArray.empty)).2)] := by
  have e : ms.getD k (0, ByteArray.empty) = ms[k] := by simp [hk]
  rw [e, List.take_succ_eq_append_getElem hk]

end Go.Proofs.YtfmhapajdnmhoafDoor
