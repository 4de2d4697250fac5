/-
  Walk of the document's own answer for hunks turned.
-/
import Derived.Test.YtmidbhikhbbpbacDoorHown
import Derived.Deep.RegionWith
import Derived.Deep.DrawnRows
import Derived.Deep.AppendLies

namespace Go.Proofs.YtmidbhikhbbpbacDoor
open Go.RowKit Dist

attribute [local go_sem] Go.wp_at_zero Go.wp_at_succ

theorem own_other {w : World} {B : Nat} {e : TypeId} {k : Nat} {v : Value} {n : Nat} {xs : List Value} (h : w.ownsRow B e k v n xs) {G i : Nat} (hG : G < B) (x : Value) : (w.setCell ⟨G, i, none⟩ x).ownsRow B e k v n xs := by
  refine ⟨h.1, ?_⟩
  rcases h.2 with h0 | ⟨g, cap, cur, hv, hB, hh, hr⟩
  · exact .inl h0
  · refine .inr ⟨g, cap, cur, hv, hB, ?_, hr⟩
    have e : (w.setCell ⟨G, i, none⟩ x).heap[g]? = w.heap[g]? := by
      simp only [World.setCell, Array.getElem?_modify]
      rw [if_neg (by omega)]
    rw [e]; exact hh

theorem swm_snoc (ms : List (Int × ByteArray)) (t : Nat) (ht : t < ms.length) {c : Int} {x : ByteArray} (h : ms.getD t (0, ByteArray.empty) = (c, x)) : swm (ms.take (t + 1)) = swm (ms.take t) ++ [(sw c, x)] := by
  rw [tk_snoc ms t ht, h]; simp [swm]

theorem mcells_one (c : Int) (x : ByteArray) : mcells [(c, x)] = [.int .u8 c, .string x] := rfl

theorem trn_snoc (l : List (Int × Int × List (Int × ByteArray))) (k : Nat) (hk : k < l.length) {o p : Int} {ms : List (Int × ByteArray)} (h : l.getD k (0, 0, []) = (o, p, ms)) : trn (l.take (k + 1)) = trn (l.take k) ++ [(p, o, swm ms)] := by
  rw [tk_snoc3 l k hk, h]; simp [trn, tn]

end Go.Proofs.YtmidbhikhbbpbacDoor
