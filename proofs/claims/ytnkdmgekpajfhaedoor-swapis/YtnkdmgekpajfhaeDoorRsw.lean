/-
  Walk of the document's own answer for two hunks the other way round: all ways.
-/
import Derived.Test.YtnkdmgekpajfhaeDoorXr
namespace Go.Proofs.YtnkdmgekpajfhaeDoor
open Go.RowKit Dist

theorem swapRef (h k : Hk) (am : Option Addr) (cm : Nat) (an : Option Addr) (cn : Nat) (w : World) (hm : Mks w am h.2.2) (hl : h.2.2.length ≤ maxLen) (hs : ∀ m ∈ h.2.2, m.2.size ≤ maxLen) (hc : h.2.2.length ≤ cm) (km : Mks w an k.2.2) (kl : k.2.2.length ≤ maxLen) (ks : ∀ m ∈ k.2.2, m.2.size ≤ maxLen) (kc : k.2.2.length ≤ cn) :
    Calls Tryd.prog 14 #[.agg #[.int .i64 h.1, .int .i64 h.2.1, .slice am h.2.2.length cm], .agg #[.int .i64 k.1, .int .i64 k.2.1, .slice an k.2.2.length cn]] w fun e w' => SwP h k e w' ∧ Below w.heap.size w w' := by
  by_cases z1 : (hf [h]).2 = 0
  · by_cases z2 : (hf [k]).2 = 0
    · cases z3 : ahd h k <;> cases z4 : bhd h k
      · exact swapRef_none h k am cm an cn w hm hl hs hc km kl ks kc z1 z2 z3 z4
      · exact swapRef_behind h k am cm an cn w hm hl hs hc km kl ks kc z1 z2 z3 z4
      · exact swapRef_ahead h k am cm an cn w hm hl hs hc km kl ks kc z1 z2 z3 z4
      · exact swapRef_both h k am cm an cn w hm hl hs hc km kl ks kc z1 z2 z3 z4
    · exact swapRef_bad h k am cm an cn w hm hl hs hc km kl ks kc (.inr z2)
  · exact swapRef_bad h k am cm an cn w hm hl hs hc km kl ks kc (.inl z1)

end Go.Proofs.YtnkdmgekpajfhaeDoor
