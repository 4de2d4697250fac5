/-
  Walk of base64.Encode where there are too many bytes.
-/
import Derived.Test.YtppmpofdhkgjmafDoorWri

namespace Go.Proofs.YtppmpofdhkgjmafDoor
open Go.RowKit Dist

set_option maxHeartbeats 400000 in
theorem encodeFull (a : Option Addr) (len cap : Nat) (w : World) (hl : 40000 < len) :
    Calls Tryd.prog 12 #[.slice a len cap] w fun e w' => e = .returned (.tuple #[.string ⟨#[]⟩, .iface 33 (.int .i64 3)]) ∧ Below w.heap.size w w' := by
  go_enter Tryd.func12, Tryd.ntmps12
  go_wp2
  go_ret2
  exact ⟨rfl, Below.refl _ _⟩

end Go.Proofs.YtppmpofdhkgjmafDoor
