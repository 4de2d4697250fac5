/-
  Walk of hunk.Cut: the pieces of a script; the fault else.
-/
import Derived.Test.YtmidbhikhbbpbacGreatDoorCut

namespace Go.Proofs.YtmidbhikhbbpbacGreatDoor
open Go.RowKit Dist

end Go.Proofs.YtmidbhikhbbpbacGreatDoor
