/-
  Walk of hunk.Cut: the pieces of a script; the fault else.
-/
import Derived.Test.YtkelcjfblekhpacGreatDoorCut

namespace Go.Proofs.YtkelcjfblekhpacGreatDoor
open Go.RowKit Dist

end Go.Proofs.YtkelcjfblekhpacGreatDoor
