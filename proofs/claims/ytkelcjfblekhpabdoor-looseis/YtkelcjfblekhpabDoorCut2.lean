/-
  Walk of hunk.Cut: the pieces of a script; the fault else.
-/
import Derived.Test.YtkelcjfblekhpabDoorCut

namespace Go.Proofs.YtkelcjfblekhpabDoor
open Go.RowKit Dist

end Go.Proofs.YtkelcjfblekhpabDoor
