/-
  Walk of hunk.Cut: the pieces of a script; the fault else.
-/
import Derived.Test.YtjgdicghmkfohacGreatDoorCut

namespace Go.Proofs.YtjgdicghmkfohacGreatDoor
open Go.RowKit Dist

end Go.Proofs.YtjgdicghmkfohacGreatDoor
