/-
  Walk of hunk.Cut: the pieces of a script; the fault else.
-/
import Derived.Test.YtjgdicghmkfohadGreatDoorCut

namespace Go.Proofs.YtjgdicghmkfohadGreatDoor
open Go.RowKit Dist

end Go.Proofs.YtjgdicghmkfohadGreatDoor
