/-
  Walk of the document's own answer for lines as a text.
-/
import Derived.Test.YtlmibninfpebiacDoorJoin2
import Derived.Test.YtlmibninfpebiacDoorRefL

namespace Go.Proofs.YtlmibninfpebiacDoor
open Go.RowKit

end Go.Proofs.YtlmibninfpebiacDoor
