/-
  Walks of the Builder's copyCheck and WriteString at this program.
-/
import Derived.Test.YtlmibninfpebiacDoorMem
import Derived.Lib.Walk
import Derived.Lib.Builder

namespace Go.Proofs.YtlmibninfpebiacDoor
open Go.RowKit

end Go.Proofs.YtlmibninfpebiacDoor
