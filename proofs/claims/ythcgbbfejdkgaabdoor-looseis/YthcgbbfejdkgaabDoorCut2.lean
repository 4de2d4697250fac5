/-
  Walk of hunk.Cut: the pieces of a script; the fault else.
-/
import Derived.Test.YthcgbbfejdkgaabDoorCut

namespace Go.Proofs.YthcgbbfejdkgaabDoor
open Go.RowKit Dist

end Go.Proofs.YthcgbbfejdkgaabDoor
