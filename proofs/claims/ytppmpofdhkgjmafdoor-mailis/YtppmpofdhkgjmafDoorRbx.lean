/-
  Walks of the document's MailOf at any text, BoxOf.
-/
import Derived.Test.YtppmpofdhkgjmafDoorRmg
import Derived.Test.YtppmpofdhkgjmafDoorRbo

namespace Go.Proofs.YtppmpofdhkgjmafDoor
open Go.RowKit Dist

theorem mailOf (s : ByteArray) (hs : s.size ≤ 400000) (w : World) :
    Calls Tryd.prog 20 #[.string s] w fun e w' => MoPost w (mof s.data.toList) e w' := by
  by_cases h : (parts 10 s.data.toList).1.length < 5
  · rw [mof_few h]; exact mailOf_few s hs w h
  · by_cases hg : mhd (((parts 10 s.data.toList).1).getD 0 []) (((parts 10 s.data.toList).1).getD 1 []) (((parts 10 s.data.toList).1).getD 2 []) (((parts 10 s.data.toList).1).getD 3 []) (((parts 10 s.data.toList).1).getD 4 [])
    · exact mailOf_good s hs w (by omega) hg
    · rw [mof_bad (by omega) hg]; exact mailOf_bad s hs w (by omega) hg

theorem boxOf (s : ByteArray) (hs : s.size ≤ 400000) (w : World) :
    Calls Tryd.prog 25 #[.string s] w fun e w' => BoPost w (bof 16 s.data.toList) e w' := boxOfIf mailOf s hs w

end Go.Proofs.YtppmpofdhkgjmafDoor
