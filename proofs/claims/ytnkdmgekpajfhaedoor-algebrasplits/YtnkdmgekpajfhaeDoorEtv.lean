/-
  What S.Error says of a fault as an error.
-/
import Derived.Test.YtnkdmgekpajfhaeDoorXg
import Derived.Test.YtnkdmgekpajfhaeDoorLess
import Derived.Below
namespace Go.Proofs.YtnkdmgekpajfhaeDoor
open Go.RowKit Dist

theorem errV_told (f g : Int) (w : World) (hg : TypeLaid w) : Calls Tryd.prog 13 #[errV f, .int .i64 g] w fun e w' => e = .returned (.bool (f == g)) ∧ Below w.heap.size w w' := by
  by_cases h : f = 0
  · subst h
    rw [errV_zero]
    exact (error_nil g w).mono fun e w' ⟨he, hw⟩ => ⟨he, by rw [hw]; exact Below.refl _ _⟩
  · rw [errV_not h]
    exact error_err f g w hg

end Go.Proofs.YtnkdmgekpajfhaeDoor
