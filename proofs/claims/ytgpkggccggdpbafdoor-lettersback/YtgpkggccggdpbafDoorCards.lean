/-
  DERIVED. GIVEN WITH THE SEED: THE CARDS: each row of YtgpkggccggdpbafDoorRows.lean that lists a variable, with what it lists TIED to the program's text (the seventh form; the later family's looks); each row that meets fmt, with fmt's text TOLD by the authors' own Lean function (tested against real Go, not proved from fmt's source: count such statements apart). THE CARD IS WHAT COUNTS. Prove the row's statement (the work); the ties are given (YtgpkggccggdpbafDoorTie.lean); close each card by the builder's one call (the guide's Derived/Test/ToyasCard.lean, 'card_holds'). Laid BY PROGRAM, IN A SANDBOX (cutbox-door.mjs). By AI agents, Wed Nov 11 2026. No macro, syntax, notation, axiom, sorry.
-/
import Derived.Test.YtgpkggccggdpbafDoorRows
import GoSem.ClaimSeven
namespace Go.Proofs.YtgpkggccggdpbafDoor
namespace Rows

/-- THE TIED CARD OF 'handstitchlaw3.RangeSelf'. -/
def rangeSelfCard : Claim7 := { stood := { row := rangeSelfRow, standIns := [], harness := (true, "588df9c914439b950802f09f5876f7e894ccc54281304ae3b05b7154447e3592"), looks := true }, kinds := [], alts := [], laidByText := true, laidKinds := [.data, .data, .data, .data, .pinned], laidTests := true, laidLooks := .later }
def RangeSelfCardSaid : Prop := Claim7.holds Tryd.pinned (.plain (OpenSpec.ofChange rangeSelfSpec)) rangeSelfCard

/-- THE TIED CARD OF 'handstitchlaw3.LettersIs'. -/
def lettersIsCard : Claim7 := { stood := { row := lettersIsRow, standIns := [], harness := (true, "588df9c914439b950802f09f5876f7e894ccc54281304ae3b05b7154447e3592"), looks := true }, kinds := [], alts := [], laidByText := true, laidKinds := [.data, .handle, .pinned], laidTests := true, laidLooks := .later }
def LettersIsCardSaid : Prop := Claim7.holds Tryd.pinned (.plain (OpenSpec.ofChange lettersIsSpec)) lettersIsCard

/-- THE TIED CARD OF 'handstitchlaw3.LettersBack'. -/
def lettersBackCard : Claim7 := { stood := { row := lettersBackRow, standIns := [], harness := (true, "588df9c914439b950802f09f5876f7e894ccc54281304ae3b05b7154447e3592"), looks := true }, kinds := [], alts := [], laidByText := true, laidKinds := [.data, .pinned], laidTests := true, laidLooks := .later }
def LettersBackCardSaid : Prop := Claim7.holds Tryd.pinned (.plain (OpenSpec.ofChange lettersBackSpec)) lettersBackCard

/-- THE SECOND FORM's CARD OF 'handstitchlaw3.RangeSelf'. -/
def rangeSelfUptoCard : Claim7 := { stood := { row := rangeSelfUptoRow, standIns := [], harness := (true, "588df9c914439b950802f09f5876f7e894ccc54281304ae3b05b7154447e3592"), looks := true }, kinds := [], alts := [], laidByText := true, laidKinds := [.data, .data, .data, .data, .pinned], laidTests := true, laidLooks := .later }
def RangeSelfUptoCardSaid : Prop := Claim7.holds Tryd.pinned (.plain (OpenSpec.upto rangeSelfSpec)) rangeSelfUptoCard

/-- THE SECOND FORM's CARD OF 'handstitchlaw3.LettersIs'. -/
def lettersIsUptoCard : Claim7 := { stood := { row := lettersIsUptoRow, standIns := [], harness := (true, "588df9c914439b950802f09f5876f7e894ccc54281304ae3b05b7154447e3592"), looks := true }, kinds := [], alts := [], laidByText := true, laidKinds := [.data, .handle, .pinned], laidTests := true, laidLooks := .later }
def LettersIsUptoCardSaid : Prop := Claim7.holds Tryd.pinned (.plain (OpenSpec.upto lettersIsSpec)) lettersIsUptoCard

/-- THE SECOND FORM's CARD OF 'handstitchlaw3.LettersBack'. -/
def lettersBackUptoCard : Claim7 := { stood := { row := lettersBackUptoRow, standIns := [], harness := (true, "588df9c914439b950802f09f5876f7e894ccc54281304ae3b05b7154447e3592"), looks := true }, kinds := [], alts := [], laidByText := true, laidKinds := [.data, .pinned], laidTests := true, laidLooks := .later }
def LettersBackUptoCardSaid : Prop := Claim7.holds Tryd.pinned (.plain (OpenSpec.upto lettersBackSpec)) lettersBackUptoCard
end Rows
end Go.Proofs.YtgpkggccggdpbafDoor
