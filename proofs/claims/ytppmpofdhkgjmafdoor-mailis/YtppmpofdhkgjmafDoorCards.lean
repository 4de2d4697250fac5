/-
  DERIVED. GIVEN WITH THE SEED: THE CARDS: each row of YtppmpofdhkgjmafDoorRows.lean that lists a variable, with what it lists TIED to the program's text (the seventh form; the later family's looks); each row that meets fmt, with fmt's text TOLD by the authors' own Lean function (tested against real Go, not proved from fmt's source: count such statements apart). THE CARD IS WHAT COUNTS. Prove the row's statement (the work); the ties are given (YtppmpofdhkgjmafDoorTie.lean); close each card by the builder's one call (the guide's Derived/Test/ToyasCard.lean, 'card_holds'). Laid BY PROGRAM, IN A SANDBOX (cutbox-door.mjs). By AI agents, Wed Nov 11 2026. No macro, syntax, notation, axiom, sorry.
-/
import Derived.Test.YtppmpofdhkgjmafDoorRows
import GoSem.ClaimSeven
namespace Go.Proofs.YtppmpofdhkgjmafDoor
namespace Rows

/-- THE TIED CARD OF 'handstitchlaw3.RangeSelf'. -/
def rangeSelfCard : Claim7 := { stood := { row := rangeSelfRow, standIns := [], harness := (true, "2f2eed4064b9b52bf1659f90c3eaec6923b34f257e7055e32b62873a09939e0f"), looks := true }, kinds := [], alts := [], laidByText := true, laidKinds := [.data, .data, .data, .data, .pinned], laidTests := true, laidLooks := .later }
def RangeSelfCardSaid : Prop := Claim7.holds Tryd.pinned (.plain (OpenSpec.ofChange rangeSelfSpec)) rangeSelfCard

/-- THE TIED CARD OF 'handstitchlaw3.LettersIs'. -/
def lettersIsCard : Claim7 := { stood := { row := lettersIsRow, standIns := [], harness := (true, "2f2eed4064b9b52bf1659f90c3eaec6923b34f257e7055e32b62873a09939e0f"), looks := true }, kinds := [], alts := [], laidByText := true, laidKinds := [.data, .handle, .pinned], laidTests := true, laidLooks := .later }
def LettersIsCardSaid : Prop := Claim7.holds Tryd.pinned (.plain (OpenSpec.ofChange lettersIsSpec)) lettersIsCard

/-- THE TIED CARD OF 'handstitchlaw3.LettersBack'. -/
def lettersBackCard : Claim7 := { stood := { row := lettersBackRow, standIns := [], harness := (true, "2f2eed4064b9b52bf1659f90c3eaec6923b34f257e7055e32b62873a09939e0f"), looks := true }, kinds := [], alts := [], laidByText := true, laidKinds := [.data, .pinned], laidTests := true, laidLooks := .later }
def LettersBackCardSaid : Prop := Claim7.holds Tryd.pinned (.plain (OpenSpec.ofChange lettersBackSpec)) lettersBackCard

/-- THE TIED CARD OF 'handstitchlaw3.MailIs'. -/
def mailIsCard : Claim7 := { stood := { row := mailIsRow, standIns := [], harness := (true, "2f2eed4064b9b52bf1659f90c3eaec6923b34f257e7055e32b62873a09939e0f"), looks := true }, kinds := [], alts := [], laidByText := true, laidKinds := [.data, .handle, .pinned], laidTests := true, laidLooks := .later }
def MailIsCardSaid : Prop := Claim7.holds Tryd.pinned (.plain (OpenSpec.ofChange mailIsSpec)) mailIsCard

/-- THE TIED CARD OF 'handstitchlaw3.MailBack'. -/
def mailBackCard : Claim7 := { stood := { row := mailBackRow, standIns := [], harness := (true, "2f2eed4064b9b52bf1659f90c3eaec6923b34f257e7055e32b62873a09939e0f"), looks := true }, kinds := [], alts := [], laidByText := true, laidKinds := [.data, .pinned], laidTests := true, laidLooks := .later }
def MailBackCardSaid : Prop := Claim7.holds Tryd.pinned (.plain (OpenSpec.ofChange mailBackSpec)) mailBackCard

/-- THE SECOND FORM's CARD OF 'handstitchlaw3.RangeSelf'. -/
def rangeSelfUptoCard : Claim7 := { stood := { row := rangeSelfUptoRow, standIns := [], harness := (true, "2f2eed4064b9b52bf1659f90c3eaec6923b34f257e7055e32b62873a09939e0f"), looks := true }, kinds := [], alts := [], laidByText := true, laidKinds := [.data, .data, .data, .data, .pinned], laidTests := true, laidLooks := .later }
def RangeSelfUptoCardSaid : Prop := Claim7.holds Tryd.pinned (.plain (OpenSpec.upto rangeSelfSpec)) rangeSelfUptoCard

/-- THE SECOND FORM's CARD OF 'handstitchlaw3.LettersIs'. -/
def lettersIsUptoCard : Claim7 := { stood := { row := lettersIsUptoRow, standIns := [], harness := (true, "2f2eed4064b9b52bf1659f90c3eaec6923b34f257e7055e32b62873a09939e0f"), looks := true }, kinds := [], alts := [], laidByText := true, laidKinds := [.data, .handle, .pinned], laidTests := true, laidLooks := .later }
def LettersIsUptoCardSaid : Prop := Claim7.holds Tryd.pinned (.plain (OpenSpec.upto lettersIsSpec)) lettersIsUptoCard

/-- THE SECOND FORM's CARD OF 'handstitchlaw3.LettersBack'. -/
def lettersBackUptoCard : Claim7 := { stood := { row := lettersBackUptoRow, standIns := [], harness := (true, "2f2eed4064b9b52bf1659f90c3eaec6923b34f257e7055e32b62873a09939e0f"), looks := true }, kinds := [], alts := [], laidByText := true, laidKinds := [.data, .pinned], laidTests := true, laidLooks := .later }
def LettersBackUptoCardSaid : Prop := Claim7.holds Tryd.pinned (.plain (OpenSpec.upto lettersBackSpec)) lettersBackUptoCard

/-- THE SECOND FORM's CARD OF 'handstitchlaw3.MailIs'. -/
def mailIsUptoCard : Claim7 := { stood := { row := mailIsUptoRow, standIns := [], harness := (true, "2f2eed4064b9b52bf1659f90c3eaec6923b34f257e7055e32b62873a09939e0f"), looks := true }, kinds := [], alts := [], laidByText := true, laidKinds := [.data, .handle, .pinned], laidTests := true, laidLooks := .later }
def MailIsUptoCardSaid : Prop := Claim7.holds Tryd.pinned (.plain (OpenSpec.upto mailIsSpec)) mailIsUptoCard

/-- THE SECOND FORM's CARD OF 'handstitchlaw3.MailBack'. -/
def mailBackUptoCard : Claim7 := { stood := { row := mailBackUptoRow, standIns := [], harness := (true, "2f2eed4064b9b52bf1659f90c3eaec6923b34f257e7055e32b62873a09939e0f"), looks := true }, kinds := [], alts := [], laidByText := true, laidKinds := [.data, .pinned], laidTests := true, laidLooks := .later }
def MailBackUptoCardSaid : Prop := Claim7.holds Tryd.pinned (.plain (OpenSpec.upto mailBackSpec)) mailBackUptoCard
end Rows
end Go.Proofs.YtppmpofdhkgjmafDoor
