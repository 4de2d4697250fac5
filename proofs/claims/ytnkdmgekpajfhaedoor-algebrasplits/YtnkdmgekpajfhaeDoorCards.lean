/-
  DERIVED. GIVEN WITH THE SEED: THE CARDS: each row of YtnkdmgekpajfhaeDoorRows.lean that lists a variable, with what it lists TIED to the program's text (the seventh form; the later family's looks); each row that meets fmt, with fmt's text TOLD by the authors' own Lean function (tested against real Go, not proved from fmt's source: count such statements apart). THE CARD IS WHAT COUNTS. Prove the row's statement (the work); the ties are given (YtnkdmgekpajfhaeDoorTie.lean); close each card by the builder's one call (the guide's Derived/Test/ToyasCard.lean, 'card_holds'). Laid BY PROGRAM, IN A SANDBOX (cutbox-door.mjs). By AI agents, Wed Nov 11 2026. No macro, syntax, notation, axiom, sorry.
-/
import Derived.Test.YtnkdmgekpajfhaeDoorRows
import GoSem.ClaimSeven
namespace Go.Proofs.YtnkdmgekpajfhaeDoor
namespace Rows

/-- THE TIED CARD OF 'handstitchlaw2.AlgebraJoins'. -/
def algebraJoinsCard : Claim7 := { stood := { row := algebraJoinsRow, standIns := [], harness := (true, "5e213a7c0ba018402efdf8dbe0f16cdde59a2f88895cc3efe231c06a6f1d2ec2"), looks := true }, kinds := [], alts := [], laidByText := true, laidKinds := [.data, .pinned], laidTests := true, laidLooks := .later }
def AlgebraJoinsCardSaid : Prop := Claim7.holds Tryd.pinned (.plain (OpenSpec.ofChange algebraJoinsSpec)) algebraJoinsCard

/-- THE TIED CARD OF 'handstitchlaw2.AlgebraSplits'. -/
def algebraSplitsCard : Claim7 := { stood := { row := algebraSplitsRow, standIns := [], harness := (true, "5e213a7c0ba018402efdf8dbe0f16cdde59a2f88895cc3efe231c06a6f1d2ec2"), looks := true }, kinds := [], alts := [], laidByText := true, laidKinds := [.data, .handle, .pinned], laidTests := true, laidLooks := .later }
def AlgebraSplitsCardSaid : Prop := Claim7.holds Tryd.pinned (.plain (OpenSpec.ofChange algebraSplitsSpec)) algebraSplitsCard

/-- THE TIED CARD OF 'handstitchlaw2.SwapIs'. -/
def swapIsCard : Claim7 := { stood := { row := swapIsRow, standIns := [], harness := (true, "5e213a7c0ba018402efdf8dbe0f16cdde59a2f88895cc3efe231c06a6f1d2ec2"), looks := true }, kinds := [], alts := [], laidByText := true, laidKinds := [.handle], laidTests := true, laidLooks := .later }
def SwapIsCardSaid : Prop := Claim7.holds Tryd.pinned (.plain (OpenSpec.ofChange swapIsSpec)) swapIsCard

/-- THE TIED CARD OF 'handstitchlaw2.SwapBack'. -/
def swapBackCard : Claim7 := { stood := { row := swapBackRow, standIns := [], harness := (true, "5e213a7c0ba018402efdf8dbe0f16cdde59a2f88895cc3efe231c06a6f1d2ec2"), looks := true }, kinds := [], alts := [], laidByText := true, laidKinds := [.handle], laidTests := true, laidLooks := .later }
def SwapBackCardSaid : Prop := Claim7.holds Tryd.pinned (.plain (OpenSpec.ofChange swapBackSpec)) swapBackCard

/-- THE SECOND FORM's CARD OF 'handstitchlaw2.AlgebraJoins'. -/
def algebraJoinsUptoCard : Claim7 := { stood := { row := algebraJoinsUptoRow, standIns := [], harness := (true, "5e213a7c0ba018402efdf8dbe0f16cdde59a2f88895cc3efe231c06a6f1d2ec2"), looks := true }, kinds := [], alts := [], laidByText := true, laidKinds := [.data, .pinned], laidTests := true, laidLooks := .later }
def AlgebraJoinsUptoCardSaid : Prop := Claim7.holds Tryd.pinned (.plain (OpenSpec.upto algebraJoinsSpec)) algebraJoinsUptoCard

/-- THE SECOND FORM's CARD OF 'handstitchlaw2.AlgebraSplits'. -/
def algebraSplitsUptoCard : Claim7 := { stood := { row := algebraSplitsUptoRow, standIns := [], harness := (true, "5e213a7c0ba018402efdf8dbe0f16cdde59a2f88895cc3efe231c06a6f1d2ec2"), looks := true }, kinds := [], alts := [], laidByText := true, laidKinds := [.data, .handle, .pinned], laidTests := true, laidLooks := .later }
def AlgebraSplitsUptoCardSaid : Prop := Claim7.holds Tryd.pinned (.plain (OpenSpec.upto algebraSplitsSpec)) algebraSplitsUptoCard

/-- THE SECOND FORM's CARD OF 'handstitchlaw2.SwapIs'. -/
def swapIsUptoCard : Claim7 := { stood := { row := swapIsUptoRow, standIns := [], harness := (true, "5e213a7c0ba018402efdf8dbe0f16cdde59a2f88895cc3efe231c06a6f1d2ec2"), looks := true }, kinds := [], alts := [], laidByText := true, laidKinds := [.handle], laidTests := true, laidLooks := .later }
def SwapIsUptoCardSaid : Prop := Claim7.holds Tryd.pinned (.plain (OpenSpec.upto swapIsSpec)) swapIsUptoCard

/-- THE SECOND FORM's CARD OF 'handstitchlaw2.SwapBack'. -/
def swapBackUptoCard : Claim7 := { stood := { row := swapBackUptoRow, standIns := [], harness := (true, "5e213a7c0ba018402efdf8dbe0f16cdde59a2f88895cc3efe231c06a6f1d2ec2"), looks := true }, kinds := [], alts := [], laidByText := true, laidKinds := [.handle], laidTests := true, laidLooks := .later }
def SwapBackUptoCardSaid : Prop := Claim7.holds Tryd.pinned (.plain (OpenSpec.upto swapBackSpec)) swapBackUptoCard
end Rows
end Go.Proofs.YtnkdmgekpajfhaeDoor
