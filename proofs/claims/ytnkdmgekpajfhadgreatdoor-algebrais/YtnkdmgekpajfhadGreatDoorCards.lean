/-
  DERIVED. GIVEN WITH THE SEED: THE CARDS: each row of YtnkdmgekpajfhadGreatDoorRows.lean that lists a variable, with what it lists TIED to the program's text (the seventh form; the later family's looks); each row that meets fmt, with fmt's text TOLD by the authors' own Lean function (tested against real Go, not proved from fmt's source: count such statements apart). THE CARD IS WHAT COUNTS. Prove the row's statement (the work); the ties are given (YtnkdmgekpajfhadGreatDoorTie.lean); close each card by the builder's one call (the guide's Derived/Test/ToyasCard.lean, 'card_holds'). Laid BY PROGRAM, IN A SANDBOX (cutbox-door.mjs). By AI agents, Wed Nov 11 2026. No macro, syntax, notation, axiom, sorry.
-/
import Derived.Test.YtnkdmgekpajfhadGreatDoorRows
import GoSem.ClaimSeven
namespace Go.Proofs.YtnkdmgekpajfhadGreatDoor
namespace Rows

/-- THE TIED CARD OF 'handstitchlaw2.GitIs'. -/
def gitIsCard : Claim7 := { stood := { row := gitIsRow, standIns := [], harness := (true, "df724489ba00d04b834177fe7c7b80a5b998e5a8f77dd192730ddca19b695d25"), looks := true }, kinds := [], alts := [], laidByText := true, laidKinds := [.data, .data, .data, .data, .handle, .sentinel, .sentinel, .pinned], laidTests := true, laidLooks := .later }
def GitIsCardSaid : Prop := Claim7.holds Tryz.pinned (.plain (OpenSpec.ofChange gitIsSpec)) gitIsCard

/-- THE TIED CARD OF 'handstitchlaw2.GitBack'. -/
def gitBackCard : Claim7 := { stood := { row := gitBackRow, standIns := [], harness := (true, "df724489ba00d04b834177fe7c7b80a5b998e5a8f77dd192730ddca19b695d25"), looks := true }, kinds := [], alts := [], laidByText := true, laidKinds := [.data, .data, .data, .data, .sentinel, .sentinel, .pinned], laidTests := true, laidLooks := .later }
def GitBackCardSaid : Prop := Claim7.holds Tryz.pinned (.plain (OpenSpec.ofChange gitBackSpec)) gitBackCard

/-- THE TIED CARD OF 'handstitchlaw2.AlgebraIs'. -/
def algebraIsCard : Claim7 := { stood := { row := algebraIsRow, standIns := [], harness := (true, "df724489ba00d04b834177fe7c7b80a5b998e5a8f77dd192730ddca19b695d25"), looks := true }, kinds := [], alts := [], laidByText := true, laidKinds := [.data, .handle, .pinned], laidTests := true, laidLooks := .later }
def AlgebraIsCardSaid : Prop := Claim7.holds Tryz.pinned (.plain (OpenSpec.ofChange algebraIsSpec)) algebraIsCard

/-- THE SECOND FORM's CARD OF 'handstitchlaw2.GitIs'. -/
def gitIsUptoCard : Claim7 := { stood := { row := gitIsUptoRow, standIns := [], harness := (true, "df724489ba00d04b834177fe7c7b80a5b998e5a8f77dd192730ddca19b695d25"), looks := true }, kinds := [], alts := [], laidByText := true, laidKinds := [.data, .data, .data, .data, .handle, .sentinel, .sentinel, .pinned], laidTests := true, laidLooks := .later }
def GitIsUptoCardSaid : Prop := Claim7.holds Tryz.pinned (.plain (OpenSpec.upto gitIsSpec)) gitIsUptoCard

/-- THE SECOND FORM's CARD OF 'handstitchlaw2.GitBack'. -/
def gitBackUptoCard : Claim7 := { stood := { row := gitBackUptoRow, standIns := [], harness := (true, "df724489ba00d04b834177fe7c7b80a5b998e5a8f77dd192730ddca19b695d25"), looks := true }, kinds := [], alts := [], laidByText := true, laidKinds := [.data, .data, .data, .data, .sentinel, .sentinel, .pinned], laidTests := true, laidLooks := .later }
def GitBackUptoCardSaid : Prop := Claim7.holds Tryz.pinned (.plain (OpenSpec.upto gitBackSpec)) gitBackUptoCard

/-- THE SECOND FORM's CARD OF 'handstitchlaw2.AlgebraIs'. -/
def algebraIsUptoCard : Claim7 := { stood := { row := algebraIsUptoRow, standIns := [], harness := (true, "df724489ba00d04b834177fe7c7b80a5b998e5a8f77dd192730ddca19b695d25"), looks := true }, kinds := [], alts := [], laidByText := true, laidKinds := [.data, .handle, .pinned], laidTests := true, laidLooks := .later }
def AlgebraIsUptoCardSaid : Prop := Claim7.holds Tryz.pinned (.plain (OpenSpec.upto algebraIsSpec)) algebraIsUptoCard
end Rows
end Go.Proofs.YtnkdmgekpajfhadGreatDoor
