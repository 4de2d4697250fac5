/-
  DERIVED. GIVEN WITH THE SEED: THE CARDS: each row of YtjgdicghmkfohadGreatDoorRows.lean that lists a variable, with what it lists TIED to the program's text (the seventh form; the later family's looks); each row that meets fmt, with fmt's text TOLD by the authors' own Lean function (tested against real Go, not proved from fmt's source: count such statements apart). THE CARD IS WHAT COUNTS. Prove the row's statement (the work); the ties are given (YtjgdicghmkfohadGreatDoorTie.lean); close each card by the builder's one call (the guide's Derived/Test/ToyasCard.lean, 'card_holds'). Laid BY PROGRAM, IN A SANDBOX (cutbox-door.mjs). By AI agents, Wed Nov 11 2026. No macro, syntax, notation, axiom, sorry.
-/
import Derived.Test.YtjgdicghmkfohadGreatDoorRows
import GoSem.ClaimSeven
namespace Go.Proofs.YtjgdicghmkfohadGreatDoor
namespace Rows

/-- THE TIED CARD OF 'handstitchlaw2.GitIs'. -/
def gitIsCard : Claim7 := { stood := { row := gitIsRow, standIns := [], harness := (true, "09e55cce9c994ce4877cdc0d641709d7206d706f7e70d71e5ec6260f29400106"), looks := true }, kinds := [], alts := [], laidByText := true, laidKinds := [.data, .data, .data, .data, .handle, .sentinel, .sentinel, .pinned], laidTests := true, laidLooks := .later }
def GitIsCardSaid : Prop := Claim7.holds Tryz.pinned (.plain (OpenSpec.ofChange gitIsSpec)) gitIsCard

/-- THE TIED CARD OF 'handstitchlaw2.GitBack'. -/
def gitBackCard : Claim7 := { stood := { row := gitBackRow, standIns := [], harness := (true, "09e55cce9c994ce4877cdc0d641709d7206d706f7e70d71e5ec6260f29400106"), looks := true }, kinds := [], alts := [], laidByText := true, laidKinds := [.data, .data, .data, .data, .sentinel, .sentinel, .pinned], laidTests := true, laidLooks := .later }
def GitBackCardSaid : Prop := Claim7.holds Tryz.pinned (.plain (OpenSpec.ofChange gitBackSpec)) gitBackCard

/-- THE SECOND FORM's CARD OF 'handstitchlaw2.GitIs'. -/
def gitIsUptoCard : Claim7 := { stood := { row := gitIsUptoRow, standIns := [], harness := (true, "09e55cce9c994ce4877cdc0d641709d7206d706f7e70d71e5ec6260f29400106"), looks := true }, kinds := [], alts := [], laidByText := true, laidKinds := [.data, .data, .data, .data, .handle, .sentinel, .sentinel, .pinned], laidTests := true, laidLooks := .later }
def GitIsUptoCardSaid : Prop := Claim7.holds Tryz.pinned (.plain (OpenSpec.upto gitIsSpec)) gitIsUptoCard

/-- THE SECOND FORM's CARD OF 'handstitchlaw2.GitBack'. -/
def gitBackUptoCard : Claim7 := { stood := { row := gitBackUptoRow, standIns := [], harness := (true, "09e55cce9c994ce4877cdc0d641709d7206d706f7e70d71e5ec6260f29400106"), looks := true }, kinds := [], alts := [], laidByText := true, laidKinds := [.data, .data, .data, .data, .sentinel, .sentinel, .pinned], laidTests := true, laidLooks := .later }
def GitBackUptoCardSaid : Prop := Claim7.holds Tryz.pinned (.plain (OpenSpec.upto gitBackSpec)) gitBackUptoCard
end Rows
end Go.Proofs.YtjgdicghmkfohadGreatDoor
