/-
  DERIVED. GIVEN WITH THE SEED: THE CARDS: each row of YtfmhapajdnmhoafGreatDoorRows.lean that lists a variable, with what it lists TIED to the program's text (the seventh form; the later family's looks); each row that meets fmt, with fmt's text TOLD by the authors' own Lean function (tested against real Go, not proved from fmt's source: count such statements apart). THE CARD IS WHAT COUNTS. Prove the row's statement (the work); the ties are given (YtfmhapajdnmhoafGreatDoorTie.lean); close each card by the builder's one call (the guide's Derived/Test/ToyasCard.lean, 'card_holds'). Laid BY PROGRAM, IN A SANDBOX (cutbox-door.mjs). By AI agents, Wed Nov 11 2026. No macro, syntax, notation, axiom, sorry.
-/
import Derived.Test.YtfmhapajdnmhoafGreatDoorRows
import GoSem.ClaimSeven
namespace Go.Proofs.YtfmhapajdnmhoafGreatDoor
namespace Rows

/-- THE TIED CARD OF 'handstitchlaw3.RangeIs'. -/
def rangeIsCard : Claim7 := { stood := { row := rangeIsRow, standIns := [], harness := (true, "457afd1454e276e7ff07c654d5e0409b4e2a971e3be830fd1f17a122e7a38aa8"), looks := true }, kinds := [], alts := [], laidByText := true, laidKinds := [.data, .data, .data, .data, .handle, .pinned], laidTests := true, laidLooks := .later }
def RangeIsCardSaid : Prop := Claim7.holds Tryz.pinned (.plain (OpenSpec.ofChange rangeIsSpec)) rangeIsCard

/-- THE SECOND FORM's CARD OF 'handstitchlaw3.RangeIs'. -/
def rangeIsUptoCard : Claim7 := { stood := { row := rangeIsUptoRow, standIns := [], harness := (true, "457afd1454e276e7ff07c654d5e0409b4e2a971e3be830fd1f17a122e7a38aa8"), looks := true }, kinds := [], alts := [], laidByText := true, laidKinds := [.data, .data, .data, .data, .handle, .pinned], laidTests := true, laidLooks := .later }
def RangeIsUptoCardSaid : Prop := Claim7.holds Tryz.pinned (.plain (OpenSpec.upto rangeIsSpec)) rangeIsUptoCard
end Rows
end Go.Proofs.YtfmhapajdnmhoafGreatDoor
