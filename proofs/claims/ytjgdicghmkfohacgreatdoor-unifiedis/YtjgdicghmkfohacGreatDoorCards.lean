/-
  DERIVED. GIVEN WITH THE SEED: THE CARDS: each row of YtjgdicghmkfohacGreatDoorRows.lean that lists a variable, with what it lists TIED to the program's text (the seventh form; the later family's looks); each row that meets fmt, with fmt's text TOLD by the authors' own Lean function (tested against real Go, not proved from fmt's source: count such statements apart). THE CARD IS WHAT COUNTS. Prove the row's statement (the work); the ties are given (YtjgdicghmkfohacGreatDoorTie.lean); close each card by the builder's one call (the guide's Derived/Test/ToyasCard.lean, 'card_holds'). Laid BY PROGRAM, IN A SANDBOX (cutbox-door.mjs). By AI agents, Wed Nov 11 2026. No macro, syntax, notation, axiom, sorry.
-/
import Derived.Test.YtjgdicghmkfohacGreatDoorRows
import GoSem.ClaimSeven
namespace Go.Proofs.YtjgdicghmkfohacGreatDoor
namespace Rows

/-- THE TIED CARD OF 'handstitchlaw1.UnifiedIs'. -/
def unifiedIsCard : Claim7 := { stood := { row := unifiedIsRow, standIns := [], harness := (true, "b1cb1eb063ac13b3cbff570516caeb85f3d38d026e778c5f261b1ba24be4943d"), looks := true }, kinds := [], alts := [], laidByText := true, laidKinds := [.data, .data, .data, .data, .handle, .sentinel, .sentinel, .pinned], laidTests := true, laidLooks := .later }
def UnifiedIsCardSaid : Prop := Claim7.holds Tryz.pinned (.plain (OpenSpec.ofChange unifiedIsSpec)) unifiedIsCard

/-- THE TIED CARD OF 'handstitchlaw1.UnifiedBack'. -/
def unifiedBackCard : Claim7 := { stood := { row := unifiedBackRow, standIns := [], harness := (true, "b1cb1eb063ac13b3cbff570516caeb85f3d38d026e778c5f261b1ba24be4943d"), looks := true }, kinds := [], alts := [], laidByText := true, laidKinds := [.data, .data, .data, .data, .handle, .sentinel, .sentinel, .pinned], laidTests := true, laidLooks := .later }
def UnifiedBackCardSaid : Prop := Claim7.holds Tryz.pinned (.plain (OpenSpec.ofChange unifiedBackSpec)) unifiedBackCard

/-- THE TIED CARD OF 'handstitchlaw2.PatchIs'. -/
def patchIsCard : Claim7 := { stood := { row := patchIsRow, standIns := [], harness := (true, "b1cb1eb063ac13b3cbff570516caeb85f3d38d026e778c5f261b1ba24be4943d"), looks := true }, kinds := [], alts := [], laidByText := true, laidKinds := [.data, .handle, .pinned], laidTests := true, laidLooks := .later }
def PatchIsCardSaid : Prop := Claim7.holds Tryz.pinned (.plain (OpenSpec.ofChange patchIsSpec)) patchIsCard

/-- THE SECOND FORM's CARD OF 'handstitchlaw1.UnifiedIs'. -/
def unifiedIsUptoCard : Claim7 := { stood := { row := unifiedIsUptoRow, standIns := [], harness := (true, "b1cb1eb063ac13b3cbff570516caeb85f3d38d026e778c5f261b1ba24be4943d"), looks := true }, kinds := [], alts := [], laidByText := true, laidKinds := [.data, .data, .data, .data, .handle, .sentinel, .sentinel, .pinned], laidTests := true, laidLooks := .later }
def UnifiedIsUptoCardSaid : Prop := Claim7.holds Tryz.pinned (.plain (OpenSpec.upto unifiedIsSpec)) unifiedIsUptoCard

/-- THE SECOND FORM's CARD OF 'handstitchlaw1.UnifiedBack'. -/
def unifiedBackUptoCard : Claim7 := { stood := { row := unifiedBackUptoRow, standIns := [], harness := (true, "b1cb1eb063ac13b3cbff570516caeb85f3d38d026e778c5f261b1ba24be4943d"), looks := true }, kinds := [], alts := [], laidByText := true, laidKinds := [.data, .data, .data, .data, .handle, .sentinel, .sentinel, .pinned], laidTests := true, laidLooks := .later }
def UnifiedBackUptoCardSaid : Prop := Claim7.holds Tryz.pinned (.plain (OpenSpec.upto unifiedBackSpec)) unifiedBackUptoCard

/-- THE SECOND FORM's CARD OF 'handstitchlaw2.PatchIs'. -/
def patchIsUptoCard : Claim7 := { stood := { row := patchIsUptoRow, standIns := [], harness := (true, "b1cb1eb063ac13b3cbff570516caeb85f3d38d026e778c5f261b1ba24be4943d"), looks := true }, kinds := [], alts := [], laidByText := true, laidKinds := [.data, .handle, .pinned], laidTests := true, laidLooks := .later }
def PatchIsUptoCardSaid : Prop := Claim7.holds Tryz.pinned (.plain (OpenSpec.upto patchIsSpec)) patchIsUptoCard
end Rows
end Go.Proofs.YtjgdicghmkfohacGreatDoor
