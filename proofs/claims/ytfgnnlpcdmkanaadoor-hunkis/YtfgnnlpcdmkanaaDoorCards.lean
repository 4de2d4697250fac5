/-
  DERIVED. GIVEN WITH THE SEED: THE CARDS: each row of YtfgnnlpcdmkanaaDoorRows.lean that lists a variable, with what it lists TIED to the program's text (the seventh form; the later family's looks); each row that meets fmt, with fmt's text TOLD by the authors' own Lean function (tested against real Go, not proved from fmt's source: count such statements apart). THE CARD IS WHAT COUNTS. Prove the row's statement (the work); the ties are given (YtfgnnlpcdmkanaaDoorTie.lean); close each card by the builder's one call (the guide's Derived/Test/ToyasCard.lean, 'card_holds'). Laid BY PROGRAM, IN A SANDBOX (cutbox-door.mjs). By AI agents, Wed Nov 11 2026. No macro, syntax, notation, axiom, sorry.
-/
import Derived.Test.YtfgnnlpcdmkanaaDoorRows
import GoSem.ClaimSeven
namespace Go.Proofs.YtfgnnlpcdmkanaaDoor
namespace Rows

/-- THE TIED CARD OF 'handstitchlaw1.LineIs'. -/
def lineIsCard : Claim7 := { stood := { row := lineIsRow, standIns := [], harness := (true, "46ac809ba7dbadc2f862b3d6afeeb4d858e1cb34a2eb8472b790b8c2af633efc"), looks := true }, kinds := [], alts := [], laidByText := true, laidKinds := [.data, .handle, .pinned], laidTests := true, laidLooks := .later }
def LineIsCardSaid : Prop := Claim7.holds Tryd.pinned (.plain (OpenSpec.ofChange lineIsSpec)) lineIsCard

/-- THE TIED CARD OF 'handstitchlaw1.LineBack'. -/
def lineBackCard : Claim7 := { stood := { row := lineBackRow, standIns := [], harness := (true, "46ac809ba7dbadc2f862b3d6afeeb4d858e1cb34a2eb8472b790b8c2af633efc"), looks := true }, kinds := [], alts := [], laidByText := true, laidKinds := [.data, .pinned], laidTests := true, laidLooks := .later }
def LineBackCardSaid : Prop := Claim7.holds Tryd.pinned (.plain (OpenSpec.ofChange lineBackSpec)) lineBackCard

/-- THE TIED CARD OF 'handstitchlaw1.EditIs'. -/
def editIsCard : Claim7 := { stood := { row := editIsRow, standIns := [], harness := (true, "46ac809ba7dbadc2f862b3d6afeeb4d858e1cb34a2eb8472b790b8c2af633efc"), looks := true }, kinds := [], alts := [], laidByText := true, laidKinds := [.handle], laidTests := true, laidLooks := .later }
def EditIsCardSaid : Prop := Claim7.holds Tryd.pinned (.plain (OpenSpec.ofChange editIsSpec)) editIsCard

/-- THE TIED CARD OF 'handstitchlaw1.HunkIs'. -/
def hunkIsCard : Claim7 := { stood := { row := hunkIsRow, standIns := [], harness := (true, "46ac809ba7dbadc2f862b3d6afeeb4d858e1cb34a2eb8472b790b8c2af633efc"), looks := true }, kinds := [], alts := [], laidByText := true, laidKinds := [.handle], laidTests := true, laidLooks := .later }
def HunkIsCardSaid : Prop := Claim7.holds Tryd.pinned (.plain (OpenSpec.ofChange hunkIsSpec)) hunkIsCard

/-- THE SECOND FORM's CARD OF 'handstitchlaw1.LineIs'. -/
def lineIsUptoCard : Claim7 := { stood := { row := lineIsUptoRow, standIns := [], harness := (true, "46ac809ba7dbadc2f862b3d6afeeb4d858e1cb34a2eb8472b790b8c2af633efc"), looks := true }, kinds := [], alts := [], laidByText := true, laidKinds := [.data, .handle, .pinned], laidTests := true, laidLooks := .later }
def LineIsUptoCardSaid : Prop := Claim7.holds Tryd.pinned (.plain (OpenSpec.upto lineIsSpec)) lineIsUptoCard

/-- THE SECOND FORM's CARD OF 'handstitchlaw1.LineBack'. -/
def lineBackUptoCard : Claim7 := { stood := { row := lineBackUptoRow, standIns := [], harness := (true, "46ac809ba7dbadc2f862b3d6afeeb4d858e1cb34a2eb8472b790b8c2af633efc"), looks := true }, kinds := [], alts := [], laidByText := true, laidKinds := [.data, .pinned], laidTests := true, laidLooks := .later }
def LineBackUptoCardSaid : Prop := Claim7.holds Tryd.pinned (.plain (OpenSpec.upto lineBackSpec)) lineBackUptoCard

/-- THE SECOND FORM's CARD OF 'handstitchlaw1.EditIs'. -/
def editIsUptoCard : Claim7 := { stood := { row := editIsUptoRow, standIns := [], harness := (true, "46ac809ba7dbadc2f862b3d6afeeb4d858e1cb34a2eb8472b790b8c2af633efc"), looks := true }, kinds := [], alts := [], laidByText := true, laidKinds := [.handle], laidTests := true, laidLooks := .later }
def EditIsUptoCardSaid : Prop := Claim7.holds Tryd.pinned (.plain (OpenSpec.upto editIsSpec)) editIsUptoCard

/-- THE SECOND FORM's CARD OF 'handstitchlaw1.HunkIs'. -/
def hunkIsUptoCard : Claim7 := { stood := { row := hunkIsUptoRow, standIns := [], harness := (true, "46ac809ba7dbadc2f862b3d6afeeb4d858e1cb34a2eb8472b790b8c2af633efc"), looks := true }, kinds := [], alts := [], laidByText := true, laidKinds := [.handle], laidTests := true, laidLooks := .later }
def HunkIsUptoCardSaid : Prop := Claim7.holds Tryd.pinned (.plain (OpenSpec.upto hunkIsSpec)) hunkIsUptoCard
end Rows
end Go.Proofs.YtfgnnlpcdmkanaaDoor
