/-
  DERIVED. GIVEN WITH THE SEED: THE CARDS: each row of YtkelcjfblekhpabDoorRows.lean that lists a variable, with what it lists TIED to the program's text (the seventh form; the later family's looks); each row that meets fmt, with fmt's text TOLD by the authors' own Lean function (tested against real Go, not proved from fmt's source: count such statements apart). THE CARD IS WHAT COUNTS. Prove the row's statement (the work); the ties are given (YtkelcjfblekhpabDoorTie.lean); close each card by the builder's one call (the guide's Derived/Test/ToyasCard.lean, 'card_holds'). Laid BY PROGRAM, IN A SANDBOX (cutbox-door.mjs). By AI agents, Wed Nov 11 2026. No macro, syntax, notation, axiom, sorry.
-/
import Derived.Test.YtkelcjfblekhpabDoorRows
import GoSem.ClaimSeven
namespace Go.Proofs.YtkelcjfblekhpabDoor
namespace Rows

/-- THE TIED CARD OF 'handstitchlaw1.ApplyIs'. -/
def applyIsCard : Claim7 := { stood := { row := applyIsRow, standIns := [], harness := (true, "a5fe058286c13018923b7c329fafebd7fee427807a1a47b63bb00ff48395e2e2"), looks := true }, kinds := [], alts := [], laidByText := true, laidKinds := [.handle], laidTests := true, laidLooks := .later }
def ApplyIsCardSaid : Prop := Claim7.holds Tryd.pinned (.plain (OpenSpec.ofChange applyIsSpec)) applyIsCard

/-- THE TIED CARD OF 'handstitchlaw1.LooseIs'. -/
def looseIsCard : Claim7 := { stood := { row := looseIsRow, standIns := [], harness := (true, "a5fe058286c13018923b7c329fafebd7fee427807a1a47b63bb00ff48395e2e2"), looks := true }, kinds := [], alts := [], laidByText := true, laidKinds := [.handle], laidTests := true, laidLooks := .later }
def LooseIsCardSaid : Prop := Claim7.holds Tryd.pinned (.plain (OpenSpec.ofChange looseIsSpec)) looseIsCard

/-- THE SECOND FORM's CARD OF 'handstitchlaw1.ApplyIs'. -/
def applyIsUptoCard : Claim7 := { stood := { row := applyIsUptoRow, standIns := [], harness := (true, "a5fe058286c13018923b7c329fafebd7fee427807a1a47b63bb00ff48395e2e2"), looks := true }, kinds := [], alts := [], laidByText := true, laidKinds := [.handle], laidTests := true, laidLooks := .later }
def ApplyIsUptoCardSaid : Prop := Claim7.holds Tryd.pinned (.plain (OpenSpec.upto applyIsSpec)) applyIsUptoCard

/-- THE SECOND FORM's CARD OF 'handstitchlaw1.LooseIs'. -/
def looseIsUptoCard : Claim7 := { stood := { row := looseIsUptoRow, standIns := [], harness := (true, "a5fe058286c13018923b7c329fafebd7fee427807a1a47b63bb00ff48395e2e2"), looks := true }, kinds := [], alts := [], laidByText := true, laidKinds := [.handle], laidTests := true, laidLooks := .later }
def LooseIsUptoCardSaid : Prop := Claim7.holds Tryd.pinned (.plain (OpenSpec.upto looseIsSpec)) looseIsUptoCard
end Rows
end Go.Proofs.YtkelcjfblekhpabDoor
