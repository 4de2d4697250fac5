/-
  DERIVED. GIVEN WITH THE SEED: THE CARDS: each row of YtapebgoddcoijaaDoorRows.lean that lists a variable, with what it lists TIED to the program's text (the seventh form; the later family's looks); each row that meets fmt, with fmt's text TOLD by the authors' own Lean function (tested against real Go, not proved from fmt's source: count such statements apart). THE CARD IS WHAT COUNTS. Prove the row's statement (the work); the ties are given (YtapebgoddcoijaaDoorTie.lean); close each card by the builder's one call (the guide's Derived/Test/ToyasCard.lean, 'card_holds'). Laid BY PROGRAM, IN A SANDBOX (cutbox-door.mjs). By AI agents, Wed Nov 11 2026. No macro, syntax, notation, axiom, sorry.
-/
import Derived.Test.YtapebgoddcoijaaDoorRows
import GoSem.ClaimSeven
namespace Go.Proofs.YtapebgoddcoijaaDoor
namespace Rows

/-- THE TIED CARD OF 'handstitchlaw1.LineIs'. -/
def lineIsCard : Claim7 := { stood := { row := lineIsRow, standIns := [], harness := (true, "4bb9785950520efa4fb0c89ec8480fe6a083f5a2e9117b1431038088c0ce27b3"), looks := true }, kinds := [], alts := [], laidByText := true, laidKinds := [.data, .handle, .pinned], laidTests := true, laidLooks := .later }
def LineIsCardSaid : Prop := Claim7.holds Tryd.pinned (.plain (OpenSpec.ofChange lineIsSpec)) lineIsCard

/-- THE TIED CARD OF 'handstitchlaw1.LineBack'. -/
def lineBackCard : Claim7 := { stood := { row := lineBackRow, standIns := [], harness := (true, "4bb9785950520efa4fb0c89ec8480fe6a083f5a2e9117b1431038088c0ce27b3"), looks := true }, kinds := [], alts := [], laidByText := true, laidKinds := [.data, .pinned], laidTests := true, laidLooks := .later }
def LineBackCardSaid : Prop := Claim7.holds Tryd.pinned (.plain (OpenSpec.ofChange lineBackSpec)) lineBackCard

/-- THE TIED CARD OF 'handstitchlaw1.EditIs'. -/
def editIsCard : Claim7 := { stood := { row := editIsRow, standIns := [], harness := (true, "4bb9785950520efa4fb0c89ec8480fe6a083f5a2e9117b1431038088c0ce27b3"), looks := true }, kinds := [], alts := [], laidByText := true, laidKinds := [.handle], laidTests := true, laidLooks := .later }
def EditIsCardSaid : Prop := Claim7.holds Tryd.pinned (.plain (OpenSpec.ofChange editIsSpec)) editIsCard

/-- THE SECOND FORM's CARD OF 'handstitchlaw1.LineIs'. -/
def lineIsUptoCard : Claim7 := { stood := { row := lineIsUptoRow, standIns := [], harness := (true, "4bb9785950520efa4fb0c89ec8480fe6a083f5a2e9117b1431038088c0ce27b3"), looks := true }, kinds := [], alts := [], laidByText := true, laidKinds := [.data, .handle, .pinned], laidTests := true, laidLooks := .later }
def LineIsUptoCardSaid : Prop := Claim7.holds Tryd.pinned (.plain (OpenSpec.upto lineIsSpec)) lineIsUptoCard

/-- THE SECOND FORM's CARD OF 'handstitchlaw1.LineBack'. -/
def lineBackUptoCard : Claim7 := { stood := { row := lineBackUptoRow, standIns := [], harness := (true, "4bb9785950520efa4fb0c89ec8480fe6a083f5a2e9117b1431038088c0ce27b3"), looks := true }, kinds := [], alts := [], laidByText := true, laidKinds := [.data, .pinned], laidTests := true, laidLooks := .later }
def LineBackUptoCardSaid : Prop := Claim7.holds Tryd.pinned (.plain (OpenSpec.upto lineBackSpec)) lineBackUptoCard

/-- THE SECOND FORM's CARD OF 'handstitchlaw1.EditIs'. -/
def editIsUptoCard : Claim7 := { stood := { row := editIsUptoRow, standIns := [], harness := (true, "4bb9785950520efa4fb0c89ec8480fe6a083f5a2e9117b1431038088c0ce27b3"), looks := true }, kinds := [], alts := [], laidByText := true, laidKinds := [.handle], laidTests := true, laidLooks := .later }
def EditIsUptoCardSaid : Prop := Claim7.holds Tryd.pinned (.plain (OpenSpec.upto editIsSpec)) editIsUptoCard
end Rows
end Go.Proofs.YtapebgoddcoijaaDoor
