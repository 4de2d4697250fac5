/-
  DERIVED. GIVEN WITH THE SEED: THE CARDS: each row of YtjgdicghmkfohadDoorRows.lean that lists a variable, with what it lists TIED to the program's text (the seventh form; the later family's looks); each row that meets fmt, with fmt's text TOLD by the authors' own Lean function (tested against real Go, not proved from fmt's source: count such statements apart). THE CARD IS WHAT COUNTS. Prove the row's statement (the work); the ties are given (YtjgdicghmkfohadDoorTie.lean); close each card by the builder's one call (the guide's Derived/Test/ToyasCard.lean, 'card_holds'). Laid BY PROGRAM, IN A SANDBOX (cutbox-door.mjs). By AI agents, Wed Nov 11 2026. No macro, syntax, notation, axiom, sorry.
-/
import Derived.Test.YtjgdicghmkfohadDoorRows
import GoSem.ClaimSeven
namespace Go.Proofs.YtjgdicghmkfohadDoor
namespace Rows

/-- THE TIED CARD OF 'handstitchlaw2.PatchMakes'. -/
def patchMakesCard : Claim7 := { stood := { row := patchMakesRow, standIns := [], harness := (true, "5bf7f567e80cff86d40d361d291f179d6d715e3723a4266d62ccfea676fa41a4"), looks := false }, kinds := [], alts := [], laidByText := true, laidKinds := [.data, .pinned], laidTests := true, laidLooks := .later }
def PatchMakesCardSaid : Prop := Claim7.holds Tryd.pinned (.plain (OpenSpec.ofChange patchMakesSpec)) patchMakesCard

/-- THE TIED CARD OF 'handstitchlaw2.PatchBack'. -/
def patchBackCard : Claim7 := { stood := { row := patchBackRow, standIns := [], harness := (true, "5bf7f567e80cff86d40d361d291f179d6d715e3723a4266d62ccfea676fa41a4"), looks := false }, kinds := [], alts := [], laidByText := true, laidKinds := [.data, .pinned], laidTests := true, laidLooks := .later }
def PatchBackCardSaid : Prop := Claim7.holds Tryd.pinned (.plain (OpenSpec.ofChange patchBackSpec)) patchBackCard

/-- THE TIED CARD OF 'handstitchlaw3.GitLines'. -/
def gitLinesCard : Claim7 := { stood := { row := gitLinesRow, standIns := [], harness := (true, "5bf7f567e80cff86d40d361d291f179d6d715e3723a4266d62ccfea676fa41a4"), looks := false }, kinds := [], alts := [], laidByText := true, laidKinds := [.data, .data, .data, .data, .pinned], laidTests := true, laidLooks := .later }
def GitLinesCardSaid : Prop := Claim7.holds Tryd.pinned (.plain (OpenSpec.ofChange gitLinesSpec)) gitLinesCard

/-- THE SECOND FORM's CARD OF 'handstitchlaw2.PatchMakes'. -/
def patchMakesUptoCard : Claim7 := { stood := { row := patchMakesUptoRow, standIns := [], harness := (true, "5bf7f567e80cff86d40d361d291f179d6d715e3723a4266d62ccfea676fa41a4"), looks := false }, kinds := [], alts := [], laidByText := true, laidKinds := [.data, .pinned], laidTests := true, laidLooks := .later }
def PatchMakesUptoCardSaid : Prop := Claim7.holds Tryd.pinned (.plain (OpenSpec.upto patchMakesSpec)) patchMakesUptoCard

/-- THE SECOND FORM's CARD OF 'handstitchlaw2.PatchBack'. -/
def patchBackUptoCard : Claim7 := { stood := { row := patchBackUptoRow, standIns := [], harness := (true, "5bf7f567e80cff86d40d361d291f179d6d715e3723a4266d62ccfea676fa41a4"), looks := false }, kinds := [], alts := [], laidByText := true, laidKinds := [.data, .pinned], laidTests := true, laidLooks := .later }
def PatchBackUptoCardSaid : Prop := Claim7.holds Tryd.pinned (.plain (OpenSpec.upto patchBackSpec)) patchBackUptoCard

/-- THE SECOND FORM's CARD OF 'handstitchlaw3.GitLines'. -/
def gitLinesUptoCard : Claim7 := { stood := { row := gitLinesUptoRow, standIns := [], harness := (true, "5bf7f567e80cff86d40d361d291f179d6d715e3723a4266d62ccfea676fa41a4"), looks := false }, kinds := [], alts := [], laidByText := true, laidKinds := [.data, .data, .data, .data, .pinned], laidTests := true, laidLooks := .later }
def GitLinesUptoCardSaid : Prop := Claim7.holds Tryd.pinned (.plain (OpenSpec.upto gitLinesSpec)) gitLinesUptoCard
end Rows
end Go.Proofs.YtjgdicghmkfohadDoor
