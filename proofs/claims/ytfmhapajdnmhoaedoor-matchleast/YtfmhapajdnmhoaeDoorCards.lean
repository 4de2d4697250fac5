/-
  DERIVED. GIVEN WITH THE SEED: THE CARDS: each row of YtfmhapajdnmhoaeDoorRows.lean that lists a variable, with what it lists TIED to the program's text (the seventh form; the later family's looks); each row that meets fmt, with fmt's text TOLD by the authors' own Lean function (tested against real Go, not proved from fmt's source: count such statements apart). THE CARD IS WHAT COUNTS. Prove the row's statement (the work); the ties are given (YtfmhapajdnmhoaeDoorTie.lean); close each card by the builder's one call (the guide's Derived/Test/ToyasCard.lean, 'card_holds'). Laid BY PROGRAM, IN A SANDBOX (cutbox-door.mjs). By AI agents, Wed Nov 11 2026. No macro, syntax, notation, axiom, sorry.
-/
import Derived.Test.YtfmhapajdnmhoaeDoorRows
import GoSem.ClaimSeven
namespace Go.Proofs.YtfmhapajdnmhoaeDoor
namespace Rows

/-- THE TIED CARD OF 'handstitchlaw2.AlgebraJoins'. -/
def algebraJoinsCard : Claim7 := { stood := { row := algebraJoinsRow, standIns := [], harness := (true, "f762561230013672f0ca476c32e24a1ef76972ffa06ba76cd4e21c4a4ece3731"), looks := true }, kinds := [], alts := [], laidByText := true, laidKinds := [.data, .pinned], laidTests := true, laidLooks := .later }
def AlgebraJoinsCardSaid : Prop := Claim7.holds Tryd.pinned (.plain (OpenSpec.ofChange algebraJoinsSpec)) algebraJoinsCard

/-- THE TIED CARD OF 'handstitchlaw2.AlgebraSplits'. -/
def algebraSplitsCard : Claim7 := { stood := { row := algebraSplitsRow, standIns := [], harness := (true, "f762561230013672f0ca476c32e24a1ef76972ffa06ba76cd4e21c4a4ece3731"), looks := true }, kinds := [], alts := [], laidByText := true, laidKinds := [.data, .handle, .pinned], laidTests := true, laidLooks := .later }
def AlgebraSplitsCardSaid : Prop := Claim7.holds Tryd.pinned (.plain (OpenSpec.ofChange algebraSplitsSpec)) algebraSplitsCard

/-- THE TIED CARD OF 'handstitchlaw2.SwapIs'. -/
def swapIsCard : Claim7 := { stood := { row := swapIsRow, standIns := [], harness := (true, "f762561230013672f0ca476c32e24a1ef76972ffa06ba76cd4e21c4a4ece3731"), looks := true }, kinds := [], alts := [], laidByText := true, laidKinds := [.handle], laidTests := true, laidLooks := .later }
def SwapIsCardSaid : Prop := Claim7.holds Tryd.pinned (.plain (OpenSpec.ofChange swapIsSpec)) swapIsCard

/-- THE TIED CARD OF 'handstitchlaw2.SwapBack'. -/
def swapBackCard : Claim7 := { stood := { row := swapBackRow, standIns := [], harness := (true, "f762561230013672f0ca476c32e24a1ef76972ffa06ba76cd4e21c4a4ece3731"), looks := true }, kinds := [], alts := [], laidByText := true, laidKinds := [.handle], laidTests := true, laidLooks := .later }
def SwapBackCardSaid : Prop := Claim7.holds Tryd.pinned (.plain (OpenSpec.ofChange swapBackSpec)) swapBackCard

/-- THE TIED CARD OF 'handstitchlaw3.MatchIs'. -/
def matchIsCard : Claim7 := { stood := { row := matchIsRow, standIns := [], harness := (true, "f762561230013672f0ca476c32e24a1ef76972ffa06ba76cd4e21c4a4ece3731"), looks := true }, kinds := [], alts := [], laidByText := true, laidKinds := [.handle], laidTests := true, laidLooks := .later }
def MatchIsCardSaid : Prop := Claim7.holds Tryd.pinned (.plain (OpenSpec.ofChange matchIsSpec)) matchIsCard

/-- THE TIED CARD OF 'handstitchlaw3.MatchLeast'. -/
def matchLeastCard : Claim7 := { stood := { row := matchLeastRow, standIns := [], harness := (true, "f762561230013672f0ca476c32e24a1ef76972ffa06ba76cd4e21c4a4ece3731"), looks := true }, kinds := [], alts := [], laidByText := true, laidKinds := [.handle], laidTests := true, laidLooks := .later }
def MatchLeastCardSaid : Prop := Claim7.holds Tryd.pinned (.plain (OpenSpec.ofChange matchLeastSpec)) matchLeastCard

/-- THE SECOND FORM's CARD OF 'handstitchlaw2.AlgebraJoins'. -/
def algebraJoinsUptoCard : Claim7 := { stood := { row := algebraJoinsUptoRow, standIns := [], harness := (true, "f762561230013672f0ca476c32e24a1ef76972ffa06ba76cd4e21c4a4ece3731"), looks := true }, kinds := [], alts := [], laidByText := true, laidKinds := [.data, .pinned], laidTests := true, laidLooks := .later }
def AlgebraJoinsUptoCardSaid : Prop := Claim7.holds Tryd.pinned (.plain (OpenSpec.upto algebraJoinsSpec)) algebraJoinsUptoCard

/-- THE SECOND FORM's CARD OF 'handstitchlaw2.AlgebraSplits'. -/
def algebraSplitsUptoCard : Claim7 := { stood := { row := algebraSplitsUptoRow, standIns := [], harness := (true, "f762561230013672f0ca476c32e24a1ef76972ffa06ba76cd4e21c4a4ece3731"), looks := true }, kinds := [], alts := [], laidByText := true, laidKinds := [.data, .handle, .pinned], laidTests := true, laidLooks := .later }
def AlgebraSplitsUptoCardSaid : Prop := Claim7.holds Tryd.pinned (.plain (OpenSpec.upto algebraSplitsSpec)) algebraSplitsUptoCard

/-- THE SECOND FORM's CARD OF 'handstitchlaw2.SwapIs'. -/
def swapIsUptoCard : Claim7 := { stood := { row := swapIsUptoRow, standIns := [], harness := (true, "f762561230013672f0ca476c32e24a1ef76972ffa06ba76cd4e21c4a4ece3731"), looks := true }, kinds := [], alts := [], laidByText := true, laidKinds := [.handle], laidTests := true, laidLooks := .later }
def SwapIsUptoCardSaid : Prop := Claim7.holds Tryd.pinned (.plain (OpenSpec.upto swapIsSpec)) swapIsUptoCard

/-- THE SECOND FORM's CARD OF 'handstitchlaw2.SwapBack'. -/
def swapBackUptoCard : Claim7 := { stood := { row := swapBackUptoRow, standIns := [], harness := (true, "f762561230013672f0ca476c32e24a1ef76972ffa06ba76cd4e21c4a4ece3731"), looks := true }, kinds := [], alts := [], laidByText := true, laidKinds := [.handle], laidTests := true, laidLooks := .later }
def SwapBackUptoCardSaid : Prop := Claim7.holds Tryd.pinned (.plain (OpenSpec.upto swapBackSpec)) swapBackUptoCard

/-- THE SECOND FORM's CARD OF 'handstitchlaw3.MatchIs'. -/
def matchIsUptoCard : Claim7 := { stood := { row := matchIsUptoRow, standIns := [], harness := (true, "f762561230013672f0ca476c32e24a1ef76972ffa06ba76cd4e21c4a4ece3731"), looks := true }, kinds := [], alts := [], laidByText := true, laidKinds := [.handle], laidTests := true, laidLooks := .later }
def MatchIsUptoCardSaid : Prop := Claim7.holds Tryd.pinned (.plain (OpenSpec.upto matchIsSpec)) matchIsUptoCard

/-- THE SECOND FORM's CARD OF 'handstitchlaw3.MatchLeast'. -/
def matchLeastUptoCard : Claim7 := { stood := { row := matchLeastUptoRow, standIns := [], harness := (true, "f762561230013672f0ca476c32e24a1ef76972ffa06ba76cd4e21c4a4ece3731"), looks := true }, kinds := [], alts := [], laidByText := true, laidKinds := [.handle], laidTests := true, laidLooks := .later }
def MatchLeastUptoCardSaid : Prop := Claim7.holds Tryd.pinned (.plain (OpenSpec.upto matchLeastSpec)) matchLeastUptoCard
end Rows
end Go.Proofs.YtfmhapajdnmhoaeDoor
