/-
  DERIVED. GIVEN WITH THE SEED: THE CARDS: each row of YtokkkjgdfnkjoaaDoorRows.lean that lists a variable, with what it lists TIED to the program's text (the seventh form; the later family's looks); each row that meets fmt, with fmt's text TOLD by the authors' own Lean function (tested against real Go, not proved from fmt's source: count such statements apart). THE CARD IS WHAT COUNTS. Prove the row's statement (the work); the ties are given (YtokkkjgdfnkjoaaDoorTie.lean); close each card by the builder's one call (the guide's Derived/Test/ToyasCard.lean, 'card_holds'). Laid BY PROGRAM, IN A SANDBOX (cutbox-door.mjs). By AI agents, Wed Nov 11 2026. No macro, syntax, notation, axiom, sorry.
-/
import Derived.Test.YtokkkjgdfnkjoaaDoorRows
import GoSem.ClaimSeven
namespace Go.Proofs.YtokkkjgdfnkjoaaDoor
namespace Rows

/-- THE TIED CARD OF 'rafterlaw03.LinesTexts'. -/
def linesTextsCard : Claim7 := { stood := { row := linesTextsRow, standIns := [], harness := (true, "6efdb63362252494277c4ff029b2f255f3c67bd8bca4fabccc99d28271c4f131"), looks := false }, kinds := [], alts := [], laidByText := true, laidKinds := [.data, .pinned], laidTests := true, laidLooks := .later }
def LinesTextsCardSaid : Prop := Claim7.holds Tryd.pinned (.plain (OpenSpec.ofChange linesTextsSpec)) linesTextsCard

/-- THE TIED CARD OF 'rafterlaw03.LinesSplits'. -/
def linesSplitsCard : Claim7 := { stood := { row := linesSplitsRow, standIns := [], harness := (true, "6efdb63362252494277c4ff029b2f255f3c67bd8bca4fabccc99d28271c4f131"), looks := false }, kinds := [], alts := [], laidByText := true, laidKinds := [.data, .pinned], laidTests := true, laidLooks := .later }
def LinesSplitsCardSaid : Prop := Claim7.holds Tryd.pinned (.plain (OpenSpec.ofChange linesSplitsSpec)) linesSplitsCard

/-- THE TIED CARD OF 'rafterlaw03.LinesFinds'. -/
def linesFindsCard : Claim7 := { stood := { row := linesFindsRow, standIns := [], harness := (true, "6efdb63362252494277c4ff029b2f255f3c67bd8bca4fabccc99d28271c4f131"), looks := false }, kinds := [], alts := [], laidByText := true, laidKinds := [.data, .pinned], laidTests := true, laidLooks := .later }
def LinesFindsCardSaid : Prop := Claim7.holds Tryd.pinned (.plain (OpenSpec.ofChange linesFindsSpec)) linesFindsCard

/-- THE SECOND FORM's CARD OF 'rafterlaw03.LinesTexts'. -/
def linesTextsUptoCard : Claim7 := { stood := { row := linesTextsUptoRow, standIns := [], harness := (true, "6efdb63362252494277c4ff029b2f255f3c67bd8bca4fabccc99d28271c4f131"), looks := false }, kinds := [], alts := [], laidByText := true, laidKinds := [.data, .pinned], laidTests := true, laidLooks := .later }
def LinesTextsUptoCardSaid : Prop := Claim7.holds Tryd.pinned (.plain (OpenSpec.upto linesTextsSpec)) linesTextsUptoCard

/-- THE SECOND FORM's CARD OF 'rafterlaw03.LinesSplits'. -/
def linesSplitsUptoCard : Claim7 := { stood := { row := linesSplitsUptoRow, standIns := [], harness := (true, "6efdb63362252494277c4ff029b2f255f3c67bd8bca4fabccc99d28271c4f131"), looks := false }, kinds := [], alts := [], laidByText := true, laidKinds := [.data, .pinned], laidTests := true, laidLooks := .later }
def LinesSplitsUptoCardSaid : Prop := Claim7.holds Tryd.pinned (.plain (OpenSpec.upto linesSplitsSpec)) linesSplitsUptoCard

/-- THE SECOND FORM's CARD OF 'rafterlaw03.LinesFinds'. -/
def linesFindsUptoCard : Claim7 := { stood := { row := linesFindsUptoRow, standIns := [], harness := (true, "6efdb63362252494277c4ff029b2f255f3c67bd8bca4fabccc99d28271c4f131"), looks := false }, kinds := [], alts := [], laidByText := true, laidKinds := [.data, .pinned], laidTests := true, laidLooks := .later }
def LinesFindsUptoCardSaid : Prop := Claim7.holds Tryd.pinned (.plain (OpenSpec.upto linesFindsSpec)) linesFindsUptoCard
end Rows
end Go.Proofs.YtokkkjgdfnkjoaaDoor
