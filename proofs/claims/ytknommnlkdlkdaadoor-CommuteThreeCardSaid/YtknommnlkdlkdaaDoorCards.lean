/-
  DERIVED. GIVEN WITH THE SEED: THE CARDS: each row of YtknommnlkdlkdaaDoorRows.lean that lists a variable, with what it lists TIED to the program's text (the seventh form; the later family's looks); each row that meets fmt, with fmt's text TOLD by the authors' own Lean function (tested against real Go, not proved from fmt's source: count such statements apart). THE CARD IS WHAT COUNTS. Prove the row's statement (the work); the ties are given (YtknommnlkdlkdaaDoorTie.lean); close each card by the builder's one call (the guide's Derived/Test/ToyasCard.lean, 'card_holds'). Laid BY PROGRAM, IN A SANDBOX (cutbox-door.mjs). By AI agents, Wed Nov 11 2026. No macro, syntax, notation, axiom, sorry.
-/
import Derived.Test.YtknommnlkdlkdaaDoorRows
import GoSem.ClaimSeven
namespace Go.Proofs.YtknommnlkdlkdaaDoor
namespace Rows

/-- THE TIED CARD OF 'rafterlaw08.CommuteThree'. -/
def commuteThreeCard : Claim7 := { stood := { row := commuteThreeRow, standIns := [], harness := (true, "bacb00fd3425875712546e608be7c5019cfc326aadd475099150fa4381fe4b25"), looks := false }, kinds := [], alts := [], laidByText := true, laidKinds := [.data, .pinned], laidTests := true, laidLooks := .later }
def CommuteThreeCardSaid : Prop := Claim7.holds Tryd.pinned (.plain (OpenSpec.ofChange commuteThreeSpec)) commuteThreeCard

/-- THE SECOND FORM's CARD OF 'rafterlaw08.CommuteThree'. -/
def commuteThreeUptoCard : Claim7 := { stood := { row := commuteThreeUptoRow, standIns := [], harness := (true, "bacb00fd3425875712546e608be7c5019cfc326aadd475099150fa4381fe4b25"), looks := false }, kinds := [], alts := [], laidByText := true, laidKinds := [.data, .pinned], laidTests := true, laidLooks := .later }
def CommuteThreeUptoCardSaid : Prop := Claim7.holds Tryd.pinned (.plain (OpenSpec.upto commuteThreeSpec)) commuteThreeUptoCard
end Rows
end Go.Proofs.YtknommnlkdlkdaaDoor
