/-
  DERIVED. GIVEN WITH THE SEED: THE CARDS: each row of YthenlajknoddcaaDoorRows.lean that lists a variable, with what it lists TIED to the program's text (the seventh form; the later family's looks); each row that meets fmt, with fmt's text TOLD by the authors' own Lean function (tested against real Go, not proved from fmt's source: count such statements apart). THE CARD IS WHAT COUNTS. Prove the row's statement (the work); the ties are given (YthenlajknoddcaaDoorTie.lean); close each card by the builder's one call (the guide's Derived/Test/ToyasCard.lean, 'card_holds'). Laid BY PROGRAM, IN A SANDBOX (cutbox-door.mjs). By AI agents, Wed Nov 11 2026. No macro, syntax, notation, axiom, sorry.
-/
import Derived.Test.YthenlajknoddcaaDoorRows
import GoSem.ClaimSeven
namespace Go.Proofs.YthenlajknoddcaaDoor
namespace Rows

/-- THE TIED CARD OF 'rafterlaw11.IdentTexts'. -/
def identTextsCard : Claim7 := { stood := { row := identTextsRow, standIns := [], harness := (true, "797303c79b3fecbef14ff58b710c748b0235f99b562c080b07a5988be7602c47"), looks := true }, kinds := [], alts := [], laidByText := true, laidKinds := [.data, .data, .data, .sentinel, .sentinel], laidTests := true, laidLooks := .later }
def IdentTextsCardSaid : Prop := Claim7.holds Tryd.pinned (.plain (OpenSpec.ofChange identTextsSpec)) identTextsCard

/-- THE TIED CARD OF 'rafterlaw11.IdentRows'. -/
def identRowsCard : Claim7 := { stood := { row := identRowsRow, standIns := [], harness := (true, "797303c79b3fecbef14ff58b710c748b0235f99b562c080b07a5988be7602c47"), looks := true }, kinds := [], alts := [], laidByText := true, laidKinds := [.data, .data, .data, .sentinel, .sentinel], laidTests := true, laidLooks := .later }
def IdentRowsCardSaid : Prop := Claim7.holds Tryd.pinned (.plain (OpenSpec.ofChange identRowsSpec)) identRowsCard

/-- THE SECOND FORM's CARD OF 'rafterlaw11.IdentTexts'. -/
def identTextsUptoCard : Claim7 := { stood := { row := identTextsUptoRow, standIns := [], harness := (true, "797303c79b3fecbef14ff58b710c748b0235f99b562c080b07a5988be7602c47"), looks := true }, kinds := [], alts := [], laidByText := true, laidKinds := [.data, .data, .data, .sentinel, .sentinel], laidTests := true, laidLooks := .later }
def IdentTextsUptoCardSaid : Prop := Claim7.holds Tryd.pinned (.plain (OpenSpec.upto identTextsSpec)) identTextsUptoCard

/-- THE SECOND FORM's CARD OF 'rafterlaw11.IdentRows'. -/
def identRowsUptoCard : Claim7 := { stood := { row := identRowsUptoRow, standIns := [], harness := (true, "797303c79b3fecbef14ff58b710c748b0235f99b562c080b07a5988be7602c47"), looks := true }, kinds := [], alts := [], laidByText := true, laidKinds := [.data, .data, .data, .sentinel, .sentinel], laidTests := true, laidLooks := .later }
def IdentRowsUptoCardSaid : Prop := Claim7.holds Tryd.pinned (.plain (OpenSpec.upto identRowsSpec)) identRowsUptoCard
end Rows
end Go.Proofs.YthenlajknoddcaaDoor
