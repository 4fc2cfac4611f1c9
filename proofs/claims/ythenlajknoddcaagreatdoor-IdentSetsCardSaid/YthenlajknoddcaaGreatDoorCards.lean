/-
  DERIVED. GIVEN WITH THE SEED: THE CARDS: each row of YthenlajknoddcaaGreatDoorRows.lean that lists a variable, with what it lists TIED to the program's text (the seventh form; the later family's looks); each row that meets fmt, with fmt's text TOLD by the authors' own Lean function (tested against real Go, not proved from fmt's source: count such statements apart). THE CARD IS WHAT COUNTS. Prove the row's statement (the work); the ties are given (YthenlajknoddcaaGreatDoorTie.lean); close each card by the builder's one call (the guide's Derived/Test/ToyasCard.lean, 'card_holds'). Laid BY PROGRAM, IN A SANDBOX (cutbox-door.mjs). By AI agents, Wed Nov 11 2026. No macro, syntax, notation, axiom, sorry.
-/
import Derived.Test.YthenlajknoddcaaGreatDoorRows
import GoSem.ClaimSeven
namespace Go.Proofs.YthenlajknoddcaaGreatDoor
namespace Rows

/-- THE TIED CARD OF 'rafterlaw11.IdentSets'. -/
def identSetsCard : Claim7 := { stood := { row := identSetsRow, standIns := [], harness := (true, "f7c9399093d884d3781c92a7990d2fbd88581480680558c1775fda84516c9a95"), looks := true }, kinds := [], alts := [], laidByText := true, laidKinds := [.data, .data, .data, .sentinel, .sentinel], laidTests := true, laidLooks := .later }
def IdentSetsCardSaid : Prop := Claim7.holds Tryz.pinned (.plain (OpenSpec.ofChange identSetsSpec)) identSetsCard

/-- THE SECOND FORM's CARD OF 'rafterlaw11.IdentSets'. -/
def identSetsUptoCard : Claim7 := { stood := { row := identSetsUptoRow, standIns := [], harness := (true, "f7c9399093d884d3781c92a7990d2fbd88581480680558c1775fda84516c9a95"), looks := true }, kinds := [], alts := [], laidByText := true, laidKinds := [.data, .data, .data, .sentinel, .sentinel], laidTests := true, laidLooks := .later }
def IdentSetsUptoCardSaid : Prop := Claim7.holds Tryz.pinned (.plain (OpenSpec.upto identSetsSpec)) identSetsUptoCard
end Rows
end Go.Proofs.YthenlajknoddcaaGreatDoor
