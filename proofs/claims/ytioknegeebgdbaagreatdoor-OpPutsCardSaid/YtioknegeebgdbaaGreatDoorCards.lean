/-
  DERIVED. GIVEN WITH THE SEED: THE CARDS: each row of YtioknegeebgdbaaGreatDoorRows.lean that lists a variable, with what it lists TIED to the program's text (the seventh form; the later family's looks); each row that meets fmt, with fmt's text TOLD by the authors' own Lean function (tested against real Go, not proved from fmt's source: count such statements apart). THE CARD IS WHAT COUNTS. Prove the row's statement (the work); the ties are given (YtioknegeebgdbaaGreatDoorTie.lean); close each card by the builder's one call (the guide's Derived/Test/ToyasCard.lean, 'card_holds'). Laid BY PROGRAM, IN A SANDBOX (cutbox-door.mjs). By AI agents, Wed Nov 11 2026. No macro, syntax, notation, axiom, sorry.
-/
import Derived.Test.YtioknegeebgdbaaGreatDoorRows
import GoSem.ClaimSeven
namespace Go.Proofs.YtioknegeebgdbaaGreatDoor
namespace Rows

/-- THE TIED CARD OF 'rafterlaw12.OpPuts'. -/
def opPutsCard : Claim7 := { stood := { row := opPutsRow, standIns := [], harness := (true, "1a730a86b96ac1286aff0db8e6c6e56a9a768b3e48e352bc152cd139fb42a387"), looks := true }, kinds := [], alts := [], laidByText := true, laidKinds := [.data, .data, .data, .data, .sentinel, .sentinel, .pinned], laidTests := true, laidLooks := .later }
def OpPutsCardSaid : Prop := Claim7.holds Tryz.pinned (.plain (OpenSpec.ofChange opPutsSpec)) opPutsCard

/-- THE TIED CARD OF 'rafterlaw12.OpGets'. -/
def opGetsCard : Claim7 := { stood := { row := opGetsRow, standIns := [], harness := (true, "1a730a86b96ac1286aff0db8e6c6e56a9a768b3e48e352bc152cd139fb42a387"), looks := true }, kinds := [], alts := [], laidByText := true, laidKinds := [.data, .data, .data, .data, .sentinel, .sentinel, .pinned], laidTests := true, laidLooks := .later }
def OpGetsCardSaid : Prop := Claim7.holds Tryz.pinned (.plain (OpenSpec.ofChange opGetsSpec)) opGetsCard

/-- THE SECOND FORM's CARD OF 'rafterlaw12.OpPuts'. -/
def opPutsUptoCard : Claim7 := { stood := { row := opPutsUptoRow, standIns := [], harness := (true, "1a730a86b96ac1286aff0db8e6c6e56a9a768b3e48e352bc152cd139fb42a387"), looks := true }, kinds := [], alts := [], laidByText := true, laidKinds := [.data, .data, .data, .data, .sentinel, .sentinel, .pinned], laidTests := true, laidLooks := .later }
def OpPutsUptoCardSaid : Prop := Claim7.holds Tryz.pinned (.plain (OpenSpec.upto opPutsSpec)) opPutsUptoCard

/-- THE SECOND FORM's CARD OF 'rafterlaw12.OpGets'. -/
def opGetsUptoCard : Claim7 := { stood := { row := opGetsUptoRow, standIns := [], harness := (true, "1a730a86b96ac1286aff0db8e6c6e56a9a768b3e48e352bc152cd139fb42a387"), looks := true }, kinds := [], alts := [], laidByText := true, laidKinds := [.data, .data, .data, .data, .sentinel, .sentinel, .pinned], laidTests := true, laidLooks := .later }
def OpGetsUptoCardSaid : Prop := Claim7.holds Tryz.pinned (.plain (OpenSpec.upto opGetsSpec)) opGetsUptoCard
end Rows
end Go.Proofs.YtioknegeebgdbaaGreatDoor
