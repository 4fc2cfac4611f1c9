/-
  DERIVED. GIVEN WITH THE SEED: THE CARDS: each row of YtifkpelcdihdoaaGreatDoorRows.lean that lists a variable, with what it lists TIED to the program's text (the seventh form; the later family's looks); each row that meets fmt, with fmt's text TOLD by the authors' own Lean function (tested against real Go, not proved from fmt's source: count such statements apart). THE CARD IS WHAT COUNTS. Prove the row's statement (the work); the ties are given (YtifkpelcdihdoaaGreatDoorTie.lean); close each card by the builder's one call (the guide's Derived/Test/ToyasCard.lean, 'card_holds'). Laid BY PROGRAM, IN A SANDBOX (cutbox-door.mjs). By AI agents, Wed Nov 11 2026. No macro, syntax, notation, axiom, sorry.
-/
import Derived.Test.YtifkpelcdihdoaaGreatDoorRows
import GoSem.ClaimSeven
namespace Go.Proofs.YtifkpelcdihdoaaGreatDoor
namespace Rows

/-- THE TIED CARD OF 'rafterlaw14.DepsNeeds'. -/
def depsNeedsCard : Claim7 := { stood := { row := depsNeedsRow, standIns := [], harness := (true, "a2d8ed7e6ae2298c8eb273de83291a0b5d32b106ec1fa8fc6e18f6baa64928d5"), looks := false }, kinds := [], alts := [], laidByText := true, laidKinds := [.data, .pinned], laidTests := true, laidLooks := .later }
def DepsNeedsCardSaid : Prop := Claim7.holds Tryz.pinned (.plain (OpenSpec.ofChange depsNeedsSpec)) depsNeedsCard

/-- THE SECOND FORM's CARD OF 'rafterlaw14.DepsNeeds'. -/
def depsNeedsUptoCard : Claim7 := { stood := { row := depsNeedsUptoRow, standIns := [], harness := (true, "a2d8ed7e6ae2298c8eb273de83291a0b5d32b106ec1fa8fc6e18f6baa64928d5"), looks := false }, kinds := [], alts := [], laidByText := true, laidKinds := [.data, .pinned], laidTests := true, laidLooks := .later }
def DepsNeedsUptoCardSaid : Prop := Claim7.holds Tryz.pinned (.plain (OpenSpec.upto depsNeedsSpec)) depsNeedsUptoCard
end Rows
end Go.Proofs.YtifkpelcdihdoaaGreatDoor
