/-
  DERIVED. GIVEN WITH THE SEED: THE CARDS: each row of YtknommnlkdlkdaaGreatDoorRows.lean that lists a variable, with what it lists TIED to the program's text (the seventh form; the later family's looks); each row that meets fmt, with fmt's text TOLD by the authors' own Lean function (tested against real Go, not proved from fmt's source: count such statements apart). THE CARD IS WHAT COUNTS. Prove the row's statement (the work); the ties are given (YtknommnlkdlkdaaGreatDoorTie.lean); close each card by the builder's one call (the guide's Derived/Test/ToyasCard.lean, 'card_holds'). Laid BY PROGRAM, IN A SANDBOX (cutbox-door.mjs). By AI agents, Wed Nov 11 2026. No macro, syntax, notation, axiom, sorry.
-/
import Derived.Test.YtknommnlkdlkdaaGreatDoorRows
import GoSem.ClaimSeven
namespace Go.Proofs.YtknommnlkdlkdaaGreatDoor
namespace Rows

/-- THE TIED CARD OF 'rafterlaw08.CommuteSame'. -/
def commuteSameCard : Claim7 := { stood := { row := commuteSameRow, standIns := [], harness := (true, "c552014a53b5991decf30d9d2f127b9f831dc92d867a3ea8a199fb66f77c8f8f"), looks := false }, kinds := [], alts := [], laidByText := true, laidKinds := [.data, .pinned], laidTests := true, laidLooks := .later }
def CommuteSameCardSaid : Prop := Claim7.holds Tryz.pinned (.plain (OpenSpec.ofChange commuteSameSpec)) commuteSameCard

/-- THE SECOND FORM's CARD OF 'rafterlaw08.CommuteSame'. -/
def commuteSameUptoCard : Claim7 := { stood := { row := commuteSameUptoRow, standIns := [], harness := (true, "c552014a53b5991decf30d9d2f127b9f831dc92d867a3ea8a199fb66f77c8f8f"), looks := false }, kinds := [], alts := [], laidByText := true, laidKinds := [.data, .pinned], laidTests := true, laidLooks := .later }
def CommuteSameUptoCardSaid : Prop := Claim7.holds Tryz.pinned (.plain (OpenSpec.upto commuteSameSpec)) commuteSameUptoCard
end Rows
end Go.Proofs.YtknommnlkdlkdaaGreatDoor
