/-
  DERIVED. GIVEN WITH THE SEED: THE CARDS: each row of YtoajckhfnadhjaaGreatDoorRows.lean that lists a variable, with what it lists TIED to the program's text (the seventh form; the later family's looks); each row that meets fmt, with fmt's text TOLD by the authors' own Lean function (tested against real Go, not proved from fmt's source: count such statements apart). THE CARD IS WHAT COUNTS. Prove the row's statement (the work); the ties are given (YtoajckhfnadhjaaGreatDoorTie.lean); close each card by the builder's one call (the guide's Derived/Test/ToyasCard.lean, 'card_holds'). Laid BY PROGRAM, IN A SANDBOX (cutbox-door.mjs). By AI agents, Wed Nov 11 2026. No macro, syntax, notation, axiom, sorry.
-/
import Derived.Test.YtoajckhfnadhjaaGreatDoorRows
import GoSem.ClaimSeven
namespace Go.Proofs.YtoajckhfnadhjaaGreatDoor
namespace Rows

/-- THE TIED CARD OF 'rafterlaw13.PatchPuts'. -/
def patchPutsCard : Claim7 := { stood := { row := patchPutsRow, standIns := [], harness := (true, "149c26e6371f66398b9c61534073468d611a3bd60abff2994cd7c397d1a0e122"), looks := true }, kinds := [], alts := [], laidByText := true, laidKinds := [.data, .data, .data, .data, .sentinel, .sentinel, .pinned], laidTests := true, laidLooks := .later }
def PatchPutsCardSaid : Prop := Claim7.holds Tryz.pinned (.plain (OpenSpec.ofChange patchPutsSpec)) patchPutsCard

/-- THE TIED CARD OF 'rafterlaw13.PatchGets'. -/
def patchGetsCard : Claim7 := { stood := { row := patchGetsRow, standIns := [], harness := (true, "149c26e6371f66398b9c61534073468d611a3bd60abff2994cd7c397d1a0e122"), looks := true }, kinds := [], alts := [], laidByText := true, laidKinds := [.data, .data, .data, .data, .sentinel, .sentinel, .pinned], laidTests := true, laidLooks := .later }
def PatchGetsCardSaid : Prop := Claim7.holds Tryz.pinned (.plain (OpenSpec.ofChange patchGetsSpec)) patchGetsCard

/-- THE TIED CARD OF 'rafterlaw13.PatchIds'. -/
def patchIdsCard : Claim7 := { stood := { row := patchIdsRow, standIns := [], harness := (true, "149c26e6371f66398b9c61534073468d611a3bd60abff2994cd7c397d1a0e122"), looks := true }, kinds := [], alts := [], laidByText := true, laidKinds := [.data, .data, .data, .data, .sentinel, .sentinel, .pinned], laidTests := true, laidLooks := .later }
def PatchIdsCardSaid : Prop := Claim7.holds Tryz.pinned (.plain (OpenSpec.ofChange patchIdsSpec)) patchIdsCard

/-- THE SECOND FORM's CARD OF 'rafterlaw13.PatchPuts'. -/
def patchPutsUptoCard : Claim7 := { stood := { row := patchPutsUptoRow, standIns := [], harness := (true, "149c26e6371f66398b9c61534073468d611a3bd60abff2994cd7c397d1a0e122"), looks := true }, kinds := [], alts := [], laidByText := true, laidKinds := [.data, .data, .data, .data, .sentinel, .sentinel, .pinned], laidTests := true, laidLooks := .later }
def PatchPutsUptoCardSaid : Prop := Claim7.holds Tryz.pinned (.plain (OpenSpec.upto patchPutsSpec)) patchPutsUptoCard

/-- THE SECOND FORM's CARD OF 'rafterlaw13.PatchGets'. -/
def patchGetsUptoCard : Claim7 := { stood := { row := patchGetsUptoRow, standIns := [], harness := (true, "149c26e6371f66398b9c61534073468d611a3bd60abff2994cd7c397d1a0e122"), looks := true }, kinds := [], alts := [], laidByText := true, laidKinds := [.data, .data, .data, .data, .sentinel, .sentinel, .pinned], laidTests := true, laidLooks := .later }
def PatchGetsUptoCardSaid : Prop := Claim7.holds Tryz.pinned (.plain (OpenSpec.upto patchGetsSpec)) patchGetsUptoCard

/-- THE SECOND FORM's CARD OF 'rafterlaw13.PatchIds'. -/
def patchIdsUptoCard : Claim7 := { stood := { row := patchIdsUptoRow, standIns := [], harness := (true, "149c26e6371f66398b9c61534073468d611a3bd60abff2994cd7c397d1a0e122"), looks := true }, kinds := [], alts := [], laidByText := true, laidKinds := [.data, .data, .data, .data, .sentinel, .sentinel, .pinned], laidTests := true, laidLooks := .later }
def PatchIdsUptoCardSaid : Prop := Claim7.holds Tryz.pinned (.plain (OpenSpec.upto patchIdsSpec)) patchIdsUptoCard
end Rows
end Go.Proofs.YtoajckhfnadhjaaGreatDoor
