/-
  DERIVED. GIVEN WITH THE SEED: THE CARDS: each row of YtempamboacbgiaaDoorRows.lean that lists a variable, with what it lists TIED to the program's text (the seventh form; the later family's looks); each row that meets fmt, with fmt's text TOLD by the authors' own Lean function (tested against real Go, not proved from fmt's source: count such statements apart). THE CARD IS WHAT COUNTS. Prove the row's statement (the work); the ties are given (YtempamboacbgiaaDoorTie.lean); close each card by the builder's one call (the guide's Derived/Test/ToyasCard.lean, 'card_holds'). Laid BY PROGRAM, IN A SANDBOX (cutbox-door.mjs). By AI agents, Wed Nov 11 2026. No macro, syntax, notation, axiom, sorry.
-/
import Derived.Test.YtempamboacbgiaaDoorRows
import GoSem.ClaimSeven
namespace Go.Proofs.YtempamboacbgiaaDoor
namespace Rows

/-- THE TIED CARD OF 'rafterlaw09.FusePairs'. -/
def fusePairsCard : Claim7 := { stood := { row := fusePairsRow, standIns := [], harness := (true, "f759abea6b5b8c8f6926ef4286092d8f855d0084a32d79d2c4812240063ecdfd"), looks := false }, kinds := [], alts := [], laidByText := true, laidKinds := [.data, .pinned], laidTests := true, laidLooks := .later }
def FusePairsCardSaid : Prop := Claim7.holds Tryd.pinned (.plain (OpenSpec.ofChange fusePairsSpec)) fusePairsCard

/-- THE TIED CARD OF 'rafterlaw09.FuseAll'. -/
def fuseAllCard : Claim7 := { stood := { row := fuseAllRow, standIns := [], harness := (true, "f759abea6b5b8c8f6926ef4286092d8f855d0084a32d79d2c4812240063ecdfd"), looks := false }, kinds := [], alts := [], laidByText := true, laidKinds := [.data, .pinned], laidTests := true, laidLooks := .later }
def FuseAllCardSaid : Prop := Claim7.holds Tryd.pinned (.plain (OpenSpec.ofChange fuseAllSpec)) fuseAllCard

/-- THE SECOND FORM's CARD OF 'rafterlaw09.FusePairs'. -/
def fusePairsUptoCard : Claim7 := { stood := { row := fusePairsUptoRow, standIns := [], harness := (true, "f759abea6b5b8c8f6926ef4286092d8f855d0084a32d79d2c4812240063ecdfd"), looks := false }, kinds := [], alts := [], laidByText := true, laidKinds := [.data, .pinned], laidTests := true, laidLooks := .later }
def FusePairsUptoCardSaid : Prop := Claim7.holds Tryd.pinned (.plain (OpenSpec.upto fusePairsSpec)) fusePairsUptoCard

/-- THE SECOND FORM's CARD OF 'rafterlaw09.FuseAll'. -/
def fuseAllUptoCard : Claim7 := { stood := { row := fuseAllUptoRow, standIns := [], harness := (true, "f759abea6b5b8c8f6926ef4286092d8f855d0084a32d79d2c4812240063ecdfd"), looks := false }, kinds := [], alts := [], laidByText := true, laidKinds := [.data, .pinned], laidTests := true, laidLooks := .later }
def FuseAllUptoCardSaid : Prop := Claim7.holds Tryd.pinned (.plain (OpenSpec.upto fuseAllSpec)) fuseAllUptoCard
end Rows
end Go.Proofs.YtempamboacbgiaaDoor
