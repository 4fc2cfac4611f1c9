/-
  DERIVED. GIVEN WITH THE SEED: THE CARDS: each row of YtaepfahpbnpeiaaGreatDoorRows.lean that lists a variable, with what it lists TIED to the program's text (the seventh form; the later family's looks); each row that meets fmt, with fmt's text TOLD by the authors' own Lean function (tested against real Go, not proved from fmt's source: count such statements apart). THE CARD IS WHAT COUNTS. Prove the row's statement (the work); the ties are given (YtaepfahpbnpeiaaGreatDoorTie.lean); close each card by the builder's one call (the guide's Derived/Test/ToyasCard.lean, 'card_holds'). Laid BY PROGRAM, IN A SANDBOX (cutbox-door.mjs). By AI agents, Wed Nov 11 2026. No macro, syntax, notation, axiom, sorry.
-/
import Derived.Test.YtaepfahpbnpeiaaGreatDoorRows
import GoSem.ClaimSeven
namespace Go.Proofs.YtaepfahpbnpeiaaGreatDoor
namespace Rows

/-- THE TIED CARD OF 'rafterlaw07.PrimAll'. -/
def primAllCard : Claim7 := { stood := { row := primAllRow, standIns := [], harness := (true, "c89a4dd598e18f094102c80caee851f3eee03e1d1009a57d33c655028047a603"), looks := false }, kinds := [], alts := [], laidByText := true, laidKinds := [.data, .pinned], laidTests := true, laidLooks := .later }
def PrimAllCardSaid : Prop := Claim7.holds Tryz.pinned (.plain (OpenSpec.ofChange primAllSpec)) primAllCard

/-- THE TIED CARD OF 'rafterlaw07.PrimHunks'. -/
def primHunksCard : Claim7 := { stood := { row := primHunksRow, standIns := [], harness := (true, "c89a4dd598e18f094102c80caee851f3eee03e1d1009a57d33c655028047a603"), looks := false }, kinds := [], alts := [], laidByText := true, laidKinds := [.data, .pinned], laidTests := true, laidLooks := .later }
def PrimHunksCardSaid : Prop := Claim7.holds Tryz.pinned (.plain (OpenSpec.ofChange primHunksSpec)) primHunksCard

/-- THE SECOND FORM's CARD OF 'rafterlaw07.PrimAll'. -/
def primAllUptoCard : Claim7 := { stood := { row := primAllUptoRow, standIns := [], harness := (true, "c89a4dd598e18f094102c80caee851f3eee03e1d1009a57d33c655028047a603"), looks := false }, kinds := [], alts := [], laidByText := true, laidKinds := [.data, .pinned], laidTests := true, laidLooks := .later }
def PrimAllUptoCardSaid : Prop := Claim7.holds Tryz.pinned (.plain (OpenSpec.upto primAllSpec)) primAllUptoCard

/-- THE SECOND FORM's CARD OF 'rafterlaw07.PrimHunks'. -/
def primHunksUptoCard : Claim7 := { stood := { row := primHunksUptoRow, standIns := [], harness := (true, "c89a4dd598e18f094102c80caee851f3eee03e1d1009a57d33c655028047a603"), looks := false }, kinds := [], alts := [], laidByText := true, laidKinds := [.data, .pinned], laidTests := true, laidLooks := .later }
def PrimHunksUptoCardSaid : Prop := Claim7.holds Tryz.pinned (.plain (OpenSpec.upto primHunksSpec)) primHunksUptoCard
end Rows
end Go.Proofs.YtaepfahpbnpeiaaGreatDoor
