/-
  DERIVED. GIVEN WITH THE SEED: THE CARDS: each row of YtalabahjfmcnbaaGreatDoorRows.lean that lists a variable, with what it lists TIED to the program's text (the seventh form; the later family's looks); each row that meets fmt, with fmt's text TOLD by the authors' own Lean function (tested against real Go, not proved from fmt's source: count such statements apart). THE CARD IS WHAT COUNTS. Prove the row's statement (the work); the ties are given (YtalabahjfmcnbaaGreatDoorTie.lean); close each card by the builder's one call (the guide's Derived/Test/ToyasCard.lean, 'card_holds'). Laid BY PROGRAM, IN A SANDBOX (cutbox-door.mjs). By AI agents, Wed Nov 11 2026. No macro, syntax, notation, axiom, sorry.
-/
import Derived.Test.YtalabahjfmcnbaaGreatDoorRows
import GoSem.ClaimSeven
namespace Go.Proofs.YtalabahjfmcnbaaGreatDoor
namespace Rows

/-- THE TIED CARD OF 'rafterlaw10.SeqRows'. -/
def seqRowsCard : Claim7 := { stood := { row := seqRowsRow, standIns := [], harness := (true, "ab3179b9432b2cd0df061b25796fa5609c901617b96f99b2104f37ec9718d527"), looks := false }, kinds := [], alts := [], laidByText := true, laidKinds := [.data, .pinned], laidTests := true, laidLooks := .later }
def SeqRowsCardSaid : Prop := Claim7.holds Tryz.pinned (.plain (OpenSpec.ofChange seqRowsSpec)) seqRowsCard

/-- THE TIED CARD OF 'rafterlaw10.SeqSame'. -/
def seqSameCard : Claim7 := { stood := { row := seqSameRow, standIns := [], harness := (true, "ab3179b9432b2cd0df061b25796fa5609c901617b96f99b2104f37ec9718d527"), looks := false }, kinds := [], alts := [], laidByText := true, laidKinds := [.data, .pinned], laidTests := true, laidLooks := .later }
def SeqSameCardSaid : Prop := Claim7.holds Tryz.pinned (.plain (OpenSpec.ofChange seqSameSpec)) seqSameCard

/-- THE TIED CARD OF 'rafterlaw10.SeqNeeds'. -/
def seqNeedsCard : Claim7 := { stood := { row := seqNeedsRow, standIns := [], harness := (true, "ab3179b9432b2cd0df061b25796fa5609c901617b96f99b2104f37ec9718d527"), looks := false }, kinds := [], alts := [], laidByText := true, laidKinds := [.data, .pinned], laidTests := true, laidLooks := .later }
def SeqNeedsCardSaid : Prop := Claim7.holds Tryz.pinned (.plain (OpenSpec.ofChange seqNeedsSpec)) seqNeedsCard

/-- THE SECOND FORM's CARD OF 'rafterlaw10.SeqRows'. -/
def seqRowsUptoCard : Claim7 := { stood := { row := seqRowsUptoRow, standIns := [], harness := (true, "ab3179b9432b2cd0df061b25796fa5609c901617b96f99b2104f37ec9718d527"), looks := false }, kinds := [], alts := [], laidByText := true, laidKinds := [.data, .pinned], laidTests := true, laidLooks := .later }
def SeqRowsUptoCardSaid : Prop := Claim7.holds Tryz.pinned (.plain (OpenSpec.upto seqRowsSpec)) seqRowsUptoCard

/-- THE SECOND FORM's CARD OF 'rafterlaw10.SeqSame'. -/
def seqSameUptoCard : Claim7 := { stood := { row := seqSameUptoRow, standIns := [], harness := (true, "ab3179b9432b2cd0df061b25796fa5609c901617b96f99b2104f37ec9718d527"), looks := false }, kinds := [], alts := [], laidByText := true, laidKinds := [.data, .pinned], laidTests := true, laidLooks := .later }
def SeqSameUptoCardSaid : Prop := Claim7.holds Tryz.pinned (.plain (OpenSpec.upto seqSameSpec)) seqSameUptoCard

/-- THE SECOND FORM's CARD OF 'rafterlaw10.SeqNeeds'. -/
def seqNeedsUptoCard : Claim7 := { stood := { row := seqNeedsUptoRow, standIns := [], harness := (true, "ab3179b9432b2cd0df061b25796fa5609c901617b96f99b2104f37ec9718d527"), looks := false }, kinds := [], alts := [], laidByText := true, laidKinds := [.data, .pinned], laidTests := true, laidLooks := .later }
def SeqNeedsUptoCardSaid : Prop := Claim7.holds Tryz.pinned (.plain (OpenSpec.upto seqNeedsSpec)) seqNeedsUptoCard
end Rows
end Go.Proofs.YtalabahjfmcnbaaGreatDoor
