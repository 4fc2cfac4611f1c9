/- The reference's Pair of layer 8. -/
import Derived.BigQuiet
import Derived.Deep.QuietTactic
import Derived.Handy
import Derived.Test.YtalabahjfmcnbaaGreatDoorShelf
import Derived.Deep.RegionHeld3
import Derived.WalkKit
import Derived.RegionTactic
import Derived.BigRegion
import Derived.Test.YtalabahjfmcnbaaGreatDoorCk12
namespace Go.Proofs.YtalabahjfmcnbaaGreatDoor
open Go.RowKit
set_option linter.unusedVariables false

/-- What a pair hands back: two steps whose lines lie below B, and an error. -/
def PairB (w : World) (B : Nat) (res : Int × Pk × Pk) (e : Ending) (w' : World) : Prop :=
  ∃ (y z : Pm) (n : Int), e = .returned (.tuple #[.agg #[.int .i64 y.kind, .string y.p, .string y.dst, .int .i64 y.at_, .slice y.a1 y.old.length y.c1, .slice y.a2 y.new.length y.c2], .agg #[.int .i64 z.kind, .string z.p, .string z.dst, .int .i64 z.at_, .slice z.a1 z.old.length z.c1, .slice z.a2 z.new.length z.c2], .int .i64 n]) ∧ Hid (y.Ok w' B ∧ z.Ok w' B ∧ res = (n, y.key, z.key)) ∧ Below w.heap.size w w'
theorem PairB.draw {w w' : World} {B : Nat} {res : Int × Pk × Pk} {e : Ending} (h : PairB w B res e w') : PairB w B res e w'.drew := by
  obtain ⟨y, z, n, rfl, h, hb⟩ := h
  have hd : Below B w' w'.drew := (Below.refl _ _).drew
  exact ⟨y, z, n, rfl, ⟨h.out.1.below hd, h.out.2.1.below hd, h.out.2.2⟩, hb.drew⟩

end Go.Proofs.YtalabahjfmcnbaaGreatDoor
