/- What the laws of layer 10 use: the reference's Same of rows that say the same, lengths, steps in boxes. -/
import Derived.Laws.Cover1
import Derived.Sort.OwnSorted
import Derived.Deep.RegionHeld3
import Derived.Deep.DrawnRows
import Derived.Deep.RegionLaw
import Derived.BigQuiet
import Derived.Deep.QuietTactic
import Derived.Handy
import Derived.Test.YtalabahjfmcnbaaGreatDoorShelf
import Derived.WalkKit
import Derived.Test.YtalabahjfmcnbaaGreatDoorCk19
import Derived.Test.YtalabahjfmcnbaaGreatDoorCk29
import Derived.Test.YtalabahjfmcnbaaGreatDoorCk30
namespace Go.Proofs.YtalabahjfmcnbaaGreatDoor
open Go.RowKit
set_option linter.unusedVariables false

theorem refsame_w (A A2 : Option Addr) (hs ks : List Pm) (n c n2 c2 : Nat) (w : World) (ha : RowW w A n c hs) (hb : RowW w A2 n2 c2 ks) (e : pkeys hs = pkeys ks) (hl : ∀ z ∈ hs, LtK z.key) (hn : hs.length ≤ 500) :
    Calls Tryz.prog 12 #[.slice A n c, .slice A2 n2 c2] w fun e w' => e = .returned (.bool true) ∧ Below w.heap.size w w' := by
  have e1 := ha.len
  have e2 := hb.len
  subst e1
  subst e2
  exact (refsamep_eq A A2 hs ks c c2 w e ha.at_ hb.at_ (by omega) (fun z hz => ltk_len (hl z hz))).mono fun e w' ⟨h, q, hq⟩ => ⟨h, by rw [hq]; exact below_drewN (Below.refl _ _) q⟩
end Go.Proofs.YtalabahjfmcnbaaGreatDoor
