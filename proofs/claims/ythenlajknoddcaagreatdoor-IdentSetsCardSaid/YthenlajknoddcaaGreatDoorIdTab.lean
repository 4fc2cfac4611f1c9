
/- What the library's Itoa and Atoi read of the world: the powers of ten, two errors. -/
import Derived.Test.YthenlajknoddcaaGreatDoorStr
import Derived.Lib.SmallJoins
import Derived.Lib.LaidTab
import Derived.Lib.ItoaMem
namespace Go.Proofs.YthenlajknoddcaaGreatDoor
open Go.RowKit
set_option linter.unusedVariables false

/-- A value that an error variable may hold. -/
def ErrV (w : World) (g : Nat) : Prop := ∃ ev, w.cell? ⟨g, 0, none⟩ = some ev ∧ (ev = .nilIface ∨ ∃ te pe, ev = .iface te pe)
structure Nums (w : World) : Prop where
  tab : Lib.TabIs Tryz.prog w "internal/strconv.uint64pow10" .u64 Lib.pow10Tab
  syn : ErrV w 1
  rng : ErrV w 2
theorem ErrV.on {w w' : World} {g : Nat} (h : ErrV w g) (hb : Below w.heap.size w w') : ErrV w' g := by
  obtain ⟨ev, h1, h2⟩ := h
  exact ⟨ev, (hb.cell (p := ⟨g, 0, none⟩) (World.block_lt_of_cell? _ _ h1)).trans h1, h2⟩
theorem Nums.on {w w' : World} (h : Nums w) (hb : Below w.heap.size w w') : Nums w' :=
  ⟨Joins.tab_stays (g := 3) (by kernel_rfl) h.tab hb (Nat.le_refl _), h.syn.on hb, h.rng.on hb⟩
end Go.Proofs.YthenlajknoddcaaGreatDoor
