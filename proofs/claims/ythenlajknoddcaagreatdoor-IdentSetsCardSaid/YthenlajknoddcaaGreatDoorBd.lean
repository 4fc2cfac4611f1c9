
/- Beside 'Below', draws that only grow: what the library's sort asks of a comparison. -/
import Derived.Test.YthenlajknoddcaaGreatDoorHeld
import Derived.Lib.QuietBelow
namespace Go.Proofs.YthenlajknoddcaaGreatDoor
open Go.RowKit
set_option linter.unusedVariables false

/-- Of what was there nothing has turned; the tape was asked on. -/
structure Bd (w w' : World) : Prop where
  b : Below w.heap.size w w'
  d : w.drawn ≤ w'.drawn
section
variable {w w' w2 : World}
theorem Bd.refl (w : World) : Bd w w := ⟨Below.refl _ _, Nat.le_refl _⟩
theorem Bd.trans (h : Bd w w') (k : Bd w' w2) : Bd w w2 := ⟨h.b.trans (k.b.mono h.b.size), Nat.le_trans h.d k.d⟩
theorem Bd.alloc (h : Bd w w') (o : Obj) : Bd w (w'.alloc o) := ⟨h.b.alloc h.b.size o, by simpa using h.d⟩
theorem Bd.drew (h : Bd w w') : Bd w w'.drew := ⟨h.b.drew, Nat.le_succ_of_le h.d⟩
theorem Bd.drewN (h : Bd w w') (n : Nat) : Bd w (w'.drewN n) := ⟨below_drewN h.b n, Nat.le_trans h.d (Nat.le_add_right _ _)⟩
theorem Bd.of_drew (h : Bd w.drew w') : Bd w w' := ⟨below_dr h.b, Nat.le_trans (Nat.le_succ _) h.d⟩
theorem Bd.size (h : Bd w w') : w.heap.size ≤ w'.heap.size := h.b.size
theorem Bd.grow (h : Bd w w') : ∃ q os, w' = Sort.grow (w.drewN q) os := by
  obtain ⟨p, rfl⟩ := regrown_of_below h.b
  have hd : w.drawn ≤ p.d := h.d
  refine ⟨p.d - w.drawn, p.os, ?_⟩
  have e : redrawn w p.d = w.drewN (p.d - w.drawn) := by
    unfold redrawn World.drewN
    congr 1
    omega
  rw [e]
end
end Go.Proofs.YthenlajknoddcaaGreatDoor
