
/- The reference's Less, Has, Same of ids. -/
import Derived.Test.YthenlajknoddcaaDoorId
import Derived.Test.YthenlajknoddcaaDoorIdEq
namespace Go.Proofs.YthenlajknoddcaaDoor
open Go.RowKit
set_option linter.unusedVariables false

theorem ltI_eq (p : ByteArray) (n m : Int) : decide (ltI (Im.key ⟨p, n⟩) (Im.key ⟨p, m⟩)) = decide (n < m) := by
  unfold ltI Im.key
  refine decide_eq_decide.2 ⟨fun h => ?_, fun h => .inr ⟨rfl, h⟩⟩
  rcases h with h | h
  · exact absurd h (t_irrefl _)
  · exact h.2
theorem ltI_ne {p q : ByteArray} (h : p ≠ q) (n m : Int) : decide (ltI (Im.key ⟨p, n⟩) (Im.key ⟨q, m⟩)) = Op.bytesLess p.toList q.toList := by
  rw [bytesLess_eq, toList_eq, toList_eq]
  unfold ltI Im.key
  exact decide_eq_decide.2 ⟨fun h2 => h2.elim id fun h3 => absurd (bytes_inj h3.1) h, .inl⟩

end Go.Proofs.YthenlajknoddcaaDoor
