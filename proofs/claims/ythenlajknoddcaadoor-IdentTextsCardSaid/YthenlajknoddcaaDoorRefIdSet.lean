
/- The reference's Set of ids. -/
import Derived.Test.YthenlajknoddcaaDoorIdsLeft
import Derived.Test.YthenlajknoddcaaDoorRefId
import Derived.Test.YthenlajknoddcaaDoorHeld
import Derived.Deep.CutRange
import Derived.Deep.RegionHeld3
namespace Go.Proofs.YthenlajknoddcaaDoor
open Go.RowKit
set_option linter.unusedVariables false

theorem ikeys_app (a b : List Im) : ikeys (a ++ b) = ikeys a ++ ikeys b := by simp [ikeys]
theorem ikeys_take (a : List Im) (k : Nat) : ikeys (a.take k) = (ikeys a).take k := by simp [ikeys, List.map_take]
theorem ikeys_drop (a : List Im) (k : Nat) : ikeys (a.drop k) = (ikeys a).drop k := by simp [ikeys, List.map_drop]
theorem id_row (w : World) (x : Im) : idR.Row (w.alloc (.cells #[.string x.p, .int .i64 x.n] 23)) (w.heap.size + 1) (some ⟨w.heap.size, 0, none⟩) [x] := by
  have h := (id_box w x).2.row
  have e : (w.alloc (.cells #[.string x.p, .int .i64 x.n] 23)).heap.size = w.heap.size + 1 := by simp
  rw [e] at h
  exact h
end Go.Proofs.YthenlajknoddcaaDoor
