
/- A field of an id that a call hands back. -/
import Derived.Test.YthenlajknoddcaaGreatDoorId
import Derived.Handy
namespace Go.Proofs.YthenlajknoddcaaGreatDoor
open Go.RowKit
set_option linter.unusedVariables false

set_option maxRecDepth 100000 in
theorem field_id1 (p : ByteArray) (n : Int) (w : World) : (Instr.field 24 (.agg #[.string p, .int .i64 n]) 1).run Tryz.prog w = .ok (.int .i64 n) w := by
  unfold Instr.field
  rw [Sem.run_bind, run_underlying Tryz.underlying24, Result.andThen_ok]
  simp [go_sem, asAgg]
end Go.Proofs.YthenlajknoddcaaGreatDoor
