
/- A field of an id that a call hands back. -/
import Derived.Test.YthenlajknoddcaaDoorId
import Derived.Handy
namespace Go.Proofs.YthenlajknoddcaaDoor
open Go.RowKit
set_option linter.unusedVariables false

set_option maxRecDepth 100000 in
theorem field_id1 (p : ByteArray) (n : Int) (w : World) : (Instr.field 23 (.agg #[.string p, .int .i64 n]) 1).run Tryd.prog w = .ok (.int .i64 n) w := by
  unfold Instr.field
  rw [Sem.run_bind, run_underlying Tryd.underlying23, Result.andThen_ok]
  simp [go_sem, asAgg]
end Go.Proofs.YthenlajknoddcaaDoor
