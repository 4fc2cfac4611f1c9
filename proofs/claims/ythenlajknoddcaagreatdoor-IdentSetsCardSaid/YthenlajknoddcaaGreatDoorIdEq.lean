
/- Ids held against each other as structs. -/
import Derived.Test.YthenlajknoddcaaGreatDoorId
import Derived.Test.YthenlajknoddcaaGreatDoorStrEq
import Derived.Laws.StructEq
import Derived.Handy
namespace Go.Proofs.YthenlajknoddcaaGreatDoor
open Go.RowKit
set_option linter.unusedVariables false

theorem im_eqb (x y : Im) : decide (x = y) = ((x.p.toList == y.p.toList) && (x.n == y.n)) := by
  by_cases h : x = y
  · subst h
    simp
  · rw [decide_eq_false h]
    by_cases h2 : x.p = y.p
    · have h3 : x.n ≠ y.n := fun e => h (by obtain ⟨p, n⟩ := x; obtain ⟨q, m⟩ := y; simp_all)
      simp [h3]
    · rw [str_ne h2]
      rfl
set_option maxRecDepth 100000 in
theorem eql_id (x y : Im) (w : World) : (binOp .eql 24 (.agg #[.string x.p, .int .i64 x.n]) (.agg #[.string y.p, .int .i64 y.n])).run Tryz.prog w = .ok (.bool (decide (x = y))) w := by
  rw [run_eql_struct, im_eqb]
  cases h1 : (x.p.toList == y.p.toList) <;> cases h2 : (x.n == y.n) <;> simp [go_sem, h1, h2]
set_option maxRecDepth 100000 in
theorem neq_id (x y : Im) (w : World) : (binOp .neq 24 (.agg #[.string x.p, .int .i64 x.n]) (.agg #[.string y.p, .int .i64 y.n])).run Tryz.prog w = .ok (.bool (!decide (x = y))) w := by
  rw [run_neq_struct, im_eqb]
  cases h1 : (x.p.toList == y.p.toList) <;> cases h2 : (x.n == y.n) <;> simp [go_sem, h1, h2]
end Go.Proofs.YthenlajknoddcaaGreatDoor
