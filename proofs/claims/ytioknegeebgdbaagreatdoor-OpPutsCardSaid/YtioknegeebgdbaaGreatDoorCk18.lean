/- A whole variable read in a region that is walked once, whatever its order: its value by a law, not cell by cell. -/
import Derived.Lib.QuietBelow
import Derived.BigQuiet
import Derived.Test.YtioknegeebgdbaaGreatDoorCk05
namespace Go.Proofs.YtioknegeebgdbaaGreatDoor
open Go.RowKit
open Go.Sort
set_option linter.unusedVariables false

theorem quiet_load {P : Program} {C : World → Prop} {K : Act → Prop} {o : Oper} {a : Act} (ty : TypeId) (x : Operand) (ho : o.op = .load ty x) (p : Addr) (hx : a.eval x = .pointer (some p)) (v : Value)
    (hv : ∀ w, C w → (loadVar ty p).run P w = .ok v w) (hk : K (a.put o.dst v)) : o.quiet P a C K :=
  ⟨v, fun w hw => by
    unfold Oper.quietAt execOp
    simp only [ho, hx, Instr.loadAt, Instr.sureAddr, Sem.run_bind, Sem.run_pure, Result.andThen_ok, hv w hw]
    exact ⟨rfl, rfl⟩, hk⟩
/-- An operation that lies in an old block, read in the worlds of 'quiet below'. -/
theorem op_loaded {wb : World} {g : Nat} {x : Om} (h : OpAt wb g x) : ∀ W, (∃ p : Regrown, W = grow (redrawn wb p.d) p.os) → (loadVar 27 ⟨g, 0, none⟩).run Tryz.prog W = .ok (.agg #[.int .i64 x.kind, .string x.self.p, .int .i64 x.self.n, .string x.parent.p, .int .i64 x.parent.n, .string x.dst.p, .int .i64 x.dst.n, .string x.name, .string x.dname, .string x.left.p, .int .i64 x.left.n, .string x.right.p, .int .i64 x.right.n, .slice x.a1 x.dels.length x.c1, .int .i64 x.first, .slice x.a2 x.lines.length x.c2]) W := by
  rintro _ ⟨p, rfl⟩
  exact load_op (h.on (below_regrown wb p.d p.os))
end Go.Proofs.YtioknegeebgdbaaGreatDoor
