/- OpGets: the operation of any bytes. -/
import Derived.BigQuiet
import Derived.Deep.QuietTactic
import Derived.Handy
import Derived.WalkKit
import Derived.Lib.Hide
import Derived.Test.YtioknegeebgdbaaGreatDoorCk24
import Derived.Test.YtioknegeebgdbaaGreatDoorCk26
import Derived.Test.YtioknegeebgdbaaGreatDoorCk28
namespace Go.Proofs.YtioknegeebgdbaaGreatDoor
open Go.RowKit
set_option linter.unusedVariables false

theorem ops_one (w : World) (x : Om) (h : x.Ok w w.heap.size) : Ops (w.alloc (.cells #[.int .i64 x.kind, .string x.self.p, .int .i64 x.self.n, .string x.parent.p, .int .i64 x.parent.n, .string x.dst.p, .int .i64 x.dst.n, .string x.name, .string x.dname, .string x.left.p, .int .i64 x.left.n, .string x.right.p, .int .i64 x.right.n, .slice x.a1 x.dels.length x.c1, .int .i64 x.first, .slice x.a2 x.lines.length x.c2] 27)) (w.alloc (.cells #[.int .i64 x.kind, .string x.self.p, .int .i64 x.self.n, .string x.parent.p, .int .i64 x.parent.n, .string x.dst.p, .int .i64 x.dst.n, .string x.name, .string x.dname, .string x.left.p, .int .i64 x.left.n, .string x.right.p, .int .i64 x.right.n, .slice x.a1 x.dels.length x.c1, .int .i64 x.first, .slice x.a2 x.lines.length x.c2] 27)).heap.size (some ⟨w.heap.size, 0, none⟩) [x] := by
  obtain ⟨hb, hx⟩ := op_box w x
  refine ⟨Rk.At.row hx, fun y hy => ?_⟩
  have e : y = x := by simpa using hy
  rw [e]
  exact h.on hb
theorem few_one {x : Om} (h : x.Sz) : OpsFew [x] := fun y hy => by
  have e : y = x := by simpa using hy
  rw [e]
  exact ⟨h.few, h.rows⟩
theorem sz_pu {x : Om} (h : x.Pu) (hm : mayO x.key = true) : x.Sz := by
  obtain ⟨la, lb⟩ := lines_few (op_ok hm).lines
  exact ⟨by have := h.self; omega, by have := h.parent; omega, by have := h.dst; omega, by have := h.left; omega, by have := h.right; omega, by have := h.name; omega, by have := h.dname; omega, by have := h.few; omega, fun i hi => by have := h.dels i hi; omega, h.rows, fun l hl => by have := lb l hl; omega⟩
end Go.Proofs.YtioknegeebgdbaaGreatDoor
