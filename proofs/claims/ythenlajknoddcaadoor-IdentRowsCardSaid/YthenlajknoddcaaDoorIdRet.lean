
/- Ids handed back out of a variable. -/
import Derived.Test.YthenlajknoddcaaDoorId
import Derived.Test.YthenlajknoddcaaDoorRecAt
namespace Go.Proofs.YthenlajknoddcaaDoor
open Go.RowKit
set_option linter.unusedVariables false

theorem sized_id : (Tryd.prog.info? 23).map (·.size) = some 2 := by kernel_rfl
theorem load_id {w : World} {g : Nat} {x : Im} (k : IdAt w g x) : (loadVar 23 ⟨g, 0, none⟩).run Tryd.prog w = .ok (.agg #[.string x.p, .int .i64 x.n]) w :=
  run_loadVar_row w g 23 23 #[.string x.p, .int .i64 x.n] (0, 0) _ k Tryd.underlying23 rfl sized_id
theorem ret_id {fn : Func} {p : Tmp} (h : fn.results = #[.cell p 23]) (tmps : Array Value) (w : World) (g : Nat) (x : Im) (hp : tmps.getD p undef = .pointer (some ⟨g, 0, none⟩)) (k : IdAt w g x) :
    (results fn tmps).run Tryd.prog w = .ok (.agg #[.string x.p, .int .i64 x.n]) w :=
  results_cell_row h tmps w g 23 #[.string x.p, .int .i64 x.n] (0, 0) _ hp k Tryd.underlying23 rfl sized_id
theorem ret_id2 {fn : Func} {p u : Tmp} (h : fn.results = #[.cell p 23, .tmp u]) (tmps : Array Value) (w : World) (g : Nat) (x : Im) (v : Value) (hp : tmps.getD p undef = .pointer (some ⟨g, 0, none⟩)) (hv : tmps.getD u undef = v) (k : IdAt w g x) :
    (results fn tmps).run Tryd.prog w = .ok (.tuple #[.agg #[.string x.p, .int .i64 x.n], v]) w := by
  rw [results_cell_tmp h, hp, hv]
  simp [asAddr, load_id k, Result.andThen]
/-- A variable of an id written over, cell by cell. -/
theorem id_set {w : World} {g : Nat} {x : Im} (k : IdAt w g x) (p : ByteArray) (n : Int) : IdAt ((w.setCell ⟨g, 0, none⟩ (.string p)).setCell ⟨g, 1, none⟩ (.int .i64 n)) g ⟨p, n⟩ := Rk.At.put k (⟨p, n⟩ : Im)
theorem id_grown (w : World) (g : Nat) (p : ByteArray) (n : Int) : w.grownBy ((w.setCell ⟨g, 0, none⟩ (.string p)).setCell ⟨g, 1, none⟩ (.int .i64 n)) (some g) := Rk.setCells_grown w g 0 [.string p, .int .i64 n]
theorem id_below {w0 w : World} {B g : Nat} (p : ByteArray) (n : Int) (h : Below B w0 w) (hg : B ≤ g) (hB : B ≤ w.heap.size) : Below B w0 ((w.setCell ⟨g, 0, none⟩ (.string p)).setCell ⟨g, 1, none⟩ (.int .i64 n)) :=
  h.grown (id_grown w g p n) hB fun k hk => by simp only [Option.some.injEq] at hk; omega
end Go.Proofs.YthenlajknoddcaaDoor
