/- Package op: what stands while an operation is read, part by part. Rows of operations. The statements' Light of layer 3 (other layers call it too). The statements' Light of layer 12. Patches and their bytes, plainly: which may be; one alone has given bytes. Words for memory: patches. What a patch that comes in holds. Light of layer 13. The reference's Put of an operation. The reference's Put of layer 13. A call hands back a row of ids of its own. The reference's Less, Has, Same of ids. -/
import Derived.Deep.MidRow
import Derived.StillTailTactics
import Derived.Deep.AppendLies
import Derived.WalkKit
import Derived.Handy
import Derived.Lib.Hide
import Derived.Deep.CutRange
import Derived.ChangeOld
import Derived.SliceStrings
import Derived.WideShapes
import Derived.Deep.Slices
import Derived.Deep.Fields
import Derived.ChangeSame
import Derived.ChangeArms
import Derived.SizedLaws
import Derived.BigRegion
import Derived.Deep.RegionWith
import Derived.BigQuiet
import Derived.Deep.QuietTactic
import Derived.Lib.QuietBelow
import Derived.Test.YtoajckhfnadhjaaGreatDoorCk06
namespace Go.Proofs.YtoajckhfnadhjaaGreatDoor
open Go.RowKit
set_option linter.unusedVariables false

/-- A variable of an operation with one part written over. -/
theorem op_put0 {w : World} {g : Nat} {x : Om} (h : OpAt w g x) (k : Int) : OpAt (w.setCell ⟨g, 0, none⟩ (.int .i64 k)) g { x with kind := k } := by
  have hk : w.heap[g]? = some (.cells x.cells.toArray 42 (0, 0)) := h
  show _ = some _
  simp [World.setCell, Array.getElem?_modify, hk, opR, Om.cells]
theorem op_put14 {w : World} {g : Nat} {x : Om} (h : OpAt w g x) (k : Int) : OpAt (w.setCell ⟨g, 14, none⟩ (.int .i64 k)) g { x with first := k } := by
  have hk : w.heap[g]? = some (.cells x.cells.toArray 42 (0, 0)) := h
  show _ = some _
  simp [World.setCell, Array.getElem?_modify, hk, opR, Om.cells]
theorem op_put7 {w : World} {g : Nat} {x : Om} (h : OpAt w g x) (s : ByteArray) : OpAt (w.setCell ⟨g, 7, none⟩ (.string s)) g { x with name := s } := by
  have hk : w.heap[g]? = some (.cells x.cells.toArray 42 (0, 0)) := h
  show _ = some _
  simp [World.setCell, Array.getElem?_modify, hk, opR, Om.cells]
theorem op_put8 {w : World} {g : Nat} {x : Om} (h : OpAt w g x) (s : ByteArray) : OpAt (w.setCell ⟨g, 8, none⟩ (.string s)) g { x with dname := s } := by
  have hk : w.heap[g]? = some (.cells x.cells.toArray 42 (0, 0)) := h
  show _ = some _
  simp [World.setCell, Array.getElem?_modify, hk, opR, Om.cells]
theorem op_put13 {w : World} {g : Nat} {x : Om} (h : OpAt w g x) (A : Option Addr) (l : List Im) (n c : Nat) (hn : n = l.length) : OpAt (w.setCell ⟨g, 13, none⟩ (.slice A n c)) g { x with a1 := A, dels := l, c1 := c } := by
  subst hn
  have hk : w.heap[g]? = some (.cells x.cells.toArray 42 (0, 0)) := h
  show _ = some _
  simp [World.setCell, Array.getElem?_modify, hk, opR, Om.cells]
theorem op_put15 {w : World} {g : Nat} {x : Om} (h : OpAt w g x) (A : Option Addr) (l : List (List UInt8)) (n c : Nat) (hn : n = l.length) : OpAt (w.setCell ⟨g, 15, none⟩ (.slice A n c)) g { x with a2 := A, lines := l, c2 := c } := by
  subst hn
  have hk : w.heap[g]? = some (.cells x.cells.toArray 42 (0, 0)) := h
  show _ = some _
  simp [World.setCell, Array.getElem?_modify, hk, opR, Om.cells]
/-- The world in which five ids were written into a variable of an operation. -/
abbrev put5 (w : World) (g : Nat) (a b c d e : Im) : World := (((((((((w.setCell ⟨g, 1, none⟩ (.string a.p)).setCell ⟨g, 2, none⟩ (.int .i64 a.n)).setCell ⟨g, 3, none⟩ (.string b.p)).setCell ⟨g, 4, none⟩ (.int .i64 b.n)).setCell ⟨g, 5, none⟩ (.string c.p)).setCell ⟨g, 6, none⟩ (.int .i64 c.n)).setCell ⟨g, 9, none⟩ (.string d.p)).setCell ⟨g, 10, none⟩ (.int .i64 d.n)).setCell ⟨g, 11, none⟩ (.string e.p)).setCell ⟨g, 12, none⟩ (.int .i64 e.n)
theorem op_put5 {w : World} {g : Nat} {x : Om} (h : OpAt w g x) (a b c d e : Im) : OpAt (put5 w g a b c d e) g { x with self := a, parent := b, dst := c, left := d, right := e } := by
  have hk : w.heap[g]? = some (.cells x.cells.toArray 42 (0, 0)) := h
  show _ = some _
  simp [put5, World.setCell, Array.getElem?_modify, hk, opR, Om.cells]
theorem grown_cell1 (w : World) (g i : Nat) (u : Value) : w.grownBy (w.setCell ⟨g, i, none⟩ u) (some g) := grownBy_set w g i u
theorem grown_put5 (w : World) (g : Nat) (a b c d e : Im) : w.grownBy (put5 w g a b c d e) (some g) :=
  Rk.grown_both (Rk.grown_both (Rk.grown_both (Rk.grown_both (Rk.grown_both (Rk.grown_both (Rk.grown_both (Rk.grown_both (Rk.grown_both (grownBy_set w g 1 _) (grownBy_set _ g 2 _)) (grownBy_set _ g 3 _)) (grownBy_set _ g 4 _)) (grownBy_set _ g 5 _)) (grownBy_set _ g 6 _)) (grownBy_set _ g 9 _)) (grownBy_set _ g 10 _)) (grownBy_set _ g 11 _)) (grownBy_set _ g 12 _)
/-- An array of five ids in a block. -/
def Arr (w : World) (g : Nat) (l : List Im) : Prop := w.heap[g]? = some (.cells (idR.cells l).toArray 85 (0, 0))
theorem Arr.lt {w : World} {g : Nat} {l : List Im} (h : Arr w g l) : g < w.heap.size := (Array.getElem?_eq_some_iff.1 h).1
theorem Arr.on {w w' : World} {g : Nat} {l : List Im} (h : Arr w g l) (hb : Below w.heap.size w w') : Arr w' g l := (hb.block g h.lt).trans h
theorem Arr.grown {w w' : World} {g : Nat} {l : List Im} {row : Option Nat} (h : Arr w g l) (hg : w.grownBy w' row) (hr : row ≠ some g) : Arr w' g l := (hg.block g h.lt (fun e => hr e.symm)).trans h
theorem Arr.fz {w : World} {g : Nat} {l : List Im} (h : Arr w g l) (i : Nat) : w.frozen? ⟨g, i, none⟩ = false := by
  have hk : w.heap[g]? = _ := h
  simp [World.frozen?, hk]
theorem Arr.cell {w : World} {g : Nat} {l : List Im} (h : Arr w g l) {j : Nat} (hj : j < l.length) : w.cell? ⟨g, j * 2, none⟩ = some (.string l[j].p) ∧ w.cell? ⟨g, j * 2 + 1, none⟩ = some (.int .i64 l[j].n) := by
  have hk : w.heap[g]? = _ := h
  have h0 := idR.cells_get l j hj 0 (by decide)
  have h1 := idR.cells_get l j hj 1 (by decide)
  constructor
  · simp only [World.cell?, hk]
    show (if _ then _ else _) = _
    simp
    exact h0
  · simp only [World.cell?, hk]
    show (if _ then _ else _) = _
    simp
    exact h1
theorem Arr.put {w : World} {g : Nat} {l : List Im} (h : Arr w g l) {j : Nat} (hj : j < l.length) (y : Im) : Arr ((w.setCell ⟨g, j * 2, none⟩ (.string y.p)).setCell ⟨g, j * 2 + 1, none⟩ (.int .i64 y.n)) g (l.set j y) := by
  have hk : w.heap[g]? = some (.cells (idR.cells l).toArray 85 (0, 0)) := h
  unfold Arr
  have hs : idR.cells (l.set j y) = Rk.over (idR.cells l) (j * idR.k) (idR.enc y) := Rk.cells_set l j y hj
  rw [hs]
  show _ = some (Obj.cells (((idR.cells l).set (j * 2) (.string y.p)).set (j * 2 + 1) (.int .i64 y.n)).toArray _ _)
  simp [World.setCell, Array.getElem?_modify, hk]
theorem owns_grown {w w' : World} {B : Nat} {v : Value} {ls : List (List UInt8)} {row : Option Nat} (h : OwnS w B v ls) (hg : w.grownBy w' row) (hr : ∀ k, v.ownBlock = some k → row ≠ some k) : OwnS w' B v ls :=
  World.ownsRow.kept h (row := row) hg (by
    cases e : v.ownBlock with
    | none => simp
    | some k => have := hr k e; simpa using fun h => this h.symm)
theorem owns_in {w : World} {B : Nat} {v : Value} {ls : List (List UInt8)} (h : OwnS w B v ls) : ∀ k, v.ownBlock = some k → B ≤ k ∧ k < w.heap.size := fun k hk => World.ownsRow.lt h k hk
theorem elem_strs : Tryz.prog.elem 22 = 9 := by kernel_rfl
theorem strs_und : Tryz.prog.underlying 22 = some (.slice (Tryz.prog.elem 22)) := by
  rw [elem_strs]
  exact Tryz.underlying22
theorem size_str (W : World) : (sizeOf 9).run Tryz.prog W = .ok 1 W := by
  cases h : Tryz.prog.info? 9 with
  | some i =>
    have h2 : (Tryz.prog.info? 9).map (·.size) = some 1 := by kernel_rfl
    rw [h] at h2
    simp only [Option.map_some, Option.some.injEq] at h2
    simp [sizeOf, typeInfo, h, h2, Sem.run_bind]
  | none => exact absurd h (by have h2 : (Tryz.prog.info? 9).isSome = true := by kernel_rfl
                               intro h3; rw [h3] at h2; cases h2)
theorem str_indexAt {A : Option Addr} {b off n c k : Nat} (e : A = some ⟨b, off, none⟩) (hk : k < n) (W : World) : (Instr.indexAt 22 (.slice A n c) (.int .i64 (k : Int))).run Tryz.prog W = .ok (.pointer (some ⟨b, off + k, none⟩)) W := by
  subst e
  rw [run_indexAt_slice (h := strs_und), if_pos (by omega), elem_strs, size_str, Result.andThen_ok]
  have e2 : (⟨b, off, none⟩ : Addr).add ((k : Int).toNat * 1) = ⟨b, off + k, none⟩ := by unfold Addr.add; split <;> simp_all
  rw [e2]
theorem still_load_op {w : World} {ops : Array Oper} {o : Oper} {a : Act} {K : Act → Prop} {E : Prop} (hgd : o.guard = none) (x : Operand) (ho : o.op = .load 42 x) (g : Nat) (z : Om)
    (hx : a.eval x = .pointer (some ⟨g, 0, none⟩)) (hz : OpAt w g z) (h : K (a.put o.dst z.val)) : if Region.wanted o (yielded ops a.tmps) = true then o.still Tryz.prog a w K else E := by
  have hw : Region.wanted o (yielded ops a.tmps) = true := by simp [Region.wanted, hgd]
  rw [if_pos hw]
  unfold Oper.still execOp
  simp only [ho, hx, Instr.loadAt, Instr.sureAddr, Sem.run_bind, Sem.run_pure, Result.andThen_ok, load_op hz]
  exact ⟨rfl, h⟩
theorem op_there {w : World} {g : Nat} {z : Om} (h : OpAt w g z) : w.there g 0 16 := fun j hj => by
  have hl : j < (opR.enc z).length := hj
  refine ⟨?_, by rw [Nat.zero_add]; exact Rk.At.fz h j⟩
  rw [Nat.zero_add, h.cell (r := j) (u := (opR.enc z)[j]) (List.getElem?_eq_getElem hl)]
  rfl
theorem wpList_load_op {ops : Array Oper} {rest : List Oper} {op : Oper} {a : Act} {w : World} {Q : Exit → Act → World → Prop} (hgd : op.guard = none) (x : Operand) (ho : op.op = .load 42 x) (g : Nat) (z : Om)
    (hx : a.eval x = .pointer (some ⟨g, 0, none⟩)) (hz : OpAt w g z) (h : wpList Tryz.prog ops Q rest (a.put op.dst z.val) w) : wpList Tryz.prog ops Q (op :: rest) a w :=
  wpList_load_mid hgd 42 x ho g 0 hx z.cells _ (fun j v hv => by rw [Nat.zero_add]; exact hz.cell hv) Tryz.underlying42 rfl sized_op h
theorem wpList_store_op {ops : Array Oper} {rest : List Oper} {op : Oper} {a : Act} {w : World} {Q : Exit → Act → World → Prop} (hgd : op.guard = none) (x y : Operand) (ho : op.op = .store 42 x y) (g : Nat) (z0 z : Om)
    (hx : a.eval x = .pointer (some ⟨g, 0, none⟩)) (hy : a.eval y = z.val) (hz : OpAt w g z0) (h : wpList Tryz.prog ops Q rest (a.put op.dst undef) (w.setCells g 0 z.cells)) : wpList Tryz.prog ops Q (op :: rest) a w :=
  wpList_store_mid hgd 42 x y ho g 0 z.cells.toArray hx hy (op_there hz) sized_op (by
    rw [Array.all_eq_true_iff_forall_mem]
    intro u hu
    have h2 : u ∈ z.cells := by simpa using hu
    exact opR.one z u h2) h
/-- An operation's rows are of the call's own. -/
structure Om.Sep (z : Om) (w : World) (B : Nat) : Prop where
  dels : OwnId w B (.slice z.a1 z.dels.length z.c1) z.dels
  lines : OwnS w B (.slice z.a2 z.lines.length z.c2) z.lines
theorem Om.Sep.ok {z : Om} {w : World} {B : Nat} (h : z.Sep w B) : z.Ok w w.heap.size := ⟨h.dels.parts.2.1, h.dels.parts.2.2.1, h.lines.at_.1, h.lines.at_.2.1⟩
theorem Om.Sep.on {z : Om} {w w' : World} {B : Nat} (h : z.Sep w B) (hb : Below w.heap.size w w') : z.Sep w' B := ⟨h.dels.kept hb, h.lines.kept hb⟩
theorem Om.Sep.grown {z : Om} {w w' : World} {B g : Nat} (h : z.Sep w B) (hg : w.grownBy w' (some g)) (hB : g < B) : z.Sep w' B :=
  ⟨Rk.Own.grown h.dels hg (fun q hq e => by have h1 := h.dels.block q hq; simp only [Option.some.injEq] at e; omega), owns_grown h.lines hg (fun q hq e => by have h1 := (owns_in h.lines q hq).1; simp only [Option.some.injEq] at e; omega)⟩
theorem wrap_is (n : Int) : IntKind.i64.wrap n = wrap64 n := by
  simp [IntKind.wrap, wrap64, IntKind.bits, IntKind.signed]
  split <;> omega
theorem imOf_short (l : List UInt8) : (imOf (idOfK l)).p.size ≤ 40 := by
  show (toB _).size ≤ 40
  rw [toB_size]
  exact idOfK_short l
/-- Nothing was read yet. -/
def zeroM : Om := ⟨0, ⟨⟨#[]⟩, 0⟩, ⟨⟨#[]⟩, 0⟩, ⟨⟨#[]⟩, 0⟩, ⟨#[]⟩, ⟨#[]⟩, ⟨⟨#[]⟩, 0⟩, ⟨⟨#[]⟩, 0⟩, none, 0, [], 0, none, 0, []⟩
/-- Where all lies: the function's box, the reader, the result, the variable. -/
structure PL (w : World) (b g o1 o : Nat) : Prop where
  fn : FnAt w b g
  o1l : w.heap.size ≤ o1
  ol : w.heap.size ≤ o
  ne : o1 ≠ o
/-- What stands while the parts are read. -/
structure PS (w : World) (b g o1 o : Nat) (W : World) (s : St) (z : Om) : Prop where
  grown : w.grownBy W (some g)
  rd : RdS W g s
  res : OpAt W o1 zeroM
  op : OpAt W o z
theorem cell_same {w w' : World} {b i : Nat} (h : w'.heap[b]? = w.heap[b]?) : w'.cell? ⟨b, i, none⟩ = w.cell? ⟨b, i, none⟩ := by
  simp [World.cell?, h]
section
variable {w W W' : World} {b g o1 o : Nat} {s s' : St} {z z' : Om}
theorem PS.box (L : PL w b g o1 o) (h : PS w b g o1 o W s z) : W.cell? ⟨b, 0, none⟩ = some (.pointer (some ⟨g, 0, none⟩)) :=
  (cell_same (h.grown.block b L.fn.bl (fun e => L.fn.bg (by injection e)))).trans L.fn.box
theorem PS.read (L : PL w b g o1 o) (h : PS w b g o1 o W s z) (hr : RdS W' g s') (hg : W.grownBy W' (some g)) : PS w b g o1 o W' s' z :=
  ⟨Rk.grown_both h.grown hg, hr, h.res.grown hg (fun e => by have := L.o1l; have := L.fn.gl; simp only [Option.some.injEq] at e; omega), h.op.grown hg (fun e => by have := L.ol; have := L.fn.gl; simp only [Option.some.injEq] at e; omega)⟩
theorem PS.on (h : PS w b g o1 o W s z) (hb : Below W.heap.size W W') : PS w b g o1 o W' s z := ⟨Rk.grown_below h.grown hb, h.rd.below hb, h.res.on hb, h.op.on hb⟩
theorem PS.put (L : PL w b g o1 o) (h : PS w b g o1 o W s z) (hz : OpAt W' o z') (hg : W.grownBy W' (some o)) : PS w b g o1 o W' s z' := by
  have h1 := L.ol
  have h2 := L.fn.gl
  refine ⟨⟨hg.os.trans h.grown.os, hg.tape.trans h.grown.tape, hg.output.trans h.grown.output, Nat.le_trans h.grown.size hg.size, fun k hk hne => (hg.block k (Nat.lt_of_lt_of_le hk h.grown.size) (fun e => by simp only [Option.some.injEq] at e; omega)).trans (h.grown.block k hk hne)⟩, ?_, h.res.grown hg (fun e => L.ne (by simp only [Option.some.injEq] at e; exact e.symm)), hz⟩
  exact (hg.block g (Nat.lt_of_lt_of_le h2 h.grown.size) (fun e => by simp only [Option.some.injEq] at e; omega)).trans h.rd
/-- .. and an array of one's own is written into. -/
theorem PS.arr {a : Nat} (L : PL w b g o1 o) (h : PS w b g o1 o W s z) (ha : w.heap.size ≤ a) (h1 : a ≠ o1) (h2 : a ≠ o) (hg : W.grownBy W' (some a)) : PS w b g o1 o W' s z := by
  have h3 := L.fn.gl
  refine ⟨⟨hg.os.trans h.grown.os, hg.tape.trans h.grown.tape, hg.output.trans h.grown.output, Nat.le_trans h.grown.size hg.size, fun k hk hne => (hg.block k (Nat.lt_of_lt_of_le hk h.grown.size) (fun e => by simp only [Option.some.injEq] at e; omega)).trans (h.grown.block k hk hne)⟩, ?_, h.res.grown hg (fun e => h1 (by simp only [Option.some.injEq] at e; exact e)), h.op.grown hg (fun e => h2 (by simp only [Option.some.injEq] at e; exact e))⟩
  exact (hg.block g (Nat.lt_of_lt_of_le h3 h.grown.size) (fun e => by simp only [Option.some.injEq] at e; omega)).trans h.rd
/-- .. and a row of one's own has grown. -/
theorem PS.own {row : Option Nat} (L : PL w b g o1 o) (h : PS w b g o1 o W s z) (hr : ∀ k, row = some k → w.heap.size ≤ k ∧ k ≠ o1 ∧ k ≠ o) (hg : W.grownBy W' row) : PS w b g o1 o W' s z := by
  have h3 := L.fn.gl
  refine ⟨⟨hg.os.trans h.grown.os, hg.tape.trans h.grown.tape, hg.output.trans h.grown.output, Nat.le_trans h.grown.size hg.size, fun k hk hne => (hg.block k (Nat.lt_of_lt_of_le hk h.grown.size) (fun e => by have := hr k e.symm; omega)).trans (h.grown.block k hk hne)⟩, ?_, h.res.grown hg (fun e => (hr o1 e).2.1 rfl), h.op.grown hg (fun e => (hr o e).2.2 rfl)⟩
  exact (hg.block g (Nat.lt_of_lt_of_le h3 h.grown.size) (fun e => by have := hr g e.symm; omega)).trans h.rd
/-- .. and the result is written. -/
theorem PS.fin (L : PL w b g o1 o) (h : PS w b g o1 o W s z) (hg : W.grownBy W' (some o1)) : w.grownBy W' (some g) := by
  have h1 := L.o1l
  exact ⟨hg.os.trans h.grown.os, hg.tape.trans h.grown.tape, hg.output.trans h.grown.output, Nat.le_trans h.grown.size hg.size, fun k hk hne => (hg.block k (Nat.lt_of_lt_of_le hk h.grown.size) (fun e => by simp only [Option.some.injEq] at e; omega)).trans (h.grown.block k hk hne)⟩
/-- The library's tables lie there still. -/
theorem PS.nums {W0 : World} (h : PS w b g o1 o W s z) (hN : Nums W0) (hb : Below W0.heap.size W0 w) (hg : W0.heap.size ≤ g) : Nums W :=
  hN.on (below_of_grownBy hb h.grown hg hb.size)
end
end Go.Proofs.YtoajckhfnadhjaaGreatDoor
namespace Go.Proofs.YtoajckhfnadhjaaGreatDoor
open Go.RowKit
set_option linter.unusedVariables false

def okeys (l : List Om) : List OpK := l.map Om.key
/-- Operations lie at A, their rows with them. -/
def Ops (w : World) (B : Nat) (A : Option Addr) (l : List Om) : Prop := opR.Row w B A l ∧ ∀ x ∈ l, x.Ok w B
theorem Ops.on {w w' : World} {A : Option Addr} {l : List Om} (h : Ops w w.heap.size A l) (hb : Below w.heap.size w w') : Ops w' w'.heap.size A l := ⟨h.1.on hb, fun x hx => (h.2 x hx).on hb⟩
/-- None has far too many lines, or ids. -/
def OpsFew (l : List Om) : Prop := ∀ x ∈ l, x.dels.length ≤ 900000 ∧ x.lines.length ≤ 900000
end Go.Proofs.YtoajckhfnadhjaaGreatDoor
namespace Go.Proofs.YtoajckhfnadhjaaGreatDoor
open Go.RowKit
set_option linter.unusedVariables false

/-- Texts that are not far too many. -/
def light3B (ss : List ByteArray) : Bool := ss.all (fun s => decide (s.size ≤ 300)) && decide (ss.length ≤ 60)
theorem light3B_len {ss : List ByteArray} (h : light3B ss = true) : ss.length ≤ 60 := by
  unfold light3B at h
  simp at h
  exact h.2

end Go.Proofs.YtoajckhfnadhjaaGreatDoor
namespace Go.Proofs.YtoajckhfnadhjaaGreatDoor
open Go.RowKit
set_option linter.unusedVariables false

/-- An operation that comes in: none of its texts is larger than memory. -/
structure Om.In (x : Om) : Prop where
  name : x.name.size ≤ 140737488351232
  dname : x.dname.size ≤ 140737488351232
  self : x.self.p.size ≤ 140737488351232
  parent : x.parent.p.size ≤ 140737488351232
  dst : x.dst.p.size ≤ 140737488351232
  left : x.left.p.size ≤ 140737488351232
  right : x.right.p.size ≤ 140737488351232
  few : x.dels.length ≤ 9223372036854775807
  rows : x.lines.length ≤ 9223372036854775807
/-- An operation that is not far too large. -/
structure Om.Lt (x : Om) : Prop where
  name : x.name.size ≤ 400
  dname : x.dname.size ≤ 400
  self : x.self.p.size ≤ 400
  parent : x.parent.p.size ≤ 400
  dst : x.dst.p.size ≤ 400
  left : x.left.p.size ≤ 400
  right : x.right.p.size ≤ 400
  few : x.dels.length ≤ 40
  lines : light3B (toBs x.lines) = true
  dels : ∀ i ∈ x.dels, i.p.size ≤ 100
end Go.Proofs.YtoajckhfnadhjaaGreatDoor
namespace Go.Proofs.YtoajckhfnadhjaaGreatDoor
open Go.RowKit
set_option linter.unusedVariables false

/-- A patch: its name, the patches that it hangs on, its operations. -/
structure PatK where
  name : List UInt8
  deps : List (List UInt8)
  ops : List OpK
deriving DecidableEq
def PatK.zero : PatK := ⟨[], [], []⟩
/-- What operations of a patch make. -/
def madeP (name : List UInt8) (ops : List OpK) : List Ik := ops.flatMap (comesO name)
/-- Is an id that an operation names made so far, or of a patch that is hung on? -/
def knownI (name : List UInt8) (deps : List (List UInt8)) (made : List Ik) (i : Ik) : Bool := if i.1 = name then decide (i ∈ made) else decide (i.1 ∈ deps)
/-- May each operation be, behind those that are done? -/
def asksP (name : List UInt8) (deps : List (List UInt8)) : List OpK → List OpK → Bool
  | _, [] => true
  | d, o :: r => mayO o && (idsO o).all (knownI name deps (madeP name (d ++ [o]))) && asksP name deps (d ++ [o]) r
/-- Are the ids that are made of the patch, none too great, none twice? -/
def ownP (name : List UInt8) (l : List Ik) : Bool := l.all (fun i => decide (i.1 = name ∧ i.2 ≤ 1048576)) && decide l.Nodup
/-- May a patch be, whose names are names? -/
def mayP (p : PatK) : Bool := decide (setS p.deps = p.deps) && decide (p.name ∉ p.deps) && decide (p.ops.length ≤ 2000) && asksP p.name p.deps [] p.ops && ownP p.name (madeP p.name p.ops)
def namesP13 (p : PatK) : Bool := nameK p.name && p.deps.all nameK
/-- What is wrong with a patch: 7, a name; 2, it may not be; 0. -/
def checkP (p : PatK) : Int := if namesP13 p then (if mayP p then 0 else 2) else 7
/-- Its bytes. -/
def putP (p : PatK) : List UInt8 := textB p.name ++ (listB p.deps ++ (listB (p.ops.map putO) ++ []))

theorem checkP_ok {p : PatK} : checkP p = 0 ↔ namesP13 p = true ∧ mayP p = true := by
  unfold checkP
  cases namesP13 p <;> cases mayP p <;> simp
theorem asks_may (name : List UInt8) (deps : List (List UInt8)) : ∀ (l d : List OpK), asksP name deps d l = true → ∀ o ∈ l, mayO o = true
  | [], _, _, _, h => absurd h (by simp)
  | a :: l, d, h, o, ho => by
    unfold asksP at h
    simp only [Bool.and_eq_true] at h
    rcases List.mem_cons.1 ho with rfl | ho
    · exact h.1.1
    · exact asks_may name deps l _ h.2 o ho
theorem may_ops {p : PatK} (h : mayP p = true) : ∀ o ∈ p.ops, mayO o = true := by
  unfold mayP at h
  simp only [Bool.and_eq_true] at h
  exact asks_may _ _ _ _ h.1.2
theorem may_few {p : PatK} (h : mayP p = true) : p.ops.length ≤ 2000 := by
  unfold mayP at h
  simp only [Bool.and_eq_true, decide_eq_true_eq] at h
  exact h.1.1.2
theorem textsB_le (n : Nat) : ∀ (l : List (List UInt8)), (∀ x ∈ l, x.length ≤ n) → (textsB l).length ≤ (10 + n) * l.length
  | [], _ => by simp [textsB]
  | a :: l, h => by
    have h1 := textsB_le n l fun x hx => h x (List.mem_cons_of_mem _ hx)
    have h2 := h a (by simp)
    have h3 := numB_len a.length
    rw [show textsB (a :: l) = (numB a.length ++ a) ++ textsB l from rfl, List.length_append, List.length_append, List.length_cons, Nat.mul_succ]
    omega
theorem textB_le (l : List UInt8) : (textB l).length ≤ 10 + l.length := by
  have := numB_len l.length
  rw [show textB l = numB l.length ++ l from rfl, List.length_append]
  omega
theorem listB_le (n : Nat) (l : List (List UInt8)) (h : ∀ x ∈ l, x.length ≤ n) : (listB l).length ≤ 10 + (10 + n) * l.length := by
  have h1 := numB_len l.length
  have h2 := textsB_le n l h
  rw [show listB l = numB l.length ++ textsB l from rfl, List.length_append]
  omega
theorem textK_le (k : Ik) (h : okK k = true) : (textK k).length ≤ 48 := textK_few h
theorem putO_le {o : OpK} (h : mayO o = true) : (putO o).length ≤ 20 + 5 * 58 + 100 + (10 + 58 * o.dels.length) + (10 + 210 * o.lines.length) ∧ o.dels.length ≤ 2000 ∧ o.lines.length ≤ 2000 := by
  obtain ⟨k, f, a1, a2, a3, a4, a5, n1, m1, c1, d1, l1⟩ := op_ok h
  obtain ⟨la, lb⟩ := lines_few l1
  have e1 := numB_len o.kind.toNat
  have e2 := numB_len o.first.toNat
  have t1 := textB_le (textK o.self)
  have t2 := textB_le (textK o.parent)
  have t3 := textB_le (textK o.dst)
  have t4 := textB_le (textK o.left)
  have t5 := textB_le (textK o.right)
  have t6 := textB_le o.name
  have t7 := textB_le o.dname
  have k1 := textK_le _ a1
  have k2 := textK_le _ a2
  have k3 := textK_le _ a3
  have k4 := textK_le _ a4
  have k5 := textK_le _ a5
  have d2 := listB_le 48 (o.dels.map textK) (by intro x hx; obtain ⟨k, hk, rfl⟩ := List.mem_map.1 hx; exact textK_le k (d1 k hk))
  rw [List.length_map] at d2
  have l2 := listB_le 200 o.lines lb
  refine ⟨?_, c1, la⟩
  unfold putO
  simp only [List.length_append, List.length_nil]
  omega
theorem map_putO : ∀ {a b : List OpK}, (∀ k ∈ a, mayO k = true) → (∀ k ∈ b, mayO k = true) → a.map putO = b.map putO → a = b
  | [], [], _, _, _ => rfl
  | [], _ :: _, _, _, h => by simp at h
  | _ :: _, [], _, _, h => by simp at h
  | x :: a, y :: b, ha, hb, h => by
    simp only [List.map_cons, List.cons.injEq] at h
    rw [putO_inj (ha x (by simp)) (hb y (by simp)) h.1, map_putO (fun k hk => ha k (List.mem_cons_of_mem _ hk)) (fun k hk => hb k (List.mem_cons_of_mem _ hk)) h.2]
/-- The bytes are one patch's alone. -/
theorem putP_inj {a b : PatK} (ha : checkP a = 0) (hb : checkP b = 0) (la : a.deps.length ≤ 9223372036854775807) (lb : b.deps.length ≤ 9223372036854775807) (h : putP a = putP b) : a = b := by
  obtain ⟨na, ma⟩ := checkP_ok.1 ha
  obtain ⟨nb, mb⟩ := checkP_ok.1 hb
  unfold namesP13 at na nb
  simp only [Bool.and_eq_true, List.all_eq_true] at na nb
  have oa := may_ops ma
  have ob := may_ops mb
  have fa := may_few ma
  have fb := may_few mb
  have big : ∀ {l : List OpK}, (∀ o ∈ l, mayO o = true) → ∀ x ∈ l.map putO, x.length < 18446744073709551616 := fun hl x hx => by
    obtain ⟨o, ho, rfl⟩ := List.mem_map.1 hx
    obtain ⟨h1, h2, h3⟩ := putO_le (hl o ho)
    omega
  have nm : ∀ {l : List UInt8}, nameK l = true → l.length < 18446744073709551616 := fun h => Nat.lt_of_le_of_lt (name_len h) (by decide)
  unfold putP at h
  obtain ⟨e1, h⟩ := textB_cut (nm na.1) (nm nb.1) h
  obtain ⟨e2, h⟩ := listB_cut (by omega) (fun x hx => nm (na.2 x hx)) (by omega) (fun x hx => nm (nb.2 x hx)) h
  obtain ⟨e3, h⟩ := listB_cut (by rw [List.length_map]; omega) (big oa) (by rw [List.length_map]; omega) (big ob) h
  have e4 := map_putO oa ob e3
  cases a
  cases b
  simp_all
end Go.Proofs.YtoajckhfnadhjaaGreatDoor
namespace Go.Proofs.YtoajckhfnadhjaaGreatDoor
open Go.RowKit
set_option linter.unusedVariables false

/-- A patch as it lies. -/
structure Ptm where
  name : ByteArray
  a1 : Option Addr
  c1 : Nat
  deps : List (List UInt8)
  a2 : Option Addr
  c2 : Nat
  ops : List Om
def Ptm.key (x : Ptm) : PatK := ⟨x.name.data.toList, x.deps, okeys x.ops⟩
def Ptm.cells (x : Ptm) : List Value := [.string x.name, .slice x.a1 x.deps.length x.c1, .slice x.a2 x.ops.length x.c2]
def Ptm.val (x : Ptm) : Value := .agg x.cells.toArray
/-- Its rows lie below B. -/
structure Ptm.Ok (x : Ptm) (w : World) (B : Nat) : Prop where
  deps : Strs w B x.a1 (toBs x.deps)
  room1 : Room x.a1 x.deps.length x.c1
  ops : Ops w B x.a2 x.ops
  room2 : Room x.a2 x.ops.length x.c2
theorem Ptm.Ok.on {x : Ptm} {w w' : World} (h : x.Ok w w.heap.size) (hb : Below w.heap.size w w') : x.Ok w' w'.heap.size := ⟨h.deps.on hb, h.room1, h.ops.on hb, h.room2⟩
/-- Its texts and rows are what Go may hold. -/
structure Ptm.Sz (x : Ptm) : Prop where
  name : x.name.size ≤ 9223372036854775807
  few : x.deps.length ≤ 100000
  deps : ∀ d ∈ x.deps, d.length ≤ 9223372036854775807
  many : x.ops.length ≤ 100000
  ops : ∀ o ∈ x.ops, o.Sz
/-- A variable of a patch: its three cells. -/
structure PatB (w : World) (g : Nat) (u0 u1 u2 : Value) : Prop where
  blk : w.heap[g]? = some (.cells #[u0, u1, u2] 25 (0, 0))
theorem PatB.lt {w : World} {g : Nat} {u0 u1 u2 : Value} (h : PatB w g u0 u1 u2) : g < w.heap.size := (Array.getElem?_eq_some_iff.1 h.blk).1
theorem PatB.on {w w' : World} {g : Nat} {u0 u1 u2 : Value} (h : PatB w g u0 u1 u2) (hb : Below w.heap.size w w') : PatB w' g u0 u1 u2 := ⟨(hb.block g h.lt).trans h.blk⟩
theorem PatB.c0 {w : World} {g : Nat} {u0 u1 u2 : Value} (h : PatB w g u0 u1 u2) : w.cell? ⟨g, 0, none⟩ = some u0 := by simp [World.cell?, h.blk]
theorem PatB.c1 {w : World} {g : Nat} {u0 u1 u2 : Value} (h : PatB w g u0 u1 u2) : w.cell? ⟨g, 1, none⟩ = some u1 := by simp [World.cell?, h.blk]
theorem PatB.c2 {w : World} {g : Nat} {u0 u1 u2 : Value} (h : PatB w g u0 u1 u2) : w.cell? ⟨g, 2, none⟩ = some u2 := by simp [World.cell?, h.blk]
theorem PatB.fz {w : World} {g : Nat} {u0 u1 u2 : Value} (h : PatB w g u0 u1 u2) (i : Nat) : w.frozen? ⟨g, i, none⟩ = false := by simp [World.frozen?, h.blk]
theorem patb_box (w : World) (u0 u1 u2 : Value) : Below w.heap.size w (w.alloc (.cells #[u0, u1, u2] 25)) ∧ PatB (w.alloc (.cells #[u0, u1, u2] 25)) w.heap.size u0 u1 u2 :=
  ⟨(Below.refl _ _).alloc (Nat.le_refl _) _, ⟨heap_alloc_new w _⟩⟩
abbrev PatAt (w : World) (g : Nat) (x : Ptm) : Prop := PatB w g (.string x.name) (.slice x.a1 x.deps.length x.c1) (.slice x.a2 x.ops.length x.c2)
theorem pat_box (w : World) (x : Ptm) : Below w.heap.size w (w.alloc (.cells #[.string x.name, .slice x.a1 x.deps.length x.c1, .slice x.a2 x.ops.length x.c2] 25)) ∧ PatAt (w.alloc (.cells #[.string x.name, .slice x.a1 x.deps.length x.c1, .slice x.a2 x.ops.length x.c2] 25)) w.heap.size x :=
  patb_box w _ _ _
theorem Ops.take {w : World} {B : Nat} {A : Option Addr} {l : List Om} (h : Ops w B A l) (n : Nat) : Ops w B A (l.take n) := ⟨h.1.take n, fun x hx => h.2 x (List.mem_of_mem_take hx)⟩
theorem okeys_take (l : List Om) (k : Nat) : okeys (l.take k) = (okeys l).take k := by simp [okeys, List.map_take]
theorem okeys_len (l : List Om) : (okeys l).length = l.length := by simp [okeys]
end Go.Proofs.YtoajckhfnadhjaaGreatDoor
namespace Go.Proofs.YtoajckhfnadhjaaGreatDoor
open Go.ChangeShapes Go.WideShapes Go.RowKit
set_option linter.unusedVariables false

/-- A patch that came in: its texts' and rows' lengths. -/
structure Ptm.In (x : Ptm) : Prop where
  name : x.name.size ≤ 140737488351232
  few : x.deps.length ≤ 9223372036854775807
  many : x.ops.length ≤ 9223372036854775807
  ops : ∀ o ∈ x.ops, o.In
end Go.Proofs.YtoajckhfnadhjaaGreatDoor
namespace Go.Proofs.YtoajckhfnadhjaaGreatDoor
open Go.RowKit
set_option linter.unusedVariables false

/-- A patch that is not far too great. -/
structure Ptm.Lt (x : Ptm) : Prop where
  name : x.name.size ≤ 100
  few : x.deps.length ≤ 60
  many : x.ops.length ≤ 30
  deps : ∀ d ∈ x.deps, d.length ≤ 100
  ops : ∀ o ∈ x.ops, o.Lt
end Go.Proofs.YtoajckhfnadhjaaGreatDoor
namespace Go.Proofs.YtoajckhfnadhjaaGreatDoor
open Go.RowKit
open Go.Sort
set_option linter.unusedVariables false

theorem add_q (a b t : ByteArray) (h : a ++ b = t) (hs : a.size + b.size ≤ 1000000000) (W : World) : (binOp .add 9 (.string a) (.string b)).run Tryz.prog W = .ok (.string t) W := by
  subst h
  simp [go_sem]
  omega
theorem ikeys_tk (l : List Im) (k : Nat) (h : k < l.length) : ikeys (l.take (k + 1)) = ikeys (l.take k) ++ [l[k].key] := by
  unfold ikeys
  rw [List.take_succ_eq_append_getElem h, List.map_append]
  rfl
theorem toB_list (l : List UInt8) : (toB l).data.toList = l := by simp [toB]
theorem textK_short (k : Ik) : (textK k).length ≤ 48 := by
  cases h : okK k
  · rw [textK_no h]; simp
  · exact textK_few h
theorem textB_len (l : List UInt8) : (textB l).length ≤ 10 + l.length := by
  have := numB_len l.length
  rw [show textB l = numB l.length ++ l from rfl, List.length_append]
  omega
theorem textsK_len (l : List Ik) : (textsB (l.map textK)).length ≤ 58 * l.length := by
  induction l with
  | nil => simp [textsB]
  | cons a l ih =>
    have h1 := textB_len (textK a)
    have h2 := textK_short a
    rw [List.map_cons, show textsB (textK a :: l.map textK) = textB (textK a) ++ textsB (l.map textK) from rfl, List.length_append, List.length_cons]
    omega
/-- What the reference's Put wants of an operation. -/
structure Om.Pu (x : Om) : Prop where
  kind : 0 ≤ x.kind ∧ x.kind ≤ 5
  first : 0 ≤ x.first ∧ x.first ≤ 1048576
  self : x.self.p.size ≤ 1000000
  parent : x.parent.p.size ≤ 1000000
  dst : x.dst.p.size ≤ 1000000
  left : x.left.p.size ≤ 1000000
  right : x.right.p.size ≤ 1000000
  name : x.name.size ≤ 1000000
  dname : x.dname.size ≤ 1000000
  few : x.dels.length ≤ 2000
  dels : ∀ i ∈ x.dels, i.p.size ≤ 1000000
  rows : x.lines.length ≤ 900000
  bytes : (textsB x.lines).length ≤ 100000000
end Go.Proofs.YtoajckhfnadhjaaGreatDoor
namespace Go.Proofs.YtoajckhfnadhjaaGreatDoor
open Go.RowKit
open Go.Sort
set_option linter.unusedVariables false

theorem op_rngp {w : World} {b o k : Nat} {x : Om} (h : ∀ (r : Nat) (u : Value), (opR.enc x)[r]? = some u → w.cell? ⟨b, o + k * opR.k + r, none⟩ = some u) : w.rangeAt b (o + k * 16) x.cells := fun j v hv => h j v hv
theorem wpList_load_opr {ops : Array Oper} {rest : List Oper} {op : Oper} {a : Act} {w : World} {Q : Exit → Act → World → Prop} (x : Operand) (b o : Nat) (z : Om) (hz : w.rangeAt b o z.cells) (ho : op.op = .load 42 x) (hw : Region.wanted op (yielded ops a.tmps) = true)
    (hx : a.eval x = .pointer (some ⟨b, o, none⟩)) (h : wpList Tryz.prog ops Q rest (a.put op.dst z.val) w) : wpList Tryz.prog ops Q (op :: rest) a w :=
  wpList_step fun K hK => by
    simp only [hw, if_true]
    exact wp_load_mid 42 x ho b o hx z.cells _ hz Tryz.underlying42 rfl (by kernel_rfl) (hK _ _ h)
/-- What the reference's Put wants of a patch. -/
structure Ptm.Pu (x : Ptm) : Prop where
  name : x.name.size ≤ 1000000
  few : x.deps.length ≤ 900000
  bytes : (textsB x.deps).length ≤ 100000000
  many : x.ops.length ≤ 2000
  ops : ∀ o ∈ x.ops, o.Pu
  out : (textsB ((okeys x.ops).map putO)).length ≤ 100000000
end Go.Proofs.YtoajckhfnadhjaaGreatDoor
namespace Go.Proofs.YtoajckhfnadhjaaGreatDoor
open Go.RowKit
set_option linter.unusedVariables false

/-- A call hands back ids, that it made. -/
def IdsLeft (w : World) (ks : List Ik) (e : Ending) (w' : World) : Prop := ∃ (A : Option Addr) (n c : Nat) (l : List Im), e = .returned (.slice A n c) ∧ ikeys l = ks ∧ OwnId w' w.heap.size (.slice A n c) l ∧ Below w.heap.size w w'
theorem ikeys_take_succ (l : List Im) (k : Nat) (h : k < l.length) : ikeys (l.take (k + 1)) = ikeys (l.take k) ++ [l[k].key] := by
  rw [List.take_succ_eq_append_getElem h, ikeys, List.map_append]
  rfl
end Go.Proofs.YtoajckhfnadhjaaGreatDoor
namespace Go.Proofs.YtoajckhfnadhjaaGreatDoor
open Go.RowKit
set_option linter.unusedVariables false

theorem ltI_eq (p : ByteArray) (n m : Int) : decide (ltI (Im.key ⟨p, n⟩) (Im.key ⟨p, m⟩)) = decide (n < m) := by
  unfold ltI Im.key
  refine decide_eq_decide.2 ⟨fun h => ?_, fun h => .inr ⟨rfl, h⟩⟩
  rcases h with h | h
  · exact absurd h (t_irrefl _)
  · exact h.2
theorem ltI_ne {p q : ByteArray} (h : p ≠ q) (n m : Int) : decide (ltI (Im.key ⟨p, n⟩) (Im.key ⟨q, m⟩)) = Op.bytesLess p.toList q.toList := by
  rw [bytesLess_eq, toList_eq, toList_eq]
  unfold ltI Im.key
  exact decide_eq_decide.2 ⟨fun h2 => h2.elim id fun h3 => absurd (bytes_inj h3.1) h, .inl⟩

set_option maxHeartbeats 2000000 in
set_option maxRecDepth 100000 in
theorem refiless_any (x y : Im) (w : World) :
    Calls Tryz.prog 55 #[x.val, y.val] w fun e w' => e = .returned (.bool (decide (ltI x.key y.key))) ∧ Below w.heap.size w w' := by
  obtain ⟨hb, _, _⟩ := id_box2 w x y
  obtain ⟨p, n⟩ := x
  obtain ⟨q, m⟩ := y
  unfold Im.val
  simp only at hb
  have HB := Lib.hid hb
  clear hb
  by_cases h : p = q
  · subst h
    rw [ltI_eq]
    go_enter Tryz.func55, Tryz.ntmps55
    go_wp2
    go_ret
    exact ⟨rfl, HB.out⟩
  · rw [ltI_ne h]
    have h1 := str_ne h
    go_enter Tryz.func55, Tryz.ntmps55
    go_wp2
    go_ret
    exact ⟨rfl, HB.out⟩
set_option maxHeartbeats 2000000 in
set_option maxRecDepth 100000 in
theorem refihas_any (A : Option Addr) (l : List Im) (cap : Nat) (x : Im) (w : World) (hs : Ids w w.heap.size A l) (hn : l.length ≤ 1000000) :
    Calls Tryz.prog 54 #[.slice A l.length cap, x.val] w fun e w' => e = .returned (.bool (decide (x ∈ l))) ∧ Below w.heap.size w w' := by
  obtain ⟨hb, hx⟩ := id_box w x
  unfold Im.val
  have HS := Lib.hid (hs.on hb)
  have HX := Lib.hid hx
  have HB := Lib.hid hb
  clear hs hb hx
  go_enter Tryz.func54, Tryz.ntmps54
  go_wp2
  generalize (w.alloc (.cells #[.string x.p, .int .i64 x.n] 40)) = wb at *
  go_loopw [5] (fun i wr => ∃ k : Nat, k ≤ l.length ∧ i = .int .i64 (k : Int) ∧ Hid (∀ j (hj : j < l.length), j < k → l[j] ≠ x) ∧ Hid (Below wb.heap.size wb wr)) (fun i _ => l.length - (intOf i).toNat)
  case atStart => exact ⟨0, Nat.zero_le _, rfl, fun j _ h => absurd h (by omega), Below.refl _ _⟩
  case round =>
    obtain ⟨k, hk, rfl, hall, hbr⟩ := hrel
    by_cases hlt : k < l.length
    · have hS := HS.out.on hbr.out
      have hX := HX.out.on hbr.out
      obtain ⟨g, off, rfl, hg, c0, c1⟩ := ids_get hS hlt
      have d0 := id_c0 hX
      have d1 := id_c1 hX
      have hq : ∀ q, Hid (Below wb.heap.size wb (wr.drewN q)) := fun q => below_drewN hbr.out q
      have hfin : ∀ q, Hid (Below w.heap.size w (wr.drewN q)) := fun q => HB.out.trans (((hq q).out).mono HB.out.size)
      have EQ := fun W => eql_id l[k] x W
      by_cases he : l[k] = x
      · have hyes : Hid (decide (x ∈ l) = true) := decide_eq_true (he ▸ List.getElem_mem _)
        rw [decide_eq_true he] at EQ
        generalize l[k] = y at *
        clear hS hX hall hbr he
        go_wp2
        go_quiet (fail)
        go_wp2
        go_ret
        rw [hyes.out]
        exact ⟨rfl, (hfin _).out⟩
      · rw [decide_eq_false he] at EQ
        have hnew : Hid (∀ j (hj : j < l.length), j < k + 1 → l[j] ≠ x) := fun j hj hjk => by
          by_cases h : j = k
          · subst h; exact he
          · exact hall.out j hj (by omega)
        generalize l[k] = y at *
        clear hS hX hall hbr he
        go_wp2
        go_quiet (fail)
        go_wp2
        go_roundw
        case rel => exact ⟨k + 1, by omega, by go_num, hnew, hq _⟩
        case measure => simp [intOf]; omega
    · obtain rfl : k = l.length := by omega
      have hno : Hid (decide (x ∈ l) = false) := decide_eq_false fun h => by
        obtain ⟨j, hj, e⟩ := List.getElem_of_mem h
        exact hall.out j hj hj e
      have hfin : Hid (Below w.heap.size w wr) := HB.out.trans (hbr.out.mono HB.out.size)
      clear hall hbr
      go_wp2
      go_ret
      rw [hno.out]
      exact ⟨rfl, hfin.out⟩
set_option maxHeartbeats 2000000 in
set_option maxRecDepth 100000 in
theorem refisame_any (A A2 : Option Addr) (l m : List Im) (cap cap2 : Nat) (w : World) (hs : Ids w w.heap.size A l) (ht : Ids w w.heap.size A2 m) (hn : l.length ≤ 1000000) (hn2 : m.length ≤ 1000000) :
    Calls Tryz.prog 17 #[.slice A l.length cap, .slice A2 m.length cap2] w fun e w' => e = .returned (.bool (decide (l = m))) ∧ Below w.heap.size w w' := by
  by_cases hl : l.length = m.length
  · have Hl := Lib.hid hl
    have hb1 : (((l.length : Int)) != (m.length : Int)) = false := by simp; omega
    have HS := Lib.hid hs
    have HM := Lib.hid ht
    clear hl hs ht
    go_enter Tryz.func17, Tryz.ntmps17
    go_wp2
    go_loopw [5] (fun i wr => ∃ k : Nat, k ≤ l.length ∧ i = .int .i64 (k : Int) ∧ Hid (∀ j (hj : j < l.length) (hj2 : j < m.length), j < k → l[j] = m[j]) ∧ Hid (Below w.heap.size w wr)) (fun i _ => l.length - (intOf i).toNat)
    case atStart => exact ⟨0, Nat.zero_le _, rfl, fun j _ _ h => absurd h (by omega), Below.refl _ _⟩
    case round =>
      obtain ⟨k, hk, rfl, hall, hbr⟩ := hrel
      by_cases hlt : k < l.length
      · have hlt2 : k < m.length := by have := Hl.out; omega
        obtain ⟨g, off, rfl, _, c0, c1⟩ := ids_get (HS.out.on hbr.out) hlt
        obtain ⟨g2, off2, rfl, _, d0, d1⟩ := ids_get (HM.out.on hbr.out) hlt2
        have hq : ∀ q, Hid (Below w.heap.size w (wr.drewN q)) := fun q => below_drewN hbr.out q
        have EQ := fun W => neq_id l[k] m[k] W
        by_cases he : l[k] = m[k]
        · rw [decide_eq_true he, Bool.not_true] at EQ
          have hnew : Hid (∀ j (hj : j < l.length) (hj2 : j < m.length), j < k + 1 → l[j] = m[j]) := fun j hj hj2 hjk => by
            by_cases h : j = k
            · subst h; exact he
            · exact hall.out j hj hj2 (by omega)
          generalize l[k] = y at *
          generalize m[k] = z at *
          clear hall hbr he
          go_wp2
          go_quiet (fail)
          go_wp2
          go_roundw
          case rel => exact ⟨k + 1, by omega, by go_num, hnew, hq _⟩
          case measure => simp [intOf]; omega
        · rw [decide_eq_false he, Bool.not_false] at EQ
          have hno : Hid (decide (l = m) = false) := decide_eq_false fun h => by subst h; exact he rfl
          generalize l[k] = y at *
          generalize m[k] = z at *
          clear hall hbr he
          go_wp2
          go_quiet (fail)
          go_wp2
          go_ret
          rw [hno.out]
          exact ⟨rfl, (hq _).out⟩
      · obtain rfl : k = l.length := by omega
        have hyes : Hid (decide (l = m) = true) := decide_eq_true (List.ext_getElem Hl.out fun j h1 h2 => hall.out j h1 h2 h1)
        clear hall
        go_wp2
        go_ret
        rw [hyes.out]
        exact ⟨rfl, hbr.out⟩
  · have hno : Hid (decide (l = m) = false) := decide_eq_false fun h => hl (by rw [h])
    have hb1 : (((l.length : Int)) != (m.length : Int)) = true := by simp; omega
    have HB : Hid (Below w.heap.size w w) := Below.refl _ _
    clear hs ht hl
    go_enter Tryz.func17, Tryz.ntmps17
    go_wp2
    go_ret
    rw [hno.out]
    exact ⟨rfl, HB.out⟩
end Go.Proofs.YtoajckhfnadhjaaGreatDoor
