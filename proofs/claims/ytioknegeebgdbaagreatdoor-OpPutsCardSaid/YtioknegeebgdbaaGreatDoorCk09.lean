/- Package op: what stands while an operation is read, part by part. Rows of operations. The reference's Num answers a number's bytes; new blocks alone are made. The reference's Text and List. -/
import Derived.Deep.MidRow
import Derived.StillTailTactics
import Derived.Deep.AppendLies
import Derived.BigRegion
import Derived.Deep.RegionWith
import Derived.BigQuiet
import Derived.Deep.QuietTactic
import Derived.Test.YtioknegeebgdbaaGreatDoorCk08
namespace Go.Proofs.YtioknegeebgdbaaGreatDoor
open Go.RowKit
set_option linter.unusedVariables false

/-- A variable of an operation with one part written over. -/
theorem op_put0 {w : World} {g : Nat} {x : Om} (h : OpAt w g x) (k : Int) : OpAt (w.setCell ⟨g, 0, none⟩ (.int .i64 k)) g { x with kind := k } := by
  have hk : w.heap[g]? = some (.cells x.cells.toArray 27 (0, 0)) := h
  show _ = some _
  simp [World.setCell, Array.getElem?_modify, hk, opR, Om.cells]
theorem op_put14 {w : World} {g : Nat} {x : Om} (h : OpAt w g x) (k : Int) : OpAt (w.setCell ⟨g, 14, none⟩ (.int .i64 k)) g { x with first := k } := by
  have hk : w.heap[g]? = some (.cells x.cells.toArray 27 (0, 0)) := h
  show _ = some _
  simp [World.setCell, Array.getElem?_modify, hk, opR, Om.cells]
theorem op_put7 {w : World} {g : Nat} {x : Om} (h : OpAt w g x) (s : ByteArray) : OpAt (w.setCell ⟨g, 7, none⟩ (.string s)) g { x with name := s } := by
  have hk : w.heap[g]? = some (.cells x.cells.toArray 27 (0, 0)) := h
  show _ = some _
  simp [World.setCell, Array.getElem?_modify, hk, opR, Om.cells]
theorem op_put8 {w : World} {g : Nat} {x : Om} (h : OpAt w g x) (s : ByteArray) : OpAt (w.setCell ⟨g, 8, none⟩ (.string s)) g { x with dname := s } := by
  have hk : w.heap[g]? = some (.cells x.cells.toArray 27 (0, 0)) := h
  show _ = some _
  simp [World.setCell, Array.getElem?_modify, hk, opR, Om.cells]
theorem op_put13 {w : World} {g : Nat} {x : Om} (h : OpAt w g x) (A : Option Addr) (l : List Im) (n c : Nat) (hn : n = l.length) : OpAt (w.setCell ⟨g, 13, none⟩ (.slice A n c)) g { x with a1 := A, dels := l, c1 := c } := by
  subst hn
  have hk : w.heap[g]? = some (.cells x.cells.toArray 27 (0, 0)) := h
  show _ = some _
  simp [World.setCell, Array.getElem?_modify, hk, opR, Om.cells]
theorem op_put15 {w : World} {g : Nat} {x : Om} (h : OpAt w g x) (A : Option Addr) (l : List (List UInt8)) (n c : Nat) (hn : n = l.length) : OpAt (w.setCell ⟨g, 15, none⟩ (.slice A n c)) g { x with a2 := A, lines := l, c2 := c } := by
  subst hn
  have hk : w.heap[g]? = some (.cells x.cells.toArray 27 (0, 0)) := h
  show _ = some _
  simp [World.setCell, Array.getElem?_modify, hk, opR, Om.cells]
/-- The world in which five ids were written into a variable of an operation. -/
abbrev put5 (w : World) (g : Nat) (a b c d e : Im) : World := (((((((((w.setCell ⟨g, 1, none⟩ (.string a.p)).setCell ⟨g, 2, none⟩ (.int .i64 a.n)).setCell ⟨g, 3, none⟩ (.string b.p)).setCell ⟨g, 4, none⟩ (.int .i64 b.n)).setCell ⟨g, 5, none⟩ (.string c.p)).setCell ⟨g, 6, none⟩ (.int .i64 c.n)).setCell ⟨g, 9, none⟩ (.string d.p)).setCell ⟨g, 10, none⟩ (.int .i64 d.n)).setCell ⟨g, 11, none⟩ (.string e.p)).setCell ⟨g, 12, none⟩ (.int .i64 e.n)
theorem op_put5 {w : World} {g : Nat} {x : Om} (h : OpAt w g x) (a b c d e : Im) : OpAt (put5 w g a b c d e) g { x with self := a, parent := b, dst := c, left := d, right := e } := by
  have hk : w.heap[g]? = some (.cells x.cells.toArray 27 (0, 0)) := h
  show _ = some _
  simp [put5, World.setCell, Array.getElem?_modify, hk, opR, Om.cells]
theorem grown_cell1 (w : World) (g i : Nat) (u : Value) : w.grownBy (w.setCell ⟨g, i, none⟩ u) (some g) := grownBy_set w g i u
theorem grown_put5 (w : World) (g : Nat) (a b c d e : Im) : w.grownBy (put5 w g a b c d e) (some g) :=
  Rk.grown_both (Rk.grown_both (Rk.grown_both (Rk.grown_both (Rk.grown_both (Rk.grown_both (Rk.grown_both (Rk.grown_both (Rk.grown_both (grownBy_set w g 1 _) (grownBy_set _ g 2 _)) (grownBy_set _ g 3 _)) (grownBy_set _ g 4 _)) (grownBy_set _ g 5 _)) (grownBy_set _ g 6 _)) (grownBy_set _ g 9 _)) (grownBy_set _ g 10 _)) (grownBy_set _ g 11 _)) (grownBy_set _ g 12 _)
/-- An array of five ids in a block. -/
def Arr (w : World) (g : Nat) (l : List Im) : Prop := w.heap[g]? = some (.cells (idR.cells l).toArray 47 (0, 0))
theorem Arr.lt {w : World} {g : Nat} {l : List Im} (h : Arr w g l) : g < w.heap.size := (Array.getElem?_eq_some_iff.1 h).1
theorem Arr.on {w w' : World} {g : Nat} {l : List Im} (h : Arr w g l) (hb : Below w.heap.size w w') : Arr w' g l := (hb.block g h.lt).trans h
theorem Arr.grown {w w' : World} {g : Nat} {l : List Im} {row : Option Nat} (h : Arr w g l) (hg : w.grownBy w' row) (hr : row ≠ some g) : Arr w' g l := (hg.block g h.lt (fun e => hr e.symm)).trans h
theorem Arr.fz {w : World} {g : Nat} {l : List Im} (h : Arr w g l) (i : Nat) : w.frozen? ⟨g, i, none⟩ = false := by
  have hk : w.heap[g]? = _ := h
  simp [World.frozen?, hk]
theorem Arr.cell {w : World} {g : Nat} {l : List Im} (h : Arr w g l) {j : Nat} (hj : j < l.length) : w.cell? ⟨g, j * 2, none⟩ = some (.string l[j].p) ∧ w.cell? ⟨g, j * 2 + 1, none⟩ = some (.int .i64 l[j].n) := by
  have hk : w.heap[g]? = _ := h
  have h0 := idR.cells_get l j hj 0 (by decide)
  have h1 := idR.cells_get l j hj 1 (by decide)
  constructor
  · simp only [World.cell?, hk]
    show (if _ then _ else _) = _
    simp
    exact h0
  · simp only [World.cell?, hk]
    show (if _ then _ else _) = _
    simp
    exact h1
theorem Arr.put {w : World} {g : Nat} {l : List Im} (h : Arr w g l) {j : Nat} (hj : j < l.length) (y : Im) : Arr ((w.setCell ⟨g, j * 2, none⟩ (.string y.p)).setCell ⟨g, j * 2 + 1, none⟩ (.int .i64 y.n)) g (l.set j y) := by
  have hk : w.heap[g]? = some (.cells (idR.cells l).toArray 47 (0, 0)) := h
  unfold Arr
  have hs : idR.cells (l.set j y) = Rk.over (idR.cells l) (j * idR.k) (idR.enc y) := Rk.cells_set l j y hj
  rw [hs]
  show _ = some (Obj.cells (((idR.cells l).set (j * 2) (.string y.p)).set (j * 2 + 1) (.int .i64 y.n)).toArray _ _)
  simp [World.setCell, Array.getElem?_modify, hk]
theorem owns_grown {w w' : World} {B : Nat} {v : Value} {ls : List (List UInt8)} {row : Option Nat} (h : OwnS w B v ls) (hg : w.grownBy w' row) (hr : ∀ k, v.ownBlock = some k → row ≠ some k) : OwnS w' B v ls :=
  World.ownsRow.kept h (row := row) hg (by
    cases e : v.ownBlock with
    | none => simp
    | some k => have := hr k e; simpa using fun h => this h.symm)
theorem owns_in {w : World} {B : Nat} {v : Value} {ls : List (List UInt8)} (h : OwnS w B v ls) : ∀ k, v.ownBlock = some k → B ≤ k ∧ k < w.heap.size := fun k hk => World.ownsRow.lt h k hk
theorem elem_strs : Tryz.prog.elem 25 = 9 := by kernel_rfl
theorem strs_und : Tryz.prog.underlying 25 = some (.slice (Tryz.prog.elem 25)) := by
  rw [elem_strs]
  exact Tryz.underlying25
theorem size_str (W : World) : (sizeOf 9).run Tryz.prog W = .ok 1 W := by
  cases h : Tryz.prog.info? 9 with
  | some i =>
    have h2 : (Tryz.prog.info? 9).map (·.size) = some 1 := by kernel_rfl
    rw [h] at h2
    simp only [Option.map_some, Option.some.injEq] at h2
    simp [sizeOf, typeInfo, h, h2, Sem.run_bind]
  | none => exact absurd h (by have h2 : (Tryz.prog.info? 9).isSome = true := by kernel_rfl
                               intro h3; rw [h3] at h2; cases h2)
theorem str_indexAt {A : Option Addr} {b off n c k : Nat} (e : A = some ⟨b, off, none⟩) (hk : k < n) (W : World) : (Instr.indexAt 25 (.slice A n c) (.int .i64 (k : Int))).run Tryz.prog W = .ok (.pointer (some ⟨b, off + k, none⟩)) W := by
  subst e
  rw [run_indexAt_slice (h := strs_und), if_pos (by omega), elem_strs, size_str, Result.andThen_ok]
  have e2 : (⟨b, off, none⟩ : Addr).add ((k : Int).toNat * 1) = ⟨b, off + k, none⟩ := by unfold Addr.add; split <;> simp_all
  rw [e2]
theorem still_load_op {w : World} {ops : Array Oper} {o : Oper} {a : Act} {K : Act → Prop} {E : Prop} (hgd : o.guard = none) (x : Operand) (ho : o.op = .load 27 x) (g : Nat) (z : Om)
    (hx : a.eval x = .pointer (some ⟨g, 0, none⟩)) (hz : OpAt w g z) (h : K (a.put o.dst z.val)) : if Region.wanted o (yielded ops a.tmps) = true then o.still Tryz.prog a w K else E := by
  have hw : Region.wanted o (yielded ops a.tmps) = true := by simp [Region.wanted, hgd]
  rw [if_pos hw]
  unfold Oper.still execOp
  simp only [ho, hx, Instr.loadAt, Instr.sureAddr, Sem.run_bind, Sem.run_pure, Result.andThen_ok, load_op hz]
  exact ⟨rfl, h⟩
theorem op_there {w : World} {g : Nat} {z : Om} (h : OpAt w g z) : w.there g 0 16 := fun j hj => by
  have hl : j < (opR.enc z).length := hj
  refine ⟨?_, by rw [Nat.zero_add]; exact Rk.At.fz h j⟩
  rw [Nat.zero_add, h.cell (r := j) (u := (opR.enc z)[j]) (List.getElem?_eq_getElem hl)]
  rfl
theorem wpList_load_op {ops : Array Oper} {rest : List Oper} {op : Oper} {a : Act} {w : World} {Q : Exit → Act → World → Prop} (hgd : op.guard = none) (x : Operand) (ho : op.op = .load 27 x) (g : Nat) (z : Om)
    (hx : a.eval x = .pointer (some ⟨g, 0, none⟩)) (hz : OpAt w g z) (h : wpList Tryz.prog ops Q rest (a.put op.dst z.val) w) : wpList Tryz.prog ops Q (op :: rest) a w :=
  wpList_load_mid hgd 27 x ho g 0 hx z.cells _ (fun j v hv => by rw [Nat.zero_add]; exact hz.cell hv) Tryz.underlying27 rfl sized_op h
theorem wpList_store_op {ops : Array Oper} {rest : List Oper} {op : Oper} {a : Act} {w : World} {Q : Exit → Act → World → Prop} (hgd : op.guard = none) (x y : Operand) (ho : op.op = .store 27 x y) (g : Nat) (z0 z : Om)
    (hx : a.eval x = .pointer (some ⟨g, 0, none⟩)) (hy : a.eval y = z.val) (hz : OpAt w g z0) (h : wpList Tryz.prog ops Q rest (a.put op.dst undef) (w.setCells g 0 z.cells)) : wpList Tryz.prog ops Q (op :: rest) a w :=
  wpList_store_mid hgd 27 x y ho g 0 z.cells.toArray hx hy (op_there hz) sized_op (by
    rw [Array.all_eq_true_iff_forall_mem]
    intro u hu
    have h2 : u ∈ z.cells := by simpa using hu
    exact opR.one z u h2) h
/-- An operation's rows are of the call's own. -/
structure Om.Sep (z : Om) (w : World) (B : Nat) : Prop where
  dels : OwnId w B (.slice z.a1 z.dels.length z.c1) z.dels
  lines : OwnS w B (.slice z.a2 z.lines.length z.c2) z.lines
theorem Om.Sep.ok {z : Om} {w : World} {B : Nat} (h : z.Sep w B) : z.Ok w w.heap.size := ⟨h.dels.parts.2.1, h.dels.parts.2.2.1, h.lines.at_.1, h.lines.at_.2.1⟩
theorem Om.Sep.on {z : Om} {w w' : World} {B : Nat} (h : z.Sep w B) (hb : Below w.heap.size w w') : z.Sep w' B := ⟨h.dels.kept hb, h.lines.kept hb⟩
theorem Om.Sep.grown {z : Om} {w w' : World} {B g : Nat} (h : z.Sep w B) (hg : w.grownBy w' (some g)) (hB : g < B) : z.Sep w' B :=
  ⟨Rk.Own.grown h.dels hg (fun q hq e => by have h1 := h.dels.block q hq; simp only [Option.some.injEq] at e; omega), owns_grown h.lines hg (fun q hq e => by have h1 := (owns_in h.lines q hq).1; simp only [Option.some.injEq] at e; omega)⟩
theorem wrap_is (n : Int) : IntKind.i64.wrap n = wrap64 n := by
  simp [IntKind.wrap, wrap64, IntKind.bits, IntKind.signed]
  split <;> omega
theorem imOf_short (l : List UInt8) : (imOf (idOfK l)).p.size ≤ 40 := by
  show (toB _).size ≤ 40
  rw [toB_size]
  exact idOfK_short l
/-- Nothing was read yet. -/
def zeroM : Om := ⟨0, ⟨⟨#[]⟩, 0⟩, ⟨⟨#[]⟩, 0⟩, ⟨⟨#[]⟩, 0⟩, ⟨#[]⟩, ⟨#[]⟩, ⟨⟨#[]⟩, 0⟩, ⟨⟨#[]⟩, 0⟩, none, 0, [], 0, none, 0, []⟩
/-- Where all lies: the function's box, the reader, the result, the variable. -/
structure PL (w : World) (b g o1 o : Nat) : Prop where
  fn : FnAt w b g
  o1l : w.heap.size ≤ o1
  ol : w.heap.size ≤ o
  ne : o1 ≠ o
/-- What stands while the parts are read. -/
structure PS (w : World) (b g o1 o : Nat) (W : World) (s : St) (z : Om) : Prop where
  grown : w.grownBy W (some g)
  rd : RdS W g s
  res : OpAt W o1 zeroM
  op : OpAt W o z
theorem cell_same {w w' : World} {b i : Nat} (h : w'.heap[b]? = w.heap[b]?) : w'.cell? ⟨b, i, none⟩ = w.cell? ⟨b, i, none⟩ := by
  simp [World.cell?, h]
section
variable {w W W' : World} {b g o1 o : Nat} {s s' : St} {z z' : Om}
theorem PS.box (L : PL w b g o1 o) (h : PS w b g o1 o W s z) : W.cell? ⟨b, 0, none⟩ = some (.pointer (some ⟨g, 0, none⟩)) :=
  (cell_same (h.grown.block b L.fn.bl (fun e => L.fn.bg (by injection e)))).trans L.fn.box
theorem PS.read (L : PL w b g o1 o) (h : PS w b g o1 o W s z) (hr : RdS W' g s') (hg : W.grownBy W' (some g)) : PS w b g o1 o W' s' z :=
  ⟨Rk.grown_both h.grown hg, hr, h.res.grown hg (fun e => by have := L.o1l; have := L.fn.gl; simp only [Option.some.injEq] at e; omega), h.op.grown hg (fun e => by have := L.ol; have := L.fn.gl; simp only [Option.some.injEq] at e; omega)⟩
theorem PS.on (h : PS w b g o1 o W s z) (hb : Below W.heap.size W W') : PS w b g o1 o W' s z := ⟨Rk.grown_below h.grown hb, h.rd.below hb, h.res.on hb, h.op.on hb⟩
theorem PS.put (L : PL w b g o1 o) (h : PS w b g o1 o W s z) (hz : OpAt W' o z') (hg : W.grownBy W' (some o)) : PS w b g o1 o W' s z' := by
  have h1 := L.ol
  have h2 := L.fn.gl
  refine ⟨⟨hg.os.trans h.grown.os, hg.tape.trans h.grown.tape, hg.output.trans h.grown.output, Nat.le_trans h.grown.size hg.size, fun k hk hne => (hg.block k (Nat.lt_of_lt_of_le hk h.grown.size) (fun e => by simp only [Option.some.injEq] at e; omega)).trans (h.grown.block k hk hne)⟩, ?_, h.res.grown hg (fun e => L.ne (by simp only [Option.some.injEq] at e; exact e.symm)), hz⟩
  exact (hg.block g (Nat.lt_of_lt_of_le h2 h.grown.size) (fun e => by simp only [Option.some.injEq] at e; omega)).trans h.rd
/-- .. and an array of one's own is written into. -/
theorem PS.arr {a : Nat} (L : PL w b g o1 o) (h : PS w b g o1 o W s z) (ha : w.heap.size ≤ a) (h1 : a ≠ o1) (h2 : a ≠ o) (hg : W.grownBy W' (some a)) : PS w b g o1 o W' s z := by
  have h3 := L.fn.gl
  refine ⟨⟨hg.os.trans h.grown.os, hg.tape.trans h.grown.tape, hg.output.trans h.grown.output, Nat.le_trans h.grown.size hg.size, fun k hk hne => (hg.block k (Nat.lt_of_lt_of_le hk h.grown.size) (fun e => by simp only [Option.some.injEq] at e; omega)).trans (h.grown.block k hk hne)⟩, ?_, h.res.grown hg (fun e => h1 (by simp only [Option.some.injEq] at e; exact e)), h.op.grown hg (fun e => h2 (by simp only [Option.some.injEq] at e; exact e))⟩
  exact (hg.block g (Nat.lt_of_lt_of_le h3 h.grown.size) (fun e => by simp only [Option.some.injEq] at e; omega)).trans h.rd
/-- .. and a row of one's own has grown. -/
theorem PS.own {row : Option Nat} (L : PL w b g o1 o) (h : PS w b g o1 o W s z) (hr : ∀ k, row = some k → w.heap.size ≤ k ∧ k ≠ o1 ∧ k ≠ o) (hg : W.grownBy W' row) : PS w b g o1 o W' s z := by
  have h3 := L.fn.gl
  refine ⟨⟨hg.os.trans h.grown.os, hg.tape.trans h.grown.tape, hg.output.trans h.grown.output, Nat.le_trans h.grown.size hg.size, fun k hk hne => (hg.block k (Nat.lt_of_lt_of_le hk h.grown.size) (fun e => by have := hr k e.symm; omega)).trans (h.grown.block k hk hne)⟩, ?_, h.res.grown hg (fun e => (hr o1 e).2.1 rfl), h.op.grown hg (fun e => (hr o e).2.2 rfl)⟩
  exact (hg.block g (Nat.lt_of_lt_of_le h3 h.grown.size) (fun e => by have := hr g e.symm; omega)).trans h.rd
/-- .. and the result is written. -/
theorem PS.fin (L : PL w b g o1 o) (h : PS w b g o1 o W s z) (hg : W.grownBy W' (some o1)) : w.grownBy W' (some g) := by
  have h1 := L.o1l
  exact ⟨hg.os.trans h.grown.os, hg.tape.trans h.grown.tape, hg.output.trans h.grown.output, Nat.le_trans h.grown.size hg.size, fun k hk hne => (hg.block k (Nat.lt_of_lt_of_le hk h.grown.size) (fun e => by simp only [Option.some.injEq] at e; omega)).trans (h.grown.block k hk hne)⟩
/-- The library's tables lie there still. -/
theorem PS.nums {W0 : World} (h : PS w b g o1 o W s z) (hN : Nums W0) (hb : Below W0.heap.size W0 w) (hg : W0.heap.size ≤ g) : Nums W :=
  hN.on (below_of_grownBy hb h.grown hg hb.size)
end
end Go.Proofs.YtioknegeebgdbaaGreatDoor
namespace Go.Proofs.YtioknegeebgdbaaGreatDoor
open Go.RowKit
set_option linter.unusedVariables false

def okeys (l : List Om) : List OpK := l.map Om.key
/-- Operations lie at A, their rows with them. -/
def Ops (w : World) (B : Nat) (A : Option Addr) (l : List Om) : Prop := opR.Row w B A l ∧ ∀ x ∈ l, x.Ok w B
theorem Ops.on {w w' : World} {A : Option Addr} {l : List Om} (h : Ops w w.heap.size A l) (hb : Below w.heap.size w w') : Ops w' w'.heap.size A l := ⟨h.1.on hb, fun x hx => (h.2 x hx).on hb⟩
/-- None has far too many lines, or ids. -/
def OpsFew (l : List Om) : Prop := ∀ x ∈ l, x.dels.length ≤ 900000 ∧ x.lines.length ≤ 900000
end Go.Proofs.YtioknegeebgdbaaGreatDoor
namespace Go.Proofs.YtioknegeebgdbaaGreatDoor
open Go.RowKit
set_option linter.unusedVariables false

/-- One byte in a block, as a string. -/
theorem one_string (w : World) (g : Nat) (x : Int) (hx : w.cell? ⟨g, 0, none⟩ = some (.int .u8 x)) (h0 : 0 ≤ x) (h1 : x ≤ 255) :
    (convert 63 9 (.slice (some ⟨g, 0, none⟩) 1 1)).run Tryz.prog w = .ok (.string ⟨#[UInt8.ofNat x.toNat]⟩) w := by
  refine run_convert_bytes_back w _ _ _ _ 1 [UInt8.ofNat x.toNat] Tryz.underlying63 Tryz.underlying5 Tryz.underlying9 fun j hj => ?_
  obtain rfl : j = 0 := by simp at hj; omega
  rw [show (⟨g, 0, none⟩ : Addr).add 0 = ⟨g, 0, none⟩ from rfl, hx]
  simp [UInt8.toNat_ofNat']
  omega

theorem bytes_cons (b : UInt8) (l : List UInt8) : (⟨#[b]⟩ ++ ⟨l.toArray⟩ : ByteArray) = ⟨(b :: l).toArray⟩ := by
  apply ByteArray.ext
  simp

set_option maxRecDepth 100000 in
theorem refnum_small (n : Int) (w : World) (h0 : 0 ≤ n) (h1 : n < 128) :
    Calls Tryz.prog 34 #[.int .u64 n] w fun e w' => e = .returned (.string ⟨#[UInt8.ofNat n.toNat]⟩) ∧ Below w.heap.size w w' := by
  have hs := one_string (w.alloc (.cells #[.int .u8 n] 5)) w.heap.size n (by simp) h0 (by omega)
  go_enter Tryz.func34, Tryz.ntmps34
  go_wp2
  go_ret
  exact ⟨rfl, (Below.refl _ _).alloc (Nat.le_refl _) _⟩

set_option maxRecDepth 100000 in
theorem refnum_big (f : Nat) (ih : ∀ (n : Int) (w : World), 0 ≤ n → Hid (n ≤ 18446744073709551615) → Hid (n.toNat < 128 ^ (f + 1)) → Calls Tryz.prog 34 #[.int .u64 n] w fun e w' => e = .returned (.string ⟨(numF f n.toNat).toArray⟩) ∧ Below w.heap.size w w')
    (n : Int) (w : World) (hf : f ≤ 20) (h0 : 128 ≤ n) (hm : Hid (n ≤ 18446744073709551615)) (h1 : Hid (n.toNat < 128 ^ (f + 2))) :
    Calls Tryz.prog 34 #[.int .u64 n] w fun e w' => e = .returned (.string ⟨(numF (f + 1) n.toNat).toArray⟩) ∧ Below w.heap.size w w' := by
  have IH := Lib.hid ih
  clear ih
  have h2 : Hid ((n / 128).toNat < 128 ^ (f + 1)) := by
    have := div_pow n.toNat f h1.out
    have e : (n / 128).toNat = n.toNat / 128 := by omega
    show _ < _
    rw [e]; exact this
  have e1 : n.tmod 128 = n % 128 := Int.tmod_eq_emod_of_nonneg (by omega)
  have e2 : n.tdiv 128 = n / 128 := Int.tdiv_eq_ediv_of_nonneg (by omega)
  have e3 : IntKind.u64.wrap (128 + n % 128) = 128 + n % 128 := IntWalk.u64_in _ ⟨by omega, by omega⟩
  have e4 : IntKind.u8.wrap (128 + n % 128) = 128 + n % 128 := IntWalk.u8_in _ ⟨by omega, by omega⟩
  have e5 : IntKind.u64.wrap (n / 128) = n / 128 := IntWalk.u64_in _ ⟨by omega, by have := hm.out; omega⟩
  obtain ⟨b, hs, hbl⟩ : ∃ b : UInt8, (∀ (W : World) (g : Nat), W.cell? ⟨g, 0, none⟩ = some (.int .u8 (128 + n % 128)) → (convert 63 9 (.slice (some ⟨g, 0, none⟩) 1 1)).run Tryz.prog W = .ok (.string ⟨#[b]⟩) W) ∧
      Hid (numF (f + 1) n.toNat = b :: numF f (n / 128).toNat) :=
    ⟨UInt8.ofNat (128 + n % 128).toNat, fun W g h => one_string W g (128 + n % 128) h (by omega) (by omega), by
      show _ = _
      rw [numF_ge f n.toNat (by omega), show (n / 128).toNat = n.toNat / 128 from by omega, show (128 + n % 128).toNat = 128 + n.toNat % 128 from by omega]⟩
  have hq : 0 ≤ n / 128 := by omega
  have hm2 : Hid (n / 128 ≤ 18446744073709551615) := by
    have := hm.out
    show _ ≤ _
    omega
  have hlen := numF_len f (n / 128).toNat
  have IH2 : ∀ (W : World), Calls Tryz.prog 34 #[.int .u64 (n / 128)] W fun e w' => e = .returned (.string ⟨(numF f (n / 128).toNat).toArray⟩) ∧ Below W.heap.size W w' := fun W => IH.out _ W hq hm2 h2
  generalize numF f (n / 128).toNat = l at hlen hbl IH2
  have IH3 := Lib.hid IH2
  clear IH IH2
  go_enter Tryz.func34, Tryz.ntmps34
  go_wp2
  go_region_with (go_at_call 34; refine (IH3.out _).mono ?_; rintro e w1 ⟨rfl, hb⟩; have hc1 := @Below.cell _ _ _ hb ⟨w.heap.size, 0, none⟩)
  all_goals
    clear hc1
    have hb2 : Below w.heap.size w w1 := by
      first
        | exact ((Below.refl _ w).alloc (Nat.le_refl _) _).drew.trans (hb.mono (by simp))
        | exact (Below.refl _ w).drew.trans (hb.mono (by simp))
    have hsz := hb2.size
    go_wp2
    go_ret
    rw [hbl.out]
    refine ⟨by rw [bytes_cons]; rfl, ?_⟩
    first
      | exact hb2
      | exact hb2.alloc hsz _
theorem refnum_f : ∀ (f : Nat) (n : Int) (w : World), f ≤ 20 → 0 ≤ n → Hid (n ≤ 18446744073709551615) → Hid (n.toNat < 128 ^ (f + 1)) →
    Calls Tryz.prog 34 #[.int .u64 n] w fun e w' => e = .returned (.string ⟨(numF f n.toNat).toArray⟩) ∧ Below w.heap.size w w'
  | 0, n, w, _, h0, _, h => by
    have hl : n < 128 := by have := h.out; simp at this; omega
    rw [numF_lt 0 n.toNat (by omega)]
    exact refnum_small n w h0 hl
  | f + 1, n, w, hf, h0, hm, h => by
    by_cases hl : n < 128
    · rw [numF_lt _ n.toNat (by omega)]
      exact refnum_small n w h0 hl
    · exact refnum_big f (fun n w a c b => refnum_f f n w (by omega) a c b) n w (by omega) (by omega) hm h

theorem refnum_any (n : Int) (w : World) (h0 : 0 ≤ n) (h1 : n ≤ 18446744073709551615) :
    Calls Tryz.prog 34 #[.int .u64 n] w fun e w' => e = .returned (.string ⟨(numB n.toNat).toArray⟩) ∧ Below w.heap.size w w' :=
  refnum_f 9 n w (by omega) h0 h1 (u64_pow _ (by omega))
end Go.Proofs.YtioknegeebgdbaaGreatDoor
namespace Go.Proofs.YtioknegeebgdbaaGreatDoor
open Go.RowKit
set_option linter.unusedVariables false

theorem bytes_append (l : List UInt8) (s : ByteArray) : (⟨l.toArray⟩ ++ s : ByteArray) = ⟨(l ++ s.data.toList).toArray⟩ := by
  apply ByteArray.ext
  simp

set_option maxRecDepth 100000 in
theorem reftext_any (s : ByteArray) (w : World) (hs : s.size ≤ 140737488351232) :
    Calls Tryz.prog 35 #[.string s] w fun e w' => e = .returned (.string ⟨(textB s.data.toList).toArray⟩) ∧ Below w.heap.size w w' := by
  have hl := numB_len s.size
  go_enter Tryz.func35, Tryz.ntmps35
  go_wp2_with (go_at_call 34; refine (refnum_any _ _ (by omega) (by omega)).mono ?_; rintro e w1 ⟨rfl, hb1⟩)
  go_ret
  refine ⟨?_, hb1⟩
  rw [bytes_append]
  rfl

set_option maxRecDepth 100000 in
theorem reflist_any (A : Option Addr) (ss : List ByteArray) (cap : Nat) (w : World) (hs : Strs w w.heap.size A ss) (hn : ss.length ≤ 140737488351232)
    (hlen : (numB ss.length).length + (textsB (lists ss)).length ≤ 140737488351232) :
    Calls Tryz.prog 37 #[.slice A ss.length cap] w fun e w' => e = .returned (.string ⟨(listB (lists ss)).toArray⟩) ∧ Below w.heap.size w w' := by
  go_enter Tryz.func37, Tryz.ntmps37
  go_wp2_with (go_at_call 34; refine (refnum_any _ _ (by omega) (by omega)).mono ?_; rintro e w1 ⟨rfl, hb1⟩)
  go_loopw [3, 4] (fun x i wr => ∃ k : Nat, k ≤ ss.length ∧ i = .int .i64 (k : Int) ∧ x = .string ⟨(numB ss.length ++ textsB (lists (ss.take k))).toArray⟩ ∧ Below w.heap.size w wr)
    (fun _ i _ => ss.length - (intOf i).toNat)
  case atStart => exact ⟨0, Nat.zero_le _, rfl, by simp [lists, textsB], hb1⟩
  case round =>
    obtain ⟨k, hk, rfl, rfl, hb⟩ := hrel
    have hle := texts_take_le ss k
    by_cases hlt : k < ss.length
    · have hs1 := hs.below hb
      obtain ⟨g, off, rfl, hg, hc⟩ := hs1.at_ hlt
      clear hs1
      have hf := lists_take ss k hlt
      have hle2 := texts_take_le ss (k + 1)
      rw [hf] at hle2
      have HF := Lib.hid hf
      clear hf
      generalize hs' : ss[k] = s at *
      have e : s.data.toList.length = s.size := by simp
      have htb : (textB s.data.toList).length = (numB s.size).length + s.size := by simp [textB]
      rw [List.length_append, htb] at hle2
      have h3 : (⟨(textB s.data.toList).toArray⟩ : ByteArray).size = (numB s.size).length + s.size := by rw [size_mk, htb]
      have h4 : (⟨(numB ss.length ++ textsB (lists (ss.take k))).toArray⟩ : ByteArray).size = (numB ss.length).length + (textsB (lists (ss.take k))).length := by rw [size_mk, List.length_append]
      generalize hpre : numB ss.length ++ textsB (lists (ss.take k)) = pre at *
      clear htb e
      go_wp2_with (go_at_call 35; refine (reftext_any _ _ (by omega)).mono ?_; rintro e w3 ⟨rfl, hb3⟩)
      have hb5 := hb.trans (hb3.mono hb.size)
      have hfin : Hid ((⟨pre.toArray⟩ ++ ⟨(textB s.data.toList).toArray⟩ : ByteArray) = ⟨(numB ss.length ++ textsB (lists (ss.take (k + 1)))).toArray⟩) := by
        show _ = _
        rw [bytes_append, HF.out, ← List.append_assoc, hpre]
      clear HF hpre
      go_roundw
      case rel => exact ⟨k + 1, by omega, by go_num, by rw [hfin.out], hb5⟩
      case measure => simp [intOf]; omega
    · have hk2 : k = ss.length := by omega
      subst hk2
      have e : ss.take ss.length = ss := List.take_length
      rw [e]
      go_wp2
      go_ret
      exact ⟨by simp [listB, lists_len], hb⟩

end Go.Proofs.YtioknegeebgdbaaGreatDoor
