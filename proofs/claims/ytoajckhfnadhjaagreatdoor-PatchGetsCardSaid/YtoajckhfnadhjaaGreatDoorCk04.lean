/- Words for memory: operations, rows of operations. Arrays of five ids: held against each other, an element of one. Operations, and rows of five ids, handed back out of a variable. strings.Builder at this program: copyCheck and WriteString by walks of their own; String by the shelf's contract. Words for memory: rows of strings; a builder kept while other blocks are made. code.Num answers a number's bytes; new blocks alone are made. package code's Reader: contracts of all its calls. package code's Reader: contracts of all its calls, over the block that it lies in. -/
import Derived.ChangeKeysEq
import Derived.Test.YtoajckhfnadhjaaGreatDoorProg
import Derived.WalkKit
import Derived.WalkSpells
import Derived.Handy
import Derived.Lib.Hide
import Derived.Shelf.Strings.BuilderK
import Derived.BigQuiet
import Derived.Deep.QuietTactic
import Derived.Test.YtoajckhfnadhjaaGreatDoorCk03
namespace Go.Proofs.YtoajckhfnadhjaaGreatDoor
open Go.RowKit
set_option linter.unusedVariables false

/-- An operation as it lies. -/
structure Om where
  kind : Int
  self : Im
  parent : Im
  dst : Im
  name : ByteArray
  dname : ByteArray
  left : Im
  right : Im
  a1 : Option Addr
  c1 : Nat
  dels : List Im
  first : Int
  a2 : Option Addr
  c2 : Nat
  lines : List (List UInt8)
def Om.key (x : Om) : OpK := ⟨x.kind, x.self.key, x.parent.key, x.dst.key, x.name.data.toList, x.dname.data.toList, x.left.key, x.right.key, ikeys x.dels, x.first, x.lines⟩
def Om.cells (x : Om) : List Value := [.int .i64 x.kind, .string x.self.p, .int .i64 x.self.n, .string x.parent.p, .int .i64 x.parent.n, .string x.dst.p, .int .i64 x.dst.n, .string x.name, .string x.dname, .string x.left.p, .int .i64 x.left.n, .string x.right.p, .int .i64 x.right.n, .slice x.a1 x.dels.length x.c1, .int .i64 x.first, .slice x.a2 x.lines.length x.c2]
def Om.val (x : Om) : Value := .agg x.cells.toArray
/-- Its rows lie below B. -/
structure Om.Ok (x : Om) (w : World) (B : Nat) : Prop where
  dels : Ids w B x.a1 x.dels
  room1 : Room x.a1 x.dels.length x.c1
  lines : Strs w B x.a2 (toBs x.lines)
  room2 : Room x.a2 x.lines.length x.c2
theorem Om.Ok.on {x : Om} {w w' : World} (h : x.Ok w w.heap.size) (hb : Below w.heap.size w w') : x.Ok w' w'.heap.size := ⟨h.dels.on hb, h.room1, h.lines.on hb, h.room2⟩
/-- Its texts and rows are what Go may hold. -/
structure Om.Sz (x : Om) : Prop where
  self : x.self.p.size ≤ 9223372036854775807
  parent : x.parent.p.size ≤ 9223372036854775807
  dst : x.dst.p.size ≤ 9223372036854775807
  left : x.left.p.size ≤ 9223372036854775807
  right : x.right.p.size ≤ 9223372036854775807
  name : x.name.size ≤ 9223372036854775807
  dname : x.dname.size ≤ 9223372036854775807
  few : x.dels.length ≤ 900000
  dels : ∀ i ∈ x.dels, i.p.size ≤ 9223372036854775807
  rows : x.lines.length ≤ 900000
  lines : ∀ l ∈ x.lines, l.length ≤ 9223372036854775807
/-- Operations as records of sixteen cells. -/
def opR : Rk Om where
  ty := 42
  tys := 23
  k := 16
  bytes := 216
  zero := .agg #[.int .i64 0, .string ByteArray.empty, .int .i64 0, .string ByteArray.empty, .int .i64 0, .string ByteArray.empty, .int .i64 0, .string ByteArray.empty, .string ByteArray.empty, .string ByteArray.empty, .int .i64 0, .string ByteArray.empty, .int .i64 0, .slice none 0 0, .int .i64 0, .slice none 0 0]
  enc := Om.cells
  len := fun _ => rfl
  one := fun x u hu => by
    simp only [Om.cells, List.mem_cons, List.not_mem_nil, or_false] at hu
    rcases hu with rfl | rfl | rfl | rfl | rfl | rfl | rfl | rfl | rfl | rfl | rfl | rfl | rfl | rfl | rfl | rfl <;> rfl
  pos := by decide
  small := by decide
  zsz := rfl
  info := by kernel_rfl
  und := Tryz.underlying23
abbrev OpAt (w : World) (g : Nat) (x : Om) : Prop := opR.At w g x
theorem op_box (w : World) (x : Om) : Below w.heap.size w (w.alloc (.cells #[.int .i64 x.kind, .string x.self.p, .int .i64 x.self.n, .string x.parent.p, .int .i64 x.parent.n, .string x.dst.p, .int .i64 x.dst.n, .string x.name, .string x.dname, .string x.left.p, .int .i64 x.left.n, .string x.right.p, .int .i64 x.right.n, .slice x.a1 x.dels.length x.c1, .int .i64 x.first, .slice x.a2 x.lines.length x.c2] 42)) ∧ OpAt (w.alloc (.cells #[.int .i64 x.kind, .string x.self.p, .int .i64 x.self.n, .string x.parent.p, .int .i64 x.parent.n, .string x.dst.p, .int .i64 x.dst.n, .string x.name, .string x.dname, .string x.left.p, .int .i64 x.left.n, .string x.right.p, .int .i64 x.right.n, .slice x.a1 x.dels.length x.c1, .int .i64 x.first, .slice x.a2 x.lines.length x.c2] 42)) w.heap.size x := ⟨(Below.refl _ _).alloc (Nat.le_refl _) _, Rk.At.new_ (R := opR) w x⟩
/-- What a variable of an operation holds, cell by cell. -/
structure OpCells (w : World) (g : Nat) (x : Om) : Prop where
  kind : w.cell? ⟨g, 0, none⟩ = some (.int .i64 x.kind)
  selfp : w.cell? ⟨g, 1, none⟩ = some (.string x.self.p)
  selfn : w.cell? ⟨g, 2, none⟩ = some (.int .i64 x.self.n)
  parentp : w.cell? ⟨g, 3, none⟩ = some (.string x.parent.p)
  parentn : w.cell? ⟨g, 4, none⟩ = some (.int .i64 x.parent.n)
  dstp : w.cell? ⟨g, 5, none⟩ = some (.string x.dst.p)
  dstn : w.cell? ⟨g, 6, none⟩ = some (.int .i64 x.dst.n)
  name : w.cell? ⟨g, 7, none⟩ = some (.string x.name)
  dname : w.cell? ⟨g, 8, none⟩ = some (.string x.dname)
  leftp : w.cell? ⟨g, 9, none⟩ = some (.string x.left.p)
  leftn : w.cell? ⟨g, 10, none⟩ = some (.int .i64 x.left.n)
  rightp : w.cell? ⟨g, 11, none⟩ = some (.string x.right.p)
  rightn : w.cell? ⟨g, 12, none⟩ = some (.int .i64 x.right.n)
  dels : w.cell? ⟨g, 13, none⟩ = some (.slice x.a1 x.dels.length x.c1)
  first : w.cell? ⟨g, 14, none⟩ = some (.int .i64 x.first)
  lines : w.cell? ⟨g, 15, none⟩ = some (.slice x.a2 x.lines.length x.c2)
theorem op_cells {w : World} {g : Nat} {x : Om} (h : OpAt w g x) : OpCells w g x :=
  ⟨h.cell (r := 0) rfl, h.cell (r := 1) rfl, h.cell (r := 2) rfl, h.cell (r := 3) rfl, h.cell (r := 4) rfl, h.cell (r := 5) rfl, h.cell (r := 6) rfl, h.cell (r := 7) rfl, h.cell (r := 8) rfl, h.cell (r := 9) rfl, h.cell (r := 10) rfl, h.cell (r := 11) rfl, h.cell (r := 12) rfl, h.cell (r := 13) rfl, h.cell (r := 14) rfl, h.cell (r := 15) rfl⟩
end Go.Proofs.YtoajckhfnadhjaaGreatDoor
namespace Go.Proofs.YtoajckhfnadhjaaGreatDoor
open Go.RowKit
set_option linter.unusedVariables false

/-- The cells of five ids. -/
abbrev five (a b c d e : Im) : Array Value := #[.string a.p, .int .i64 a.n, .string b.p, .int .i64 b.n, .string c.p, .int .i64 c.n, .string d.p, .int .i64 d.n, .string e.p, .int .i64 e.n]
set_option maxRecDepth 100000 in
theorem in_id (x y : Im) (w : World) : (Op.equalIn 9999 40 (.agg #[.string x.p, .int .i64 x.n]) (.agg #[.string y.p, .int .i64 y.n])).run Tryz.prog w = .ok (decide (x = y)) w := by
  rw [im_eqb]
  cases h1 : (x.p.toList == y.p.toList) <;> cases h2 : (x.n == y.n) <;> simp [go_sem, h1, h2]
theorem info_id : ∃ i, Tryz.prog.info? 40 = some i := by
  cases h : Tryz.prog.info? 40 with
  | some i => exact ⟨i, rfl⟩
  | none => exact absurd h (by have h2 : (Tryz.prog.info? 40).isSome = true := by kernel_rfl
                               intro h3; rw [h3] at h2; cases h2)
theorem cells_id : Tryz.prog.cellsOf 40 = 2 := by kernel_rfl
set_option maxRecDepth 100000 in
theorem part_id (xs : Array Value) (k : Nat) (w : World) : (part 40 xs k).run Tryz.prog w = .ok (.agg (xs.extract k (k + 2))) w := by
  simp [part, go_sem]
set_option maxRecDepth 100000 in
theorem eql_ids5 (a b c d e a' b' c' d' e' : Im) (w : World) : (binOp .eql 85 (.agg (five a b c d e)) (.agg (five a' b' c' d' e'))).run Tryz.prog w = .ok (.bool (decide (a = a') && (decide (b = b') && (decide (c = c') && (decide (d = d') && decide (e = e')))))) w := by
  obtain ⟨i, hi⟩ := info_id
  rw [run_eql_struct, show (10000 : Nat) = 9999 + 1 from rfl, run_equalIn_array w 9999 _ _ Tryz.underlying85 hi, cells_id]
  have p0 : ∀ (a b c d e : Im), (five a b c d e).extract (0 * 2) (0 * 2 + 2) = #[.string a.p, .int .i64 a.n] := fun _ _ _ _ _ => rfl
  have p1 : ∀ (a b c d e : Im), (five a b c d e).extract (1 * 2) (1 * 2 + 2) = #[.string b.p, .int .i64 b.n] := fun _ _ _ _ _ => rfl
  have p2 : ∀ (a b c d e : Im), (five a b c d e).extract (2 * 2) (2 * 2 + 2) = #[.string c.p, .int .i64 c.n] := fun _ _ _ _ _ => rfl
  have p3 : ∀ (a b c d e : Im), (five a b c d e).extract (3 * 2) (3 * 2 + 2) = #[.string d.p, .int .i64 d.n] := fun _ _ _ _ _ => rfl
  have p4 : ∀ (a b c d e : Im), (five a b c d e).extract (4 * 2) (4 * 2 + 2) = #[.string e.p, .int .i64 e.n] := fun _ _ _ _ _ => rfl
  rw [show List.range 5 = [0, 1, 2, 3, 4] from rfl]
  simp only [Op.eqItems, Sem.run_bind, part_id, Result.andThen_ok, p0, in_id]
  by_cases h1 : a = a' <;> by_cases h2 : b = b' <;> by_cases h3 : c = c' <;> by_cases h4 : d = d' <;> by_cases h5 : e = e' <;> simp [h1, h2, h3, h4, h5, Sem.run_bind, part_id, p1, p2, p3, p4, in_id]
end Go.Proofs.YtoajckhfnadhjaaGreatDoor
namespace Go.Proofs.YtoajckhfnadhjaaGreatDoor
open Go.RowKit
set_option linter.unusedVariables false

theorem sized_op : (Tryz.prog.info? 42).map (·.size) = some 16 := by kernel_rfl
theorem sized_five : (Tryz.prog.info? 85).map (·.size) = some 10 := by kernel_rfl
theorem load_op {w : World} {g : Nat} {x : Om} (k : OpAt w g x) : (loadVar 42 ⟨g, 0, none⟩).run Tryz.prog w = .ok x.val w :=
  run_loadVar_row w g 42 42 x.cells.toArray (0, 0) _ k Tryz.underlying42 rfl sized_op
theorem ret_op {fn : Func} {p : Tmp} (h : fn.results = #[.cell p 42]) (tmps : Array Value) (w : World) (g : Nat) (x : Om) (hp : tmps.getD p undef = .pointer (some ⟨g, 0, none⟩)) (k : OpAt w g x) :
    (results fn tmps).run Tryz.prog w = .ok x.val w :=
  results_cell_row h tmps w g 42 x.cells.toArray (0, 0) _ hp k Tryz.underlying42 rfl sized_op
theorem ret_op2 {fn : Func} {p u : Tmp} (h : fn.results = #[.cell p 42, .tmp u]) (tmps : Array Value) (w : World) (g : Nat) (x : Om) (v : Value) (hp : tmps.getD p undef = .pointer (some ⟨g, 0, none⟩)) (hv : tmps.getD u undef = v) (k : OpAt w g x) :
    (results fn tmps).run Tryz.prog w = .ok (.tuple #[x.val, v]) w := by
  rw [results_cell_tmp h, hp, hv]
  simp [asAddr, load_op k, Result.andThen]
theorem ret_five {fn : Func} {p : Tmp} (h : fn.results = #[.cell p 85]) (tmps : Array Value) (w : World) (g : Nat) (a b c d e : Im) (hp : tmps.getD p undef = .pointer (some ⟨g, 0, none⟩)) (k : w.heap[g]? = some (.cells (five a b c d e) 85 (0, 0))) :
    (results fn tmps).run Tryz.prog w = .ok (.agg (five a b c d e)) w :=
  results_cell_row h tmps w g 85 (five a b c d e) (0, 0) _ hp k Tryz.underlying85 rfl sized_five
theorem op_box2 (w : World) (x y : Om) : Below w.heap.size w ((w.alloc (.cells #[.int .i64 x.kind, .string x.self.p, .int .i64 x.self.n, .string x.parent.p, .int .i64 x.parent.n, .string x.dst.p, .int .i64 x.dst.n, .string x.name, .string x.dname, .string x.left.p, .int .i64 x.left.n, .string x.right.p, .int .i64 x.right.n, .slice x.a1 x.dels.length x.c1, .int .i64 x.first, .slice x.a2 x.lines.length x.c2] 42)).alloc (.cells #[.int .i64 y.kind, .string y.self.p, .int .i64 y.self.n, .string y.parent.p, .int .i64 y.parent.n, .string y.dst.p, .int .i64 y.dst.n, .string y.name, .string y.dname, .string y.left.p, .int .i64 y.left.n, .string y.right.p, .int .i64 y.right.n, .slice y.a1 y.dels.length y.c1, .int .i64 y.first, .slice y.a2 y.lines.length y.c2] 42)) ∧
    OpAt ((w.alloc (.cells #[.int .i64 x.kind, .string x.self.p, .int .i64 x.self.n, .string x.parent.p, .int .i64 x.parent.n, .string x.dst.p, .int .i64 x.dst.n, .string x.name, .string x.dname, .string x.left.p, .int .i64 x.left.n, .string x.right.p, .int .i64 x.right.n, .slice x.a1 x.dels.length x.c1, .int .i64 x.first, .slice x.a2 x.lines.length x.c2] 42)).alloc (.cells #[.int .i64 y.kind, .string y.self.p, .int .i64 y.self.n, .string y.parent.p, .int .i64 y.parent.n, .string y.dst.p, .int .i64 y.dst.n, .string y.name, .string y.dname, .string y.left.p, .int .i64 y.left.n, .string y.right.p, .int .i64 y.right.n, .slice y.a1 y.dels.length y.c1, .int .i64 y.first, .slice y.a2 y.lines.length y.c2] 42)) w.heap.size x ∧ OpAt ((w.alloc (.cells #[.int .i64 x.kind, .string x.self.p, .int .i64 x.self.n, .string x.parent.p, .int .i64 x.parent.n, .string x.dst.p, .int .i64 x.dst.n, .string x.name, .string x.dname, .string x.left.p, .int .i64 x.left.n, .string x.right.p, .int .i64 x.right.n, .slice x.a1 x.dels.length x.c1, .int .i64 x.first, .slice x.a2 x.lines.length x.c2] 42)).alloc (.cells #[.int .i64 y.kind, .string y.self.p, .int .i64 y.self.n, .string y.parent.p, .int .i64 y.parent.n, .string y.dst.p, .int .i64 y.dst.n, .string y.name, .string y.dname, .string y.left.p, .int .i64 y.left.n, .string y.right.p, .int .i64 y.right.n, .slice y.a1 y.dels.length y.c1, .int .i64 y.first, .slice y.a2 y.lines.length y.c2] 42)) (w.heap.size + 1) y := by
  obtain ⟨b1, h1⟩ := op_box w x
  obtain ⟨b2, h2⟩ := op_box (w.alloc (.cells #[.int .i64 x.kind, .string x.self.p, .int .i64 x.self.n, .string x.parent.p, .int .i64 x.parent.n, .string x.dst.p, .int .i64 x.dst.n, .string x.name, .string x.dname, .string x.left.p, .int .i64 x.left.n, .string x.right.p, .int .i64 x.right.n, .slice x.a1 x.dels.length x.c1, .int .i64 x.first, .slice x.a2 x.lines.length x.c2] 42)) y
  refine ⟨b1.trans (b2.mono b1.size), h1.on b2, ?_⟩
  have e : (w.alloc (.cells #[.int .i64 x.kind, .string x.self.p, .int .i64 x.self.n, .string x.parent.p, .int .i64 x.parent.n, .string x.dst.p, .int .i64 x.dst.n, .string x.name, .string x.dname, .string x.left.p, .int .i64 x.left.n, .string x.right.p, .int .i64 x.right.n, .slice x.a1 x.dels.length x.c1, .int .i64 x.first, .slice x.a2 x.lines.length x.c2] 42)).heap.size = w.heap.size + 1 := by simp
  rw [e] at h2
  exact h2
theorem elem_ids : Tryz.prog.elem 38 = 40 := by kernel_rfl
theorem ids_und : Tryz.prog.underlying 38 = some (.slice (Tryz.prog.elem 38)) := by
  rw [elem_ids]
  exact Tryz.underlying38
/-- The place of an id in a row whose address is told by an equation (the row itself stays as it is written). -/
theorem id_indexAt {A : Option Addr} {b off n c k : Nat} (e : A = some ⟨b, off, none⟩) (hk : k < n) (W : World) : (Instr.indexAt 38 (.slice A n c) (.int .i64 (k : Int))).run Tryz.prog W = .ok (.pointer (some ⟨b, off + k * 2, none⟩)) W := by
  subst e
  obtain ⟨i, hi⟩ := info_id
  have hs : (sizeOf 40).run Tryz.prog W = .ok 2 W := by rw [run_sizeOf W hi, cells_id]
  rw [run_indexAt_slice (h := ids_und), if_pos (by omega), elem_ids, hs, Result.andThen_ok]
  have e2 : (⟨b, off, none⟩ : Addr).add ((k : Int).toNat * 2) = ⟨b, off + k * 2, none⟩ := by unfold Addr.add; split <;> simp_all
  rw [e2]
end Go.Proofs.YtoajckhfnadhjaaGreatDoor
namespace Go.Proofs.YtoajckhfnadhjaaGreatDoor
open Go.RowKit Go.Shelf
set_option linter.unusedVariables false

theorem size_builder : (Tryz.prog.info? 102).map (·.size) = some 2 := by kernel_rfl
theorem info_byte : (Tryz.prog.info? 5).map (fun i => (i.zero, i.size, i.bytes)) = some (some (.int .u8 0), 1, 1) := by kernel_rfl

set_option maxRecDepth 100000 in
theorem check_used (b : Nat) (w : World) (hc : w.cell? ⟨b, 0, none⟩ = some (.pointer (some ⟨b, 0, none⟩))) :
    Calls Tryz.prog 114 #[.pointer (some ⟨b, 0, none⟩)] w fun e w' => e = .returned (.tuple #[]) ∧ w' = w := by
  obtain ⟨j, hj, _⟩ := Option.map_eq_some_iff.1 size_builder
  have hne := Lib.run_neq_ptr_same w ⟨b, 0, none⟩ Tryz.underlying99 hj
  go_enter Tryz.func114, Tryz.ntmps114
  go_wp2
  go_end0
  exact ⟨rfl, rfl⟩

set_option maxRecDepth 100000 in
theorem check_fresh (b : Nat) (w : World) (hc : w.cell? ⟨b, 0, none⟩ = some (.pointer none)) (hs : w.shape? b = some (102, 2)) (hf : w.frozen? ⟨b, 0, none⟩ = false) :
    Calls Tryz.prog 114 #[.pointer (some ⟨b, 0, none⟩)] w fun e w' => e = .returned (.tuple #[]) ∧ w' = w.setCell ⟨b, 0, none⟩ (.pointer (some ⟨b, 0, none⟩)) := by
  obtain ⟨j, hj, hjs⟩ := Option.map_eq_some_iff.1 size_builder
  have k1 := Lib.run_to_unsafe w ⟨b, 0, none⟩ Tryz.underlying99 Tryz.underlying150 hj (by rw [hjs]; decide) hs (Nat.zero_lt_succ 1)
  have k2 : (callFunc 145 #[.pointer (some ⟨b, 0, none⟩)]).run Tryz.prog w = .ok (.value (.pointer (some ⟨b, 0, none⟩))) w := by
    rw [run_callFunc_extern Tryz.func145 (by kernel_rfl) (by kernel_rfl) (by kernel_rfl) (e := Extern.AbiNoEscape.same) (by kernel_rfl), Lib.run_noEscape]
    rfl
  have k3 := Lib.run_from_unsafe w ⟨b, 0, none⟩ Tryz.underlying150 Tryz.underlying99 hj hs (by kernel_rfl)
  go_enter Tryz.func114, Tryz.ntmps114
  go_wp2
  go_end0
  exact ⟨rfl, rfl⟩

/-- copyCheck, of a builder of the call's own, fresh or used. -/
theorem check_any (B b : Nat) (bs : List Value) (w : World) (h : Lib.IsBuilderF 102 5 B b bs w) :
    Calls Tryz.prog 114 #[.pointer (some ⟨b, 0, none⟩)] w fun e w' => e = .returned (.tuple #[]) ∧ (Lib.BuilderAtF 102 5 B b (.pointer (some ⟨b, 0, none⟩)) bs w' ∧ Below B w w' ∧ Lib.OthersKept 5 (some b) w w') := by
  rcases h with h | h
  · refine (check_fresh b w h.cell0 h.shape h.frozen0).mono ?_
    rintro e w' ⟨rfl, rfl⟩
    exact ⟨rfl, h.used _, (Below.refl B w).setCell (p := ⟨b, 0, none⟩) h.1 _, (Lib.OthersKept.refl _ _ w).setCell ⟨b, 0, none⟩ rfl _⟩
  · refine (check_used b w h.cell0).mono ?_
    rintro e w' ⟨rfl, rfl⟩
    exact ⟨rfl, h, Below.refl B _, Lib.OthersKept.refl _ _ _⟩

set_option maxHeartbeats 1000000 in
set_option maxRecDepth 100000 in
/-- WriteString: the bytes come behind those that are there. -/
theorem write_any (B b : Nat) (bs : List Value) (s : ByteArray) (w : World) (h : Lib.IsBuilderF 102 5 B b bs w) (hlen : bs.length + s.size ≤ 140737488355328) (hBw : B ≤ w.heap.size) :
    Calls Tryz.prog 86 #[.pointer (some ⟨b, 0, none⟩), .string s] w fun e w' => e = .returned (.tuple #[.int .i64 s.size, .nilIface]) ∧
      (Lib.IsBuilderF 102 5 B b (bs ++ Lib.strCells s) w' ∧ Below B w w' ∧ Lib.OthersKept 5 (some b) w w') := by
  obtain ⟨i0, hi, hz0, hz1, hz2⟩ := info_parts info_byte
  have H := Lib.hid h
  clear h
  go_enter Tryz.func86, Tryz.ntmps86
  go_wp2_with (go_at_call 114; refine (check_any B b bs _ H.out).mono ?_)
  rintro e w1 ⟨rfl, h1, hb1, hk1⟩
  obtain ⟨hB, v, hbk, hown, hne⟩ := h1
  have c0 : w1.cell? ⟨b, 0, none⟩ = some (.pointer (some ⟨b, 0, none⟩)) := by rw [Lib.cell_of_heap hbk]; rfl
  have c1 : w1.cell? ⟨b, 1, none⟩ = some v := by rw [Lib.cell_of_heap hbk]; rfl
  go_wp2_with (at_builtin; refine Lib.wpList_append_own_stringF _ rfl _ _ 100 9 rfl B 5 i0 Tryz.underlying100 Tryz.underlying9 hi hz0 hz1 hz2 _ _ _ rfl hown s rfl ?c3 ?c4 ?c5 ?_)
  case c3 => unfold maxLen; omega
  case c4 => omega
  case c5 => have := hb1.size; omega
  intro v' w2 hown' hgrow _
  have hlt : b < w1.heap.size := Lib.BuilderAtF.lt ⟨hB, v, hbk, hown, hne⟩
  have hb2 : w2.heap[b]? = some (.cells #[.pointer (some ⟨b, 0, none⟩), v] 102 (0, 0)) := (hgrow.block b hlt fun e => hne e.symm).trans hbk
  have d0 : w2.cell? ⟨b, 0, none⟩ = some (.pointer (some ⟨b, 0, none⟩)) := by rw [Lib.cell_of_heap hb2]; rfl
  have d1 : w2.cell? ⟨b, 1, none⟩ = some v := by rw [Lib.cell_of_heap hb2]; rfl
  have f1 : w2.frozen? ⟨b, 1, none⟩ = false := Lib.frozen_of_heap hb2 1
  obtain ⟨ao, n', cap, rfl⟩ : ∃ ao n' cap, v' = .slice ao n' cap := by
    rcases hown'.2 with ⟨hv, _⟩ | ⟨g, cap, cur, fz, hv, _⟩
    · exact ⟨_, _, _, hv⟩
    · exact ⟨_, _, _, hv⟩
  go_wp2
  go_ret2
  refine ⟨rfl, .inr ?_, ?_, (hk1.grown hgrow (Lib.ownsRowF_kind hown)).setCell ⟨b, 1, none⟩ rfl _⟩
  · exact Lib.BuilderAtF.put (T := 102) (e := 5) hB hb2 (bs' := bs ++ Lib.strCells s) (by simpa [Lib.strCells_length] using hown') (by decide)
  · exact (hb1.grown hgrow (by have := hb1.size; omega) (fun k hk => (hown.lt k hk).1)).setCell (p := ⟨b, 1, none⟩) hB _

def ren_s : Ren := ⟨fun | 169 => 88 | n => n, fun | 70 => 99 | 9 => 9 | 0 => 0 | 72 => 102 | 37 => 100 | 127 => 124 | 3 => 3 | 5 => 5 | n => n, fun | n => n⟩
theorem lays_s : Go.Proofs.Lays.n169 Tryz.prog ren_s := {
  mixed := by kernel_rfl
  f169 := Tryz.func88.trans (congrArg some (by kernel_rfl))
  t0 := Tryz.underlying0
  a0 := Tryz.isAgg0
  z0 := Tryz.sizeOf0
  v0 := Tryz.zeroValue0
  t3 := Tryz.underlying3
  a3 := Tryz.isAgg3
  z3 := Tryz.sizeOf3
  v3 := Tryz.zeroValue3
  t9 := Tryz.underlying9
  a9 := Tryz.isAgg9
  z9 := Tryz.sizeOf9
  v9 := Tryz.zeroValue9
  t37 := Tryz.underlying100
  a37 := Tryz.isAgg100
  z37 := Tryz.sizeOf100
  v37 := Tryz.zeroValue100
  t70 := Tryz.underlying99
  a70 := Tryz.isAgg99
  z70 := Tryz.sizeOf99
  v70 := Tryz.zeroValue99
  t72 := Tryz.underlying102
  a72 := Tryz.isAgg102
  z72 := Tryz.sizeOf102
  v72 := Tryz.zeroValue102
  t127 := Tryz.underlying124
  a127 := Tryz.isAgg124
  z127 := Tryz.sizeOf124
  v127 := Tryz.zeroValue124 }
theorem extra_s : Builder.Extra Tryz.prog ren_s := {
  sizeBuilder := by kernel_rfl
  liesBuilder := by kernel_rfl
  t5 := Tryz.underlying5
  a5 := Tryz.isAgg5
  z5 := Tryz.sizeOf5
  v5 := Tryz.zeroValue5
  infoByte := by kernel_rfl
  cellsByte := by kernel_rfl
  sizeByte := by kernel_rfl
  neB5 := by decide }
/-- String: all that was written. -/
theorem string_any (B b : Nat) (l : List UInt8) (w : World) (h : Lib.IsBuilderF 102 5 B b (Lib.byteCells l) w) (hBw : B ≤ w.heap.size) :
    Calls Tryz.prog 88 #[.pointer (some ⟨b, 0, none⟩)] w fun e w' => e = .returned (.string ⟨l.toArray⟩) ∧ (Lib.IsBuilderF 102 5 B b (Lib.byteCells l) w' ∧ Below B w w' ∧ Lib.OthersKept 5 (some b) w w') :=
  Any.Builder_String_any_k lays_s extra_s B b l w h hBw
end Go.Proofs.YtoajckhfnadhjaaGreatDoor
namespace Go.Proofs.YtoajckhfnadhjaaGreatDoor
open Go.RowKit
set_option linter.unusedVariables false

/-- Strings lie at A, in a block that is a row of strings. -/
def StrRow (w : World) (A : Option Addr) (ss : List ByteArray) : Prop :=
  0 < ss.length → ∃ b off cur fz, A = some ⟨b, off, none⟩ ∧ w.heap[b]? = some (.cells cur 9 fz) ∧ ∀ j (h : j < ss.length), cur[off + j]? = some (.string ss[j])
/-- The bytes of strings, one behind the other. -/
def flat (ss : List ByteArray) : List UInt8 := (ss.map (·.data.toList)).flatten

theorem flat_take (ss : List ByteArray) (k : Nat) (h : k < ss.length) : flat (ss.take (k + 1)) = flat (ss.take k) ++ ss[k].data.toList := by
  unfold flat
  rw [List.take_succ_eq_append_getElem h, List.map_append, List.flatten_append]
  simp only [List.map_cons, List.map_nil, List.flatten_cons, List.flatten_nil, List.append_nil]
theorem flat_all (ss : List ByteArray) (k : Nat) (h : ss.length ≤ k) : flat (ss.take k) = flat ss := by rw [List.take_of_length_le h]
theorem flat_take_le (ss : List ByteArray) (k : Nat) : (flat (ss.take k)).length ≤ (flat ss).length := by
  have h : flat ss = flat (ss.take k) ++ flat (ss.drop k) := by
    simp only [flat, ← List.flatten_append, ← List.map_append, List.take_append_drop]
  rw [h]; simp
theorem strCells_eq (s : ByteArray) : Lib.strCells s = Lib.byteCells s.data.toList := by
  first | rfl | simp [Lib.strCells, Lib.byteCells]
theorem byteCells_append (a b : List UInt8) : Lib.byteCells (a ++ b) = Lib.byteCells a ++ Lib.byteCells b := by
  simp [Lib.byteCells]

section
variable {w w' : World} {B B' : Nat} {A : Option Addr} {ss : List ByteArray}
theorem StrRow.at_ {k : Nat} (h : StrRow w A ss) (hk : k < ss.length) : ∃ b off, A = some ⟨b, off, none⟩ ∧ w.cell? ⟨b, off + k, none⟩ = some (.string ss[k]) := by
  obtain ⟨b, off, cur, fz, e, hb, hc⟩ := h (by omega)
  exact ⟨b, off, e, by rw [cell_of_row w b (off + k) cur _ fz hb]; exact hc k hk⟩
theorem StrRow.kept {b : Nat} {T : TypeId} {cs : Array Value} {fr : Nat × Nat} (h : StrRow w A ss) (hk : Lib.OthersKept 5 (some b) w w') (hb : w.heap[b]? = some (.cells cs T fr)) (hT : T ≠ 9) : StrRow w' A ss := fun hp => by
  obtain ⟨g, off, cur, fz, e, hg, hc⟩ := h hp
  refine ⟨g, off, cur, fz, e, hk g _ hg ?_ ?_, hc⟩
  · intro he
    have : g = b := by simpa using he
    subst this
    rw [hg] at hb
    simp only [Option.some.injEq, Obj.cells.injEq] at hb
    exact hT hb.2.1.symm
  · intro c f he
    simp only [Obj.cells.injEq] at he
    exact absurd he.2.1 (by decide)
/-- A builder stays one where only new blocks are made. -/
theorem builder_below {T e : TypeId} {b : Nat} {bs : List Value} (h : Lib.IsBuilderF T e B b bs w) (hb : Below w.heap.size w w') : Lib.IsBuilderF T e B b bs w' := by
  have hg : w.grownBy w' none := ⟨hb.os, hb.tape, hb.output, hb.size, fun i hi _ => hb.block i hi⟩
  have at_ : ∀ p, Lib.BuilderAtF T e B b p bs w → Lib.BuilderAtF T e B b p bs w' := by
    rintro p ⟨hB, v, hbk, hown, hne⟩
    have hlt : b < w.heap.size := Lib.BuilderAtF.lt ⟨hB, v, hbk, hown, hne⟩
    exact ⟨hB, v, (hb.block b hlt).trans hbk, hown.kept hg (by cases v.ownBlock <;> simp), hne⟩
  exact h.imp (at_ _) (at_ _)
theorem builder_block {T e : TypeId} {b : Nat} {bs : List Value} (h : Lib.IsBuilderF T e B b bs w) : ∃ cs fr, w.heap[b]? = some (.cells cs T fr) := by
  rcases h with ⟨_, v, hb, _⟩ | ⟨_, v, hb, _⟩ <;> exact ⟨_, _, hb⟩
end
end Go.Proofs.YtoajckhfnadhjaaGreatDoor
namespace Go.Proofs.YtoajckhfnadhjaaGreatDoor
open Go.RowKit
set_option linter.unusedVariables false

theorem info_u8 : (Tryz.prog.info? 5).map (fun i => (i.zero, i.size, i.bytes)) = some (some (.int .u8 0), 1, 1) := by kernel_rfl
/-- Bytes as cells. -/
def bcells (l : List UInt8) : List Value := l.map fun b => .int .u8 (b.toNat : Int)
theorem bcells_len (l : List UInt8) : (bcells l).length = l.length := by simp [bcells]

theorem bcells_snoc (l : List UInt8) (b : UInt8) (x : Int) (h : (b.toNat : Int) = x) : bcells l ++ [.int .u8 x] = bcells (l ++ [b]) := by
  subst h; simp [bcells]
/-- A row of bytes of the call's own, as a string. -/
theorem own_string {w : World} {base : Nat} {v : Value} {n : Nat} (l : List UInt8) (h : w.ownsRow base 5 1 v n (bcells l)) (hp : 0 < l.length) :
    (convert 100 9 v).run Tryz.prog w = .ok (.string ⟨l.toArray⟩) w := by
  have hn : n = l.length := by have := h.1; rw [bcells_len] at this; omega
  subst hn
  have h' := h
  rcases h.2 with ⟨_, h0⟩ | ⟨g, cap, cur, rfl, _⟩
  · omega
  refine run_convert_bytes_back w _ _ _ _ cap l Tryz.underlying100 Tryz.underlying5 Tryz.underlying9 fun j hj => ?_
  exact h'.cells (g := g) rfl j _ (by simp [bcells, List.getElem?_eq_getElem hj])
theorem or128 : ∀ x : Fin 256, bits .or .u8 (x.val : Int) 128 = 128 + (x.val : Int) % 128 := by decide +kernel
theorem or128_nat (m : Nat) : bits .or .u8 ((m : Int) % 256) 128 = 128 + (m : Int) % 128 := by
  have := or128 ⟨m % 256, by omega⟩
  have e : ((m % 256 : Nat) : Int) = (m : Int) % 256 := by omega
  simp only [e] at this
  rw [show ((m : Int) % 256 % 128) = (m : Int) % 128 from by omega] at this
  exact this

set_option maxRecDepth 100000 in
theorem num_any (n : Int) (w : World) (h0 : 0 ≤ n) (h1 : n ≤ 18446744073709551615) :
    Calls Tryz.prog 84 #[.int .u64 n] w fun e w' => e = .returned (.string ⟨(numB n.toNat).toArray⟩) ∧ Below w.heap.size w w' := by
  obtain ⟨i0, hi, hz0, hz1, hz2⟩ := info_parts info_u8
  go_enter Tryz.func84, Tryz.ntmps84
  go_wp2
  go_loopw [0, 3] (fun x v wr => ∃ (f m : Nat) (pre : List UInt8), x = .int .u64 (m : Int) ∧ Hid (m < 128 ^ (f + 1)) ∧ Hid (pre.length + f = 9) ∧ Hid (numB n.toNat = pre ++ numF f m) ∧
      wr.ownsRow w.heap.size 5 1 v pre.length (bcells pre) ∧ Below w.heap.size w wr) (fun x _ _ => (intOf x).toNat)
  case atStart => exact ⟨9, n.toNat, [], by rw [Int.toNat_of_nonneg h0], u64_pow _ (by omega), rfl, rfl, World.ownsRow_nil _ _ _ _, Below.refl _ _⟩
  case round =>
    obtain ⟨f, m, pre, rfl, hm, hl, hnum, hown, hb⟩ := hrel
    clear h0 h1
    have hlen : pre.length ≤ 9 := by have := hl.out; omega
    by_cases hc : m < 128
    · go_wp2_with (at_builtin; refine wpList_append_own _ rfl _ _ 100 rfl w.heap.size 5 i0 (.int .u8 0) 1 1 Tryz.underlying100 hi hz0 hz1 hz2 rfl (by decide) _ _ _ rfl (hown.alloc _) ⟨wr.heap.size, 0, none⟩ 1 1 [.int .u8 (m : Int)] rfl rfl ?c1 ?c2 ?c3 ?c4 ?c5 ?_)
      case c1 => exact cell_one_new _ _ _
      case c2 => intro u hu; simp at hu; subst hu; rfl
      case c3 => unfold maxLen; omega
      case c4 => omega
      case c5 => have := hb.size; simp; omega
      intro v' w1 hown' hgrow _
      rw [bcells_snoc pre (UInt8.ofNat m) _ (toNat_lo m hc)] at hown'
      have hrun := own_string _ hown' (by simp)
      have hb2 : Below w.heap.size w w1 := (hb.alloc hb.size _).grown hgrow (by have := hb.size; simp; omega) (fun k hk => (hown.lt k hk).1)
      have hfin : pre ++ [UInt8.ofNat m] = numB n.toNat := by rw [hnum.out, numF_lt f m hc]
      have Hf := Lib.hid hfin
      clear hfin hown' hgrow hown hnum hm hl
      go_wp2
      go_ret
      rw [Hf.out]
      exact ⟨rfl, hb2⟩
    · go_wp2_with (at_builtin; refine wpList_append_own _ rfl _ _ 100 rfl w.heap.size 5 i0 (.int .u8 0) 1 1 Tryz.underlying100 hi hz0 hz1 hz2 rfl (by decide) _ _ _ rfl (hown.alloc _) ⟨wr.heap.size, 0, none⟩ 1 1 [.int .u8 (bits .or .u8 ((m : Int) % 256) 128)] rfl rfl ?d1 ?d2 ?d3 ?d4 ?d5 ?_)
      case d1 => exact cell_one_new _ _ _
      case d2 => intro u hu; simp at hu; subst hu; rfl
      case d3 => unfold maxLen; omega
      case d4 => omega
      case d5 => have := hb.size; simp; omega
      intro v' w1 hown' hgrow _
      rw [bcells_snoc pre (UInt8.ofNat (128 + m % 128)) _ ((toNat_hi m).trans (or128_nat m).symm)] at hown'
      have hb2 : Below w.heap.size w w1 := (hb.alloc hb.size _).grown hgrow (by have := hb.size; simp; omega) (fun k hk => (hown.lt k hk).1)
      obtain ⟨g, rfl⟩ : ∃ g, f = g + 1 := ⟨f - 1, by
        have := hm.out
        rcases Nat.eq_zero_or_pos f with h | h
        · subst h; simp at this; omega
        · omega⟩
      have hfin : Hid (numB n.toNat = (pre ++ [UInt8.ofNat (128 + m % 128)]) ++ numF g (m / 128)) := by
        show numB n.toNat = _
        rw [hnum.out, numF_ge g m (by omega)]; simp
      have hm2 : Hid (m / 128 < 128 ^ (g + 1)) := div_pow m g hm.out
      have hl2 : Hid ((pre ++ [UInt8.ofNat (128 + m % 128)]).length + g = 9) := by
        have := hl.out
        show _ = _
        simp; omega
      have hown2 : w1.ownsRow w.heap.size 5 1 v' (pre ++ [UInt8.ofNat (128 + m % 128)]).length (bcells (pre ++ [UInt8.ofNat (128 + m % 128)])) := by
        simpa using hown'
      clear hown' hgrow hown hnum hm hl
      go_wp2
      go_roundw
      case rel => exact ⟨g, m / 128, _, by go_num, hm2, hl2, hfin, hown2, hb2⟩
      case measure => simp [intOf]; omega
end Go.Proofs.YtoajckhfnadhjaaGreatDoor
namespace Go.Proofs.YtoajckhfnadhjaaGreatDoor
open Go.RowKit
set_option linter.unusedVariables false

theorem size_of_mk (l : List UInt8) : (⟨l.toArray⟩ : ByteArray).size = l.length := by simp [ByteArray.size]
/-- The end of a number, as an int: -1, if there is none. -/
def endInt (o : Option Nat) : Int := match o with | none => -1 | some e => (e : Int)

set_option maxRecDepth 100000 in
theorem numberEnd_any (s : ByteArray) (w : World) (hs : s.size ≤ 9223372036854775807) :
    Calls Tryz.prog 123 #[.string s] w fun e w' => e = .returned (.int .i64 (endInt (numEnd s.data.toList))) ∧ w = w' := by
  go_enter Tryz.func123, Tryz.ntmps123
  go_wp2
  go_loop [6] (fun i => ∃ k : Nat, k ≤ s.size ∧ i = .int .i64 (k : Int) ∧ Hid (∀ j (hj : j < s.data.toList.length), j < k → ¬ s.data.toList[j].toNat < 128)) (fun i => s.size - (intOf i).toNat)
  case atStart => exact ⟨0, Nat.zero_le _, rfl, fun j _ h => absurd h (by omega)⟩
  case round =>
    obtain ⟨k, hk, rfl, hall⟩ := hrel
    by_cases hlt : k < s.size
    · have hkl : k < s.data.toList.length := by simpa using hlt
      by_cases hb : s[k].toNat < 128
      · have hfin : Hid (numEnd s.data.toList = some (k + 1)) := numEnd_hit _ k hkl hb hall.out
        clear hall
        go_wp2
        go_ret
        rw [hfin.out]
        exact ⟨by simp [endInt], rfl⟩
      · have hall2 : Hid (∀ j (hj : j < s.data.toList.length), j < k + 1 → ¬ s.data.toList[j].toNat < 128) := by
          intro j hj hjk
          by_cases he : j = k
          · subst he; exact hb
          · exact hall.out j hj (by omega)
        clear hall
        go_wp2
        go_round
        case rel => exact ⟨k + 1, by omega, by go_num, hall2⟩
        case measure => simp [intOf]; omega
    · have hk2 : k = s.size := by omega
      subst hk2
      have hfin : Hid (numEnd s.data.toList = none) := numEnd_miss _ fun j hj => hall.out j hj (by simpa using hj)
      clear hall
      go_wp2
      go_ret
      rw [hfin.out]
      exact ⟨rfl, rfl⟩

theorem or7 (n b : Nat) (hn : n < 144115188075855872) : bits .or .u64 ((n : Int) * 128) ((b : Int) % 128) = ((n * 128 + b % 128 : Nat) : Int) := by
  have e1 : ((n : Int) * 128) = ((n * 128 : Nat) : Int) := by omega
  have e2 : ((b : Int) % 128) = ((b % 128 : Nat) : Int) := by omega
  rw [e1, e2, u64_or_nat _ _ (by omega) (by omega)]
  congr 1
  have h := Nat.two_pow_add_eq_or_of_lt (i := 7) (b := b % 128) (by omega) n
  have e3 : 2 ^ 7 * n = n * 128 := by omega
  rw [e3] at h
  exact h.symm
theorem take_rev (l : List UInt8) (j : Nat) (h : j < l.length) : (l.take (j + 1)).reverse = l[j] :: (l.take j).reverse := by
  rw [List.take_succ_eq_append_getElem h]; simp
def pair (o : Option Nat) : Value := match o with | none => .tuple #[.int .u64 0, .bool false] | some n => .tuple #[.int .u64 (n : Int), .bool true]
set_option maxRecDepth 100000 in
theorem number_any (s : ByteArray) (w : World) (hs : s.size ≤ 9223372036854775807) :
    Calls Tryz.prog 124 #[.string s] w fun e w' => e = .returned (pair (numVal s.data.toList)) ∧ w = w' := by
  have hlen : s.data.toList.length = s.size := by simp
  by_cases h1 : 1 < s.size ∧ s.data.toList.getLast? = some 0
  · obtain ⟨h1, h2⟩ := h1
    have hfin : Hid (numVal s.data.toList = none) := by
      show _ = _
      unfold numVal
      rw [if_pos ⟨by omega, h2⟩]
    have h3 : ((s[s.size - 1].toNat : Int) == 0) = true := by
      rw [List.getLast?_eq_getElem?, hlen, List.getElem?_eq_getElem (by omega)] at h2
      simp only [Option.some.injEq] at h2
      have : s[s.size - 1] = 0 := h2
      rw [this]; rfl
    clear h2
    have HL := Lib.hid hlen
    go_enter Tryz.func124, Tryz.ntmps124
    go_wp2
    go_ret2
    rw [hfin.out]
    exact ⟨rfl, rfl⟩
  · have hfin : Hid (numVal s.data.toList = valR s.data.toList.reverse 0) := by
      show _ = _
      unfold numVal
      rw [if_neg (by rw [hlen]; exact h1)]
    have h4 : s.size ≤ 1 ∨ (∃ h : 1 < s.size, ((s[s.size - 1].toNat : Int) == 0) = false) := by
      rcases Nat.lt_or_ge 1 s.size with h | h
      · right
        refine ⟨h, ?_⟩
        rw [beq_eq_false_iff_ne]
        intro h0
        apply h1
        refine ⟨h, ?_⟩
        rw [List.getLast?_eq_getElem?, hlen, List.getElem?_eq_getElem (by omega)]
        simp only [Option.some.injEq]
        have h5 : s[s.size - 1].toNat = 0 := by omega
        have h6 : s[s.size - 1] = 0 := by apply UInt8.toNat_inj.1; simpa using h5
        exact h6
      · exact .inl h
    clear h1
    rcases h4 with h4 | ⟨h4, h5⟩
    all_goals
      go_enter Tryz.func124, Tryz.ntmps124
      go_wp2
      go_loop [4, 5] (fun x i => ∃ k n : Nat, k ≤ s.size ∧ i = .int .i64 ((k : Int) - 1) ∧ x = .int .u64 (n : Int) ∧ Hid (valR s.data.toList.reverse 0 = valR (s.data.toList.take k).reverse n)) (fun _ i => (intOf i + 1).toNat)
      case atStart => exact ⟨s.size, 0, Nat.le_refl _, rfl, rfl, by rw [List.take_of_length_le (by omega)]; rfl⟩
      case round =>
        obtain ⟨k, n, hk, rfl, rfl, hv⟩ := hrel
        by_cases hk0 : k = 0
        · subst hk0
          go_wp2
          go_ret2
          rw [hfin.out, hv.out]
          simp [valR, pair]
        · obtain ⟨j, rfl⟩ : ∃ j, k = j + 1 := ⟨k - 1, by omega⟩
          have ej : (((j + 1 : Nat) : Int) - 1) = (j : Int) := by omega
          rw [ej]
          have hr := take_rev s.data.toList j (by omega)
          have hjs : j < s.size := by omega
          by_cases h57 : n < 144115188075855872
          · have hv2 : Hid (valR s.data.toList.reverse 0 = valR (s.data.toList.take j).reverse (n * 128 + s[j].toNat % 128)) := by
              show _ = _
              rw [hv.out, hr, valR, if_pos h57]
              rfl
            have ho := or7 n s[j].toNat h57
            have HO := Lib.hid ho
            clear hr hv ho
            go_wp2
            go_round
            case rel => exact ⟨j, n * 128 + s[j].toNat % 128, by omega, rfl, by rw [HO.out], hv2⟩
            case measure => simp [intOf]
          · have hv2 : Hid (valR s.data.toList.reverse 0 = none) := by
              show _ = _
              rw [hv.out, hr, valR, if_neg h57]
            clear hr hv
            go_wp2
            go_ret2
            rw [hfin.out, hv2.out]
            exact ⟨rfl, rfl⟩
end Go.Proofs.YtoajckhfnadhjaaGreatDoor
namespace Go.Proofs.YtoajckhfnadhjaaGreatDoor
open Go.RowKit
set_option linter.unusedVariables false

/-- A Reader lies in block g: what is left, and the error. -/
def Rd (w : World) (g : Nat) (l : List UInt8) (e : Int) : Prop := w.heap[g]? = some (.cells #[.string ⟨l.toArray⟩, .int .i64 e] 88 (0, 0))
section
variable {w w' : World} {g : Nat} {l : List UInt8} {e : Int}
theorem Rd.c0 (h : Rd w g l e) : w.cell? ⟨g, 0, none⟩ = some (.string ⟨l.toArray⟩) := (cell_of_row w g 0 _ _ _ h).trans rfl
theorem Rd.c1 (h : Rd w g l e) : w.cell? ⟨g, 1, none⟩ = some (.int .i64 e) := (cell_of_row w g 1 _ _ _ h).trans rfl
theorem Rd.f (h : Rd w g l e) (i : Nat) : w.frozen? ⟨g, i, none⟩ = false := by
  unfold Rd at h
  simp [World.frozen?, h]
theorem Rd.lt (h : Rd w g l e) : g < w.heap.size := (Array.getElem?_eq_some_iff.1 h).1
theorem Rd.set0 (h : Rd w g l e) (l' : List UInt8) : Rd (w.setCell ⟨g, 0, none⟩ (.string ⟨l'.toArray⟩)) g l' e := by
  unfold Rd at h ⊢
  simp [World.setCell, Array.getElem?_modify, h]
theorem Rd.set1 (h : Rd w g l e) (e' : Int) : Rd (w.setCell ⟨g, 1, none⟩ (.int .i64 e')) g l e' := by
  unfold Rd at h ⊢
  simp [World.setCell, Array.getElem?_modify, h]
theorem Rd.below (h : Rd w g l e) (hb : Below w.heap.size w w') : Rd w' g l e := (hb.block g h.lt).trans h
end
theorem grownBy_refl (w : World) (row : Option Nat) : w.grownBy w row := ⟨rfl, rfl, rfl, Nat.le_refl _, fun _ _ _ => rfl⟩
theorem grownBy_trans {a b c : World} {row : Option Nat} (h : a.grownBy b row) (k : b.grownBy c row) : a.grownBy c row :=
  ⟨k.os.trans h.os, k.tape.trans h.tape, k.output.trans h.output, Nat.le_trans h.size k.size, fun i hi hne => (k.block i (Nat.lt_of_lt_of_le hi h.size) hne).trans (h.block i hi hne)⟩
theorem grownBy_set (w : World) (g i : Nat) (u : Value) : w.grownBy (w.setCell ⟨g, i, none⟩ u) (some g) :=
  ⟨rfl, rfl, rfl, by simp [World.setCell], fun k _ hne => Below.heap_setCell w _ u k (fun e => hne (by simp [e]))⟩
theorem below_of_grownBy {B g : Nat} {a w w' : World} (h : Below B a w) (hg : w.grownBy w' (some g)) (hB : B ≤ g) (hs : B ≤ w.heap.size) : Below B a w' :=
  h.grown hg hs (fun k hk => by simp only [Option.some.injEq] at hk; omega)

theorem read_any (s : ByteArray) (w : World) :
    Calls Tryz.prog 40 #[.string s] w fun e w' => e = .returned (.pointer (some ⟨w.heap.size, 0, none⟩)) ∧ Rd w' w.heap.size s.data.toList 0 ∧ Below w.heap.size w w' := by
  go_enter Tryz.func40, Tryz.ntmps40
  go_wp2
  go_ret
  exact ⟨rfl, heap_alloc_new w _, (Below.refl _ w).alloc (Nat.le_refl _) _⟩

theorem left_any (g : Nat) (l : List UInt8) (e0 : Int) (w : World) (h : Rd w g l e0) :
    Calls Tryz.prog 45 #[.pointer (some ⟨g, 0, none⟩)] w fun e w' => e = .returned (.int .i64 (l.length : Int)) ∧ w = w' := by
  have h0 := h.c0
  go_enter Tryz.func45, Tryz.ntmps45
  go_wp2
  go_ret
  exact ⟨by simp, rfl⟩

theorem err_any (g : Nat) (l : List UInt8) (e0 : Int) (w : World) (h : Rd w g l e0) :
    Calls Tryz.prog 43 #[.pointer (some ⟨g, 0, none⟩)] w fun e w' => e = .returned (.int .i64 e0) ∧ w = w' := by
  have h1 := h.c1
  go_enter Tryz.func43, Tryz.ntmps43
  go_wp2
  go_ret
  exact ⟨rfl, rfl⟩

theorem fail_any (g : Nat) (l : List UInt8) (e0 e1 : Int) (w : World) (h : Rd w g l e0) :
    Calls Tryz.prog 101 #[.pointer (some ⟨g, 0, none⟩), .int .i64 e1] w fun e w' => e = .returned (.tuple #[]) ∧ Rd w' g [] e1 ∧ w.grownBy w' (some g) := by
  have h0 := h.c0
  have h1 := h.c1
  have f0 := h.f 0
  have f1 := h.f 1
  go_enter Tryz.func101, Tryz.ntmps101
  go_wp2
  go_end0
  exact ⟨rfl, (h.set0 []).set1 e1, grownBy_trans (grownBy_set w g 0 _) (grownBy_set _ g 1 _)⟩
end Go.Proofs.YtoajckhfnadhjaaGreatDoor
