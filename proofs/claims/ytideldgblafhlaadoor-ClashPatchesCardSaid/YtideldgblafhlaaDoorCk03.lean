/- Rows of records that a call made, in a block of their own, written over; a variable of a record handed back. Words for memory: operations, rows of operations. Arrays of five ids: held against each other, an element of one. Operations, and rows of five ids, handed back out of a variable. Operations plainly, as package op asks for them: their own parts, the parts that are formed; bytes read back. Package ident's Root, Begin, End; Has: the library's Index, Contains of ids. Package ident's Right. The reference's made, or, none of ids. Package op: which ids are made, which places are right. The reference's Less, Has, Same of ids. -/
import Derived.Lib.SlicesCompact
import Derived.Laws.Rows
import Derived.Laws.ResultCell
import Derived.ChangeKeysEq
import Derived.BigQuiet
import Derived.Deep.QuietTactic
import Derived.Lib.QuietBelow
import Derived.Test.YtideldgblafhlaaDoorCk02
namespace Go.Proofs.YtideldgblafhlaaDoor
open Go.RowKit
set_option linter.unusedVariables false

namespace Rk
theorem grown_below {w w' w2 : World} {g : Nat} (h : w.grownBy w' (some g)) (hb : Below w'.heap.size w' w2) : w.grownBy w2 (some g) :=
  ⟨hb.os.trans h.os, hb.tape.trans h.tape, hb.output.trans h.output, Nat.le_trans h.size hb.size, fun k hk hne => (hb.block k (Nat.lt_of_lt_of_le hk h.size)).trans (h.block k hk hne)⟩
theorem grown_both {a b c : World} {row : Option Nat} (h : a.grownBy b row) (k : b.grownBy c row) : a.grownBy c row := ⟨k.os.trans h.os, k.tape.trans h.tape, k.output.trans h.output, Nat.le_trans h.size k.size, fun i hi hr => (k.block i (Nat.lt_of_lt_of_le hi h.size) hr).trans (h.block i hi hr)⟩
theorem setCells_block (g : Nat) : ∀ (vs : List Value) (o : Nat) (w : World), ∀ k, k ≠ g → (w.setCells g o vs).heap[k]? = w.heap[k]?
  | [], _, _, _, _ => rfl
  | v :: r, o, w, k, h => by
    rw [World.setCells, setCells_block g r _ _ k h]
    exact Below.heap_setCell w ⟨g, o, none⟩ v k h
theorem setCells_size (g : Nat) : ∀ (vs : List Value) (o : Nat) (w : World), (w.setCells g o vs).heap.size = w.heap.size
  | [], _, _ => rfl
  | v :: r, o, w => by rw [World.setCells, setCells_size g r]; simp [World.setCell]
theorem setCells_rest (g : Nat) : ∀ (vs : List Value) (o : Nat) (w : World), (w.setCells g o vs).os = w.os ∧ (w.setCells g o vs).tape = w.tape ∧ (w.setCells g o vs).output = w.output
  | [], _, _ => ⟨rfl, rfl, rfl⟩
  | v :: r, o, w => by rw [World.setCells]; exact setCells_rest g r (o + 1) _
theorem setCells_grown (w : World) (g o : Nat) (vs : List Value) : w.grownBy (w.setCells g o vs) (some g) :=
  ⟨(setCells_rest g vs o w).1, (setCells_rest g vs o w).2.1, (setCells_rest g vs o w).2.2, Nat.le_of_eq (setCells_size g vs o w).symm, fun k hk hne => setCells_block g vs o w k fun e => hne (by rw [e])⟩
/-- Cells written over in a list. -/
def over : List Value → Nat → List Value → List Value
  | l, _, [] => l
  | l, o, v :: r => over (l.set o v) (o + 1) r
theorem over_len : ∀ (vs : List Value) (l : List Value) (o : Nat), (over l o vs).length = l.length
  | [], l, o => rfl
  | v :: r, l, o => by rw [over, over_len r, List.length_set]
theorem over_get : ∀ (vs : List Value) (l : List Value) (o t : Nat), (over l o vs)[t]? = if o ≤ t ∧ t < o + vs.length ∧ t < l.length then vs[t - o]? else l[t]?
  | [], l, o, t => by rw [over, if_neg (by simp; omega)]
  | v :: r, l, o, t => by
    rw [over, over_get r, List.length_set]
    by_cases h : t = o
    · subst h
      rw [if_neg (by omega)]
      by_cases hl : t < l.length
      · rw [if_pos ⟨by omega, by simp, hl⟩, List.getElem?_set_self hl, Nat.sub_self]
        rfl
      · rw [if_neg (by omega), List.getElem?_eq_none (by simp; omega), List.getElem?_eq_none (by omega)]
    · by_cases h2 : o + 1 ≤ t ∧ t < o + 1 + r.length ∧ t < l.length
      · rw [if_pos h2, if_pos ⟨by omega, by simp; omega, h2.2.2⟩, show t - o = (t - (o + 1)) + 1 by omega, List.getElem?_cons_succ]
      · rw [if_neg h2, List.getElem?_set_ne (fun e => h e.symm), if_neg (by simp only [List.length_cons]; omega)]
theorem setCells_arr (g : Nat) (t : TypeId) : ∀ (vs : List Value) (o : Nat) (w : World) (cur : Array Value), w.heap[g]? = some (.cells cur t (0, 0)) →
    ∃ cur', (w.setCells g o vs).heap[g]? = some (.cells cur' t (0, 0)) ∧ cur'.toList = over cur.toList o vs
  | [], _, w, cur, h => ⟨cur, h, rfl⟩
  | v :: r, o, w, cur, h => by
    obtain ⟨c2, h1, h2⟩ := setCells_arr g t r (o + 1) (w.setCell ⟨g, o, none⟩ v) (cur.setIfInBounds o v) (by simp [World.setCell, Array.getElem?_modify, h])
    refine ⟨c2, h1, ?_⟩
    rw [h2, Array.toList_setIfInBounds, over]
variable {α : Type}
/-- A row of records in a block of its own, from its beginning on; the block has room for cap. -/
structure Blk (R : Rk α) (w : World) (g cap : Nat) (d : List α) : Prop where
  h : ∃ cur, w.heap[g]? = some (.cells cur R.ty (0, 0)) ∧ cur.size = cap * R.k ∧ cur.toList.take (d.length * R.k) = R.cells d
  len : d.length ≤ cap
  max : cap ≤ maxLen
variable {R : Rk α} {w w' : World} {g cap : Nat} {d : List α}
theorem Blk.own (k : R.Blk w g cap d) {B : Nat} (hB : B ≤ g) : R.Own w B (.slice (some ⟨g, 0, none⟩) d.length cap) d := by
  obtain ⟨cur, h1, h2, h3⟩ := k.h
  exact ⟨R.cells_len d, .inr ⟨g, cap, cur, rfl, hB, h1, k.len, k.max, h2, h3⟩⟩
theorem Blk.lt (k : R.Blk w g cap d) : g < w.heap.size := by
  obtain ⟨cur, h1, _⟩ := k.h
  exact (Array.getElem?_eq_some_iff.1 h1).1
theorem Blk.cell (k : R.Blk w g cap d) {j : Nat} (hj : j < d.length) {r : Nat} {u : Value} (hu : (R.enc d[j])[r]? = some u) : w.cell? ⟨g, j * R.k + r, none⟩ = some u := by
  have hr : r < R.k := by
    have := (List.getElem?_eq_some_iff.1 hu).1
    rwa [R.len] at this
  have hm : j * R.k + r < d.length * R.k := by
    have h1 : (j + 1) * R.k ≤ d.length * R.k := Nat.mul_le_mul_right _ hj
    rw [Nat.add_mul, Nat.one_mul] at h1
    omega
  rw [← R.cells_get d j hj r hr] at hu
  obtain ⟨cur, h1, h2, h3⟩ := k.h
  rw [← h3, List.getElem?_take, if_pos hm, Array.getElem?_toList] at hu
  simp only [World.cell?, h1, Option.isSome_none, Bool.false_eq_true, if_false]
  exact hu
theorem Blk.fz (k : R.Blk w g cap d) (i : Nat) : w.frozen? ⟨g, i, none⟩ = false := by
  obtain ⟨cur, h1, _⟩ := k.h
  simp [World.frozen?, h1]
theorem Blk.on (k : R.Blk w g cap d) (hb : Below w.heap.size w w') : R.Blk w' g cap d := by
  obtain ⟨cur, h1, h2, h3⟩ := k.h
  exact ⟨⟨cur, (hb.block g k.lt).trans h1, h2, h3⟩, k.len, k.max⟩
theorem Blk.take (k : R.Blk w g cap d) (i : Nat) (hi : i ≤ d.length) : R.Blk w g cap (d.take i) := by
  obtain ⟨cur, h1, h2, h3⟩ := k.h
  refine ⟨⟨cur, h1, h2, ?_⟩, by rw [List.length_take]; have := k.len; omega, k.max⟩
  have e : R.cells d = R.cells (d.take i) ++ R.cells (d.drop i) := by rw [← cells_app, List.take_append_drop]
  have hl : (R.cells (d.take i)).length = i * R.k := by rw [cells_len, List.length_take, Nat.min_eq_left hi]
  have h4 := congrArg (List.take (i * R.k)) h3
  rw [List.take_take, e, List.take_left' hl, Nat.min_eq_left (Nat.mul_le_mul_right _ hi)] at h4
  rw [List.length_take, Nat.min_eq_left hi]
  exact h4
theorem Blk.row (k : R.Blk w g cap d) : R.Row w w.heap.size (some ⟨g, 0, none⟩) d := (k.own (Nat.zero_le _)).parts.2.1
theorem cells_set : ∀ (d : List α) (i : Nat) (x : α), i < d.length → R.cells (d.set i x) = over (R.cells d) (i * R.k) (R.enc x) := fun d i x hi => by
  refine List.ext_getElem? fun t => ?_
  rw [over_get, R.len, R.cells_len]
  by_cases ht : t < d.length * R.k
  · obtain ⟨j, r, hj, hr, rfl⟩ := R.at_place d ht
    rw [R.cells_get _ j (by simpa using hj) r hr]
    by_cases e : j = i
    · subst e
      rw [if_pos ⟨by omega, by omega, ht⟩, Nat.add_sub_cancel_left, List.getElem_set_self]
    · rw [if_neg, R.cells_get d j hj r hr, List.getElem_set_ne (fun h => e h.symm)]
      rintro ⟨h1, h2, _⟩
      rcases Nat.lt_or_gt_of_ne e with h | h
      · have h3 : (j + 1) * R.k ≤ i * R.k := Nat.mul_le_mul_right _ h
        rw [Nat.add_mul] at h3
        omega
      · have h3 : (i + 1) * R.k ≤ j * R.k := Nat.mul_le_mul_right _ h
        rw [Nat.add_mul] at h3
        omega
  · rw [if_neg (by omega), List.getElem?_eq_none (by rw [R.cells_len, List.length_set]; omega), List.getElem?_eq_none (by rw [R.cells_len]; omega)]
theorem over_take (l vs : List Value) (o m : Nat) : (over l o vs).take m = over (l.take m) o vs := by
  refine List.ext_getElem? fun t => ?_
  rw [List.getElem?_take, over_get, over_get, List.length_take, List.getElem?_take]
  by_cases h : t < m
  · rw [if_pos h, if_pos h]
    by_cases h2 : o ≤ t ∧ t < o + vs.length ∧ t < l.length
    · rw [if_pos h2, if_pos (by omega)]
    · rw [if_neg h2, if_neg (by omega)]
  · rw [if_neg h, if_neg h]
    split <;> first | omega | rfl
/-- A record written over another. -/
theorem Blk.put (k : R.Blk w g cap d) {i : Nat} (hi : i < d.length) (x : α) : R.Blk (w.setCells g (i * R.k) (R.enc x)) g cap (d.set i x) := by
  obtain ⟨cur, h1, h2, h3⟩ := k.h
  obtain ⟨c2, e1, e2⟩ := setCells_arr g R.ty (R.enc x) (i * R.k) w cur h1
  refine ⟨⟨c2, e1, ?_, ?_⟩, by simpa using k.len, k.max⟩
  · have h := congrArg List.length e2
    rw [over_len, Array.length_toList, Array.length_toList, h2] at h
    exact h
  · rw [List.length_set, e2, cells_set d i x hi, ← h3, over_take]
theorem own_cases {B : Nat} {v : Value} (h : R.Own w B v d) : (v = .slice none 0 0 ∧ d = []) ∨ ∃ g cap, v = .slice (some ⟨g, 0, none⟩) d.length cap ∧ B ≤ g ∧ R.Blk w g cap d := by
  rcases h.2 with ⟨e, h0⟩ | ⟨g, cap, cur, e, hb, hg, hle, hm, hs, ht⟩
  · exact .inl ⟨e, List.length_eq_zero_iff.1 h0⟩
  · exact .inr ⟨g, cap, e, hb, ⟨cur, hg, hs, ht⟩, hle, hm⟩
/-- A variable of a record written over. -/
theorem At.put {x0 : α} (k : R.At w g x0) (x : α) : R.At (w.setCells g 0 (R.enc x)) g x := by
  obtain ⟨c2, e1, e2⟩ := setCells_arr g R.ty (R.enc x) 0 w _ k
  have h : c2 = (R.enc x).toArray := by
    apply Array.toList_inj.1
    rw [e2]
    refine List.ext_getElem? fun t => ?_
    rw [over_get, List.toList_toArray, List.toList_toArray, R.len, R.len]
    by_cases ht : t < R.k
    · rw [if_pos ⟨Nat.zero_le _, by omega, ht⟩, Nat.sub_zero]
    · rw [if_neg (by omega), List.getElem?_eq_none (by rw [R.len]; omega), List.getElem?_eq_none (by rw [R.len]; omega)]
  subst h
  exact e1
end Rk
end Go.Proofs.YtideldgblafhlaaDoor
namespace Go.Proofs.YtideldgblafhlaaDoor
open Go.RowKit
set_option linter.unusedVariables false

/-- An operation as it lies. -/
structure Om where
  kind : Int
  self : Im
  parent : Im
  dst : Im
  name : ByteArray
  dname : ByteArray
  left : Im
  right : Im
  a1 : Option Addr
  c1 : Nat
  dels : List Im
  first : Int
  a2 : Option Addr
  c2 : Nat
  lines : List (List UInt8)
def Om.key (x : Om) : OpK := ⟨x.kind, x.self.key, x.parent.key, x.dst.key, x.name.data.toList, x.dname.data.toList, x.left.key, x.right.key, ikeys x.dels, x.first, x.lines⟩
def Om.cells (x : Om) : List Value := [.int .i64 x.kind, .string x.self.p, .int .i64 x.self.n, .string x.parent.p, .int .i64 x.parent.n, .string x.dst.p, .int .i64 x.dst.n, .string x.name, .string x.dname, .string x.left.p, .int .i64 x.left.n, .string x.right.p, .int .i64 x.right.n, .slice x.a1 x.dels.length x.c1, .int .i64 x.first, .slice x.a2 x.lines.length x.c2]
def Om.val (x : Om) : Value := .agg x.cells.toArray
/-- Its rows lie below B. -/
structure Om.Ok (x : Om) (w : World) (B : Nat) : Prop where
  dels : Ids w B x.a1 x.dels
  room1 : Room x.a1 x.dels.length x.c1
  lines : Strs w B x.a2 (toBs x.lines)
  room2 : Room x.a2 x.lines.length x.c2
theorem Om.Ok.on {x : Om} {w w' : World} (h : x.Ok w w.heap.size) (hb : Below w.heap.size w w') : x.Ok w' w'.heap.size := ⟨h.dels.on hb, h.room1, h.lines.on hb, h.room2⟩
/-- Its texts and rows are what Go may hold. -/
structure Om.Sz (x : Om) : Prop where
  self : x.self.p.size ≤ 9223372036854775807
  parent : x.parent.p.size ≤ 9223372036854775807
  dst : x.dst.p.size ≤ 9223372036854775807
  left : x.left.p.size ≤ 9223372036854775807
  right : x.right.p.size ≤ 9223372036854775807
  name : x.name.size ≤ 9223372036854775807
  dname : x.dname.size ≤ 9223372036854775807
  few : x.dels.length ≤ 900000
  dels : ∀ i ∈ x.dels, i.p.size ≤ 9223372036854775807
  rows : x.lines.length ≤ 900000
  lines : ∀ l ∈ x.lines, l.length ≤ 9223372036854775807
/-- Its texts and rows are what memory may hold. -/
structure Om.Mz (x : Om) : Prop where
  self : x.self.p.size ≤ 9223372036854775807
  parent : x.parent.p.size ≤ 9223372036854775807
  dst : x.dst.p.size ≤ 9223372036854775807
  left : x.left.p.size ≤ 9223372036854775807
  right : x.right.p.size ≤ 9223372036854775807
  name : x.name.size ≤ 9223372036854775807
  dname : x.dname.size ≤ 9223372036854775807
  few : x.dels.length * 24 ≤ 140737488351232
  dels : ∀ i ∈ x.dels, i.p.size ≤ 9223372036854775807
  rows : x.lines.length * 16 ≤ 140737488351232
  lines : ∀ l ∈ x.lines, l.length ≤ 9223372036854775807
theorem Om.Sz.mz {x : Om} (h : x.Sz) : x.Mz := ⟨h.self, h.parent, h.dst, h.left, h.right, h.name, h.dname, by have := h.few; omega, h.dels, by have := h.rows; omega, h.lines⟩
/-- Operations as records of sixteen cells. -/
def opR : Rk Om where
  ty := 27
  tys := 29
  k := 16
  bytes := 216
  zero := .agg #[.int .i64 0, .string ByteArray.empty, .int .i64 0, .string ByteArray.empty, .int .i64 0, .string ByteArray.empty, .int .i64 0, .string ByteArray.empty, .string ByteArray.empty, .string ByteArray.empty, .int .i64 0, .string ByteArray.empty, .int .i64 0, .slice none 0 0, .int .i64 0, .slice none 0 0]
  enc := Om.cells
  len := fun _ => rfl
  one := fun x u hu => by
    simp only [Om.cells, List.mem_cons, List.not_mem_nil, or_false] at hu
    rcases hu with rfl | rfl | rfl | rfl | rfl | rfl | rfl | rfl | rfl | rfl | rfl | rfl | rfl | rfl | rfl | rfl <;> rfl
  pos := by decide
  small := by decide
  zsz := rfl
  info := by kernel_rfl
  und := Tryd.underlying29
abbrev OpAt (w : World) (g : Nat) (x : Om) : Prop := opR.At w g x
theorem op_box (w : World) (x : Om) : Below w.heap.size w (w.alloc (.cells #[.int .i64 x.kind, .string x.self.p, .int .i64 x.self.n, .string x.parent.p, .int .i64 x.parent.n, .string x.dst.p, .int .i64 x.dst.n, .string x.name, .string x.dname, .string x.left.p, .int .i64 x.left.n, .string x.right.p, .int .i64 x.right.n, .slice x.a1 x.dels.length x.c1, .int .i64 x.first, .slice x.a2 x.lines.length x.c2] 27)) ∧ OpAt (w.alloc (.cells #[.int .i64 x.kind, .string x.self.p, .int .i64 x.self.n, .string x.parent.p, .int .i64 x.parent.n, .string x.dst.p, .int .i64 x.dst.n, .string x.name, .string x.dname, .string x.left.p, .int .i64 x.left.n, .string x.right.p, .int .i64 x.right.n, .slice x.a1 x.dels.length x.c1, .int .i64 x.first, .slice x.a2 x.lines.length x.c2] 27)) w.heap.size x := ⟨(Below.refl _ _).alloc (Nat.le_refl _) _, Rk.At.new_ (R := opR) w x⟩
/-- What a variable of an operation holds, cell by cell. -/
structure OpCells (w : World) (g : Nat) (x : Om) : Prop where
  kind : w.cell? ⟨g, 0, none⟩ = some (.int .i64 x.kind)
  selfp : w.cell? ⟨g, 1, none⟩ = some (.string x.self.p)
  selfn : w.cell? ⟨g, 2, none⟩ = some (.int .i64 x.self.n)
  parentp : w.cell? ⟨g, 3, none⟩ = some (.string x.parent.p)
  parentn : w.cell? ⟨g, 4, none⟩ = some (.int .i64 x.parent.n)
  dstp : w.cell? ⟨g, 5, none⟩ = some (.string x.dst.p)
  dstn : w.cell? ⟨g, 6, none⟩ = some (.int .i64 x.dst.n)
  name : w.cell? ⟨g, 7, none⟩ = some (.string x.name)
  dname : w.cell? ⟨g, 8, none⟩ = some (.string x.dname)
  leftp : w.cell? ⟨g, 9, none⟩ = some (.string x.left.p)
  leftn : w.cell? ⟨g, 10, none⟩ = some (.int .i64 x.left.n)
  rightp : w.cell? ⟨g, 11, none⟩ = some (.string x.right.p)
  rightn : w.cell? ⟨g, 12, none⟩ = some (.int .i64 x.right.n)
  dels : w.cell? ⟨g, 13, none⟩ = some (.slice x.a1 x.dels.length x.c1)
  first : w.cell? ⟨g, 14, none⟩ = some (.int .i64 x.first)
  lines : w.cell? ⟨g, 15, none⟩ = some (.slice x.a2 x.lines.length x.c2)
theorem op_cells {w : World} {g : Nat} {x : Om} (h : OpAt w g x) : OpCells w g x :=
  ⟨h.cell (r := 0) rfl, h.cell (r := 1) rfl, h.cell (r := 2) rfl, h.cell (r := 3) rfl, h.cell (r := 4) rfl, h.cell (r := 5) rfl, h.cell (r := 6) rfl, h.cell (r := 7) rfl, h.cell (r := 8) rfl, h.cell (r := 9) rfl, h.cell (r := 10) rfl, h.cell (r := 11) rfl, h.cell (r := 12) rfl, h.cell (r := 13) rfl, h.cell (r := 14) rfl, h.cell (r := 15) rfl⟩
end Go.Proofs.YtideldgblafhlaaDoor
namespace Go.Proofs.YtideldgblafhlaaDoor
open Go.RowKit
set_option linter.unusedVariables false

theorem info_id : ∃ i, Tryd.prog.info? 23 = some i := by
  cases h : Tryd.prog.info? 23 with
  | some i => exact ⟨i, rfl⟩
  | none => exact absurd h (by have h2 : (Tryd.prog.info? 23).isSome = true := by kernel_rfl
                               intro h3; rw [h3] at h2; cases h2)
theorem cells_id : Tryd.prog.cellsOf 23 = 2 := by kernel_rfl
end Go.Proofs.YtideldgblafhlaaDoor
namespace Go.Proofs.YtideldgblafhlaaDoor
open Go.RowKit
set_option linter.unusedVariables false

theorem sized_op : (Tryd.prog.info? 27).map (·.size) = some 16 := by kernel_rfl
theorem op_box2 (w : World) (x y : Om) : Below w.heap.size w ((w.alloc (.cells #[.int .i64 x.kind, .string x.self.p, .int .i64 x.self.n, .string x.parent.p, .int .i64 x.parent.n, .string x.dst.p, .int .i64 x.dst.n, .string x.name, .string x.dname, .string x.left.p, .int .i64 x.left.n, .string x.right.p, .int .i64 x.right.n, .slice x.a1 x.dels.length x.c1, .int .i64 x.first, .slice x.a2 x.lines.length x.c2] 27)).alloc (.cells #[.int .i64 y.kind, .string y.self.p, .int .i64 y.self.n, .string y.parent.p, .int .i64 y.parent.n, .string y.dst.p, .int .i64 y.dst.n, .string y.name, .string y.dname, .string y.left.p, .int .i64 y.left.n, .string y.right.p, .int .i64 y.right.n, .slice y.a1 y.dels.length y.c1, .int .i64 y.first, .slice y.a2 y.lines.length y.c2] 27)) ∧
    OpAt ((w.alloc (.cells #[.int .i64 x.kind, .string x.self.p, .int .i64 x.self.n, .string x.parent.p, .int .i64 x.parent.n, .string x.dst.p, .int .i64 x.dst.n, .string x.name, .string x.dname, .string x.left.p, .int .i64 x.left.n, .string x.right.p, .int .i64 x.right.n, .slice x.a1 x.dels.length x.c1, .int .i64 x.first, .slice x.a2 x.lines.length x.c2] 27)).alloc (.cells #[.int .i64 y.kind, .string y.self.p, .int .i64 y.self.n, .string y.parent.p, .int .i64 y.parent.n, .string y.dst.p, .int .i64 y.dst.n, .string y.name, .string y.dname, .string y.left.p, .int .i64 y.left.n, .string y.right.p, .int .i64 y.right.n, .slice y.a1 y.dels.length y.c1, .int .i64 y.first, .slice y.a2 y.lines.length y.c2] 27)) w.heap.size x ∧ OpAt ((w.alloc (.cells #[.int .i64 x.kind, .string x.self.p, .int .i64 x.self.n, .string x.parent.p, .int .i64 x.parent.n, .string x.dst.p, .int .i64 x.dst.n, .string x.name, .string x.dname, .string x.left.p, .int .i64 x.left.n, .string x.right.p, .int .i64 x.right.n, .slice x.a1 x.dels.length x.c1, .int .i64 x.first, .slice x.a2 x.lines.length x.c2] 27)).alloc (.cells #[.int .i64 y.kind, .string y.self.p, .int .i64 y.self.n, .string y.parent.p, .int .i64 y.parent.n, .string y.dst.p, .int .i64 y.dst.n, .string y.name, .string y.dname, .string y.left.p, .int .i64 y.left.n, .string y.right.p, .int .i64 y.right.n, .slice y.a1 y.dels.length y.c1, .int .i64 y.first, .slice y.a2 y.lines.length y.c2] 27)) (w.heap.size + 1) y := by
  obtain ⟨b1, h1⟩ := op_box w x
  obtain ⟨b2, h2⟩ := op_box (w.alloc (.cells #[.int .i64 x.kind, .string x.self.p, .int .i64 x.self.n, .string x.parent.p, .int .i64 x.parent.n, .string x.dst.p, .int .i64 x.dst.n, .string x.name, .string x.dname, .string x.left.p, .int .i64 x.left.n, .string x.right.p, .int .i64 x.right.n, .slice x.a1 x.dels.length x.c1, .int .i64 x.first, .slice x.a2 x.lines.length x.c2] 27)) y
  refine ⟨b1.trans (b2.mono b1.size), h1.on b2, ?_⟩
  have e : (w.alloc (.cells #[.int .i64 x.kind, .string x.self.p, .int .i64 x.self.n, .string x.parent.p, .int .i64 x.parent.n, .string x.dst.p, .int .i64 x.dst.n, .string x.name, .string x.dname, .string x.left.p, .int .i64 x.left.n, .string x.right.p, .int .i64 x.right.n, .slice x.a1 x.dels.length x.c1, .int .i64 x.first, .slice x.a2 x.lines.length x.c2] 27)).heap.size = w.heap.size + 1 := by simp
  rw [e] at h2
  exact h2
theorem elem_ids : Tryd.prog.elem 24 = 23 := by kernel_rfl
theorem ids_und : Tryd.prog.underlying 24 = some (.slice (Tryd.prog.elem 24)) := by
  rw [elem_ids]
  exact Tryd.underlying24
/-- The place of an id in a row whose address is told by an equation (the row itself stays as it is written). -/
theorem id_indexAt {A : Option Addr} {b off n c k : Nat} (e : A = some ⟨b, off, none⟩) (hk : k < n) (W : World) : (Instr.indexAt 24 (.slice A n c) (.int .i64 (k : Int))).run Tryd.prog W = .ok (.pointer (some ⟨b, off + k * 2, none⟩)) W := by
  subst e
  obtain ⟨i, hi⟩ := info_id
  have hs : (sizeOf 23).run Tryd.prog W = .ok 2 W := by rw [run_sizeOf W hi, cells_id]
  rw [run_indexAt_slice (h := ids_und), if_pos (by omega), elem_ids, hs, Result.andThen_ok]
  have e2 : (⟨b, off, none⟩ : Addr).add ((k : Int).toNat * 2) = ⟨b, off + k * 2, none⟩ := by unfold Addr.add; split <;> simp_all
  rw [e2]
end Go.Proofs.YtideldgblafhlaaDoor
namespace Go.Proofs.YtideldgblafhlaaDoor
open Go.RowKit
set_option linter.unusedVariables false

/-- Bytes read on: what is left, and the error. -/
abbrev St := List UInt8 × Int
theorem okK_short {k : Ik} (h : okK k = true) : k.1.length ≤ 40 := by
  unfold okK okI at h
  split at h
  · rename_i e; rw [e]; exact Nat.zero_le _
  · exact name_len (Bool.and_eq_true_iff.1 h).1
end Go.Proofs.YtideldgblafhlaaDoor
namespace Go.Proofs.YtideldgblafhlaaDoor
open Go.RowKit
set_option linter.unusedVariables false

set_option maxHeartbeats 2000000 in
set_option maxRecDepth 100000 in
theorem iindex_any (A : Option Addr) (l : List Im) (cap : Nat) (x : Im) (w : World) (hs : Ids w w.heap.size A l) (hn : l.length ≤ 1000000) :
    Calls Tryd.prog 79 #[.slice A l.length cap, .agg #[.string x.p, .int .i64 x.n]] w fun e w' => ∃ r : Int, e = .returned (.int .i64 r) ∧ Hid (decide (0 ≤ r) = decide (x ∈ l)) ∧ Below w.heap.size w w' := by
  obtain ⟨hb, hx⟩ := id_box w x
  have HS := Lib.hid (hs.on hb)
  have HX := Lib.hid hx
  have HB := Lib.hid hb
  clear hs hb hx
  go_enter Tryd.func79, Tryd.ntmps79
  go_wp2
  generalize (w.alloc (.cells #[.string x.p, .int .i64 x.n] 23)) = wb at *
  go_loopw [8] (fun i wr => ∃ k : Nat, k ≤ l.length ∧ i = .int .i64 (k : Int) ∧ Hid (∀ j (hj : j < l.length), j < k → l[j] ≠ x) ∧ Hid (Below wb.heap.size wb wr)) (fun i _ => l.length - (intOf i).toNat)
  case atStart => exact ⟨0, Nat.zero_le _, rfl, fun j _ h => absurd h (by omega), Below.refl _ _⟩
  case round =>
    obtain ⟨k, hk, rfl, hall, hbr⟩ := hrel
    by_cases hlt : k < l.length
    · have hS := HS.out.on hbr.out
      have hX := HX.out.on hbr.out
      obtain ⟨g, off, rfl, hg, c0, c1⟩ := ids_get hS hlt
      have d0 := id_c0 hX
      have d1 := id_c1 hX
      have hq : ∀ q, Hid (Below wb.heap.size wb (wr.drewN q)) := fun q => below_drewN hbr.out q
      have hfin : ∀ q, Hid (Below w.heap.size w (wr.drewN q)) := fun q => HB.out.trans (((hq q).out).mono HB.out.size)
      have EQ := fun W => eql_id x l[k] W
      by_cases he : x = l[k]
      · have hyes : Hid (decide (0 ≤ (k : Int)) = decide (x ∈ l)) := by
          show _ = _
          have h1 : x ∈ l := by rw [he]; exact List.getElem_mem _
          simp [h1]
        rw [decide_eq_true he] at EQ
        generalize l[k] = y at *
        clear hS hX hall hbr he
        go_wp2
        go_quiet (fail)
        go_wp2
        go_ret
        exact ⟨_, rfl, hyes, (hfin _).out⟩
      · rw [decide_eq_false he] at EQ
        have hnew : Hid (∀ j (hj : j < l.length), j < k + 1 → l[j] ≠ x) := by
          intro j hj hjk
          by_cases e : j = k
          · subst e; exact fun e => he e.symm
          · exact hall.out j hj (by omega)
        generalize l[k] = y at *
        clear hS hX hall hbr he hfin
        go_wp2
        go_quiet (fail)
        go_wp2
        go_roundw
        case rel => exact ⟨k + 1, by omega, by go_num, hnew, hq _⟩
        case measure => simp [intOf]; omega
    · obtain rfl : k = l.length := by omega
      have hno : Hid (decide (0 ≤ (-1 : Int)) = decide (x ∈ l)) := by
        show _ = _
        rw [decide_eq_false (by decide), eq_comm, decide_eq_false_iff_not]
        intro h
        obtain ⟨j, hj, e⟩ := List.getElem_of_mem h
        exact hall.out j hj hj e
      have hfin := Lib.hid (HB.out.trans (hbr.out.mono HB.out.size))
      clear hall
      go_wp2
      go_ret
      exact ⟨_, rfl, hno, hfin.out⟩
set_option maxHeartbeats 2000000 in
set_option maxRecDepth 100000 in
theorem icontains_any (A : Option Addr) (l : List Im) (cap : Nat) (x : Im) (w : World) (hs : Ids w w.heap.size A l) (hn : l.length ≤ 1000000) :
    Calls Tryd.prog 75 #[.slice A l.length cap, .agg #[.string x.p, .int .i64 x.n]] w fun e w' => e = .returned (.bool (decide (x ∈ l))) ∧ Below w.heap.size w w' := by
  obtain ⟨hb, hx⟩ := id_box w x
  have HB := Lib.hid hb
  have x0 := id_c0 hx
  have x1 := id_c1 hx
  have CI := Lib.hid (iindex_any A l cap x _ (hs.on hb) hn)
  clear hs hb hx
  go_enter Tryd.func75, Tryd.ntmps75
  go_wp2_with fail
  refine CI.out.mono ?_
  rintro e w1 ⟨r, rfl, hr, hb1⟩
  have HF := Lib.hid (HB.out.trans (hb1.mono HB.out.size))
  clear hb1 x0 x1 CI
  go_wp2
  go_ret
  rw [← hr.out]
  exact ⟨rfl, HF.out⟩
set_option maxHeartbeats 2000000 in
set_option maxRecDepth 100000 in
/-- Package ident's Has. -/
theorem idhas_any (A : Option Addr) (l : List Im) (cap : Nat) (x : Im) (w : World) (hs : Ids w w.heap.size A l) (hn : l.length ≤ 1000000) :
    Calls Tryd.prog 64 #[.slice A l.length cap, x.val] w fun e w' => e = .returned (.bool (decide (x ∈ l))) ∧ Below w.heap.size w w' := by
  obtain ⟨hb, hx⟩ := id_box w x
  unfold Im.val
  have HB := Lib.hid hb
  have x0 := id_c0 hx
  have x1 := id_c1 hx
  have CI := Lib.hid (icontains_any A l cap x _ (hs.on hb) hn)
  generalize decide (x ∈ l) = r at *
  clear hs hb hx
  go_enter Tryd.func64, Tryd.ntmps64
  go_wp2_with fail
  refine CI.out.mono ?_
  rintro e w1 ⟨rfl, hb1⟩
  have HF := Lib.hid (HB.out.trans (hb1.mono HB.out.size))
  clear hb1 x0 x1 CI
  go_wp2
  go_ret
  exact ⟨rfl, HF.out⟩
end Go.Proofs.YtideldgblafhlaaDoor
namespace Go.Proofs.YtideldgblafhlaaDoor
open Go.RowKit
set_option linter.unusedVariables false

set_option maxHeartbeats 2000000 in
set_option maxRecDepth 100000 in
theorem idright_any (x : Im) (w : World) (ox : x.p.size ≤ 9223372036854775807) :
    Calls Tryd.prog 30 #[x.val] w fun e w' => e = .returned (.bool (okK x.key)) ∧ Below w.heap.size w w' := by
  obtain ⟨hb, hx⟩ := id_box w x
  unfold Im.val
  have HB := Lib.hid hb
  have HX := Lib.hid hx
  have CR := Lib.hid (fun w => right_any x.p w ox)
  have hk : Hid (okK x.key = if x.p = ⟨#[]⟩ then decide (0 ≤ x.n ∧ x.n ≤ 2) else rightB x.p && decide (0 ≤ x.n ∧ x.n ≤ 1048576)) := by
    show _ = _
    unfold okK okI Im.key
    simp only [toB_of]
    by_cases h : x.p = ⟨#[]⟩
    · rw [if_pos h, if_pos (by rw [h])]
    · rw [if_neg h, if_neg fun e => h (bytes_inj (by rw [e]))]
  rw [hk.out]
  clear hb hx hk
  obtain ⟨p, n⟩ := x
  simp only at *
  by_cases h : p = ⟨#[]⟩
  · subst h
    rw [if_pos rfl]
    have c0 := id_c0 HX.out
    have c1 := id_c1 HX.out
    by_cases h1 : 0 ≤ n
    · by_cases h2 : n ≤ 2
      · have hv : decide (0 ≤ n ∧ n ≤ 2) = true := decide_eq_true ⟨h1, h2⟩
        rw [hv]
        have h3 : n ≥ 0 := h1
        go_enter Tryd.func30, Tryd.ntmps30
        go_wp2
        go_ret
        exact ⟨rfl, HB.out⟩
      · have hv : decide (0 ≤ n ∧ n ≤ 2) = false := decide_eq_false fun h => h2 h.2
        rw [hv]
        have h3 : n ≥ 0 := h1
        go_enter Tryd.func30, Tryd.ntmps30
        go_wp2
        go_ret
        exact ⟨rfl, HB.out⟩
    · have hv : decide (0 ≤ n ∧ n ≤ 2) = false := decide_eq_false fun h => h1 h.1
      rw [hv]
      have h3 : ¬ n ≥ 0 := h1
      go_enter Tryd.func30, Tryd.ntmps30
      go_wp2
      go_ret
      exact ⟨rfl, HB.out⟩
  · rw [if_neg h]
    have h0 := str_ne_empty h
    clear h
    obtain ⟨b, hbr⟩ : ∃ b, rightB p = b := ⟨_, rfl⟩
    obtain ⟨r, hr⟩ : ∃ r, (rightB p && decide (0 ≤ n ∧ n ≤ 1048576)) = r := ⟨_, rfl⟩
    have HRES : Hid ((b = false → r = false) ∧ (b = true → r = decide (0 ≤ n ∧ n ≤ 1048576))) := by
      rw [← hr, hbr]
      exact ⟨fun e => by rw [e]; rfl, fun e => by rw [e]; rfl⟩
    rw [hr]
    rw [hbr] at CR
    clear hbr hr
    go_enter Tryd.func30, Tryd.ntmps30
    have c0 := id_c0 HX.out
    have c1 := id_c1 HX.out
    go_wp2_with fail
    generalize (w.alloc (.cells #[.string p, .int .i64 n] 23)) = wb at *
    refine (CR.out _).mono ?_
    rintro e w1 ⟨rfl, hb⟩
    have HF := Lib.hid (HB.out.trans (hb.mono HB.out.size))
    have hx1 := HX.out.on hb
    have d0 := id_c0 hx1
    have d1 := id_c1 hx1
    clear hb c0 c1 hx1 CR
    cases b
    · have hrr : Hid (r = false) := HRES.out.1 rfl
      clear HRES
      go_wp2
      go_ret
      rw [hrr.out]
      exact ⟨rfl, HF.out⟩
    · have hrr : Hid (r = decide (0 ≤ n ∧ n ≤ 1048576)) := HRES.out.2 rfl
      clear HRES
      by_cases h1 : 0 ≤ n
      · have h3 : n ≥ 0 := h1
        by_cases h2 : n ≤ 1048576
        · have hv : Hid (r = true) := hrr.out.trans (decide_eq_true ⟨h1, h2⟩)
          clear hrr
          go_wp2
          go_ret
          rw [hv.out]
          exact ⟨rfl, HF.out⟩
        · have hv : Hid (decide (n ≤ 1048576) = r) := (decide_eq_false h2).trans (hrr.out.trans (decide_eq_false fun h => h2 h.2)).symm
          clear hrr
          go_wp2
          go_ret
          rw [← hv.out]
          exact ⟨rfl, HF.out⟩
      · have hv : Hid (r = false) := hrr.out.trans (decide_eq_false fun h => h1 h.1)
        have h3 : ¬ n ≥ 0 := h1
        clear hrr
        go_wp2
        go_ret
        rw [hv.out]
        exact ⟨rfl, HF.out⟩
end Go.Proofs.YtideldgblafhlaaDoor
namespace Go.Proofs.YtideldgblafhlaaDoor
open Go.RowKit
set_option linter.unusedVariables false

theorem none_iff (x : Im) : decide (x = ⟨⟨#[]⟩, 0⟩) = noneI x.key := by
  unfold noneI
  exact decide_eq_decide.2 ⟨fun h => by rw [h]; rfl, fun h => Im.key_inj h⟩
set_option maxHeartbeats 1000000 in
set_option maxRecDepth 100000 in
theorem refnone_any (x : Im) (w : World) (r : Bool) (hr : noneI x.key = r) :
    Calls Tryd.prog 25 #[.agg #[.string x.p, .int .i64 x.n]] w fun e w' => e = .returned (.bool r) ∧ Below w.heap.size w w' := by
  obtain ⟨hb, hx⟩ := id_box w x
  have HB := Lib.hid hb
  have x0 := id_c0 hx
  have x1 := id_c1 hx
  have EQ := fun W => eql_id x ⟨⟨#[]⟩, 0⟩ W
  rw [none_iff, hr] at EQ
  clear hb hx hr
  go_enter Tryd.func25, Tryd.ntmps25
  go_wp2
  go_ret
  exact ⟨rfl, HB.out⟩
theorem made_iff (x : Im) : madeI x.key = (okK x.key && !decide (x.p = ⟨#[]⟩)) := by
  unfold madeI
  congr 1
  rw [← decide_not]
  exact decide_eq_decide.2 ⟨fun h e => h (by show x.p.data.toList = []; rw [e]), fun h e => h (bytes_inj (t := ⟨#[]⟩) (by have e2 : x.p.data.toList = [] := e; rw [e2]))⟩
set_option maxHeartbeats 1000000 in
set_option maxRecDepth 100000 in
theorem refmade_any (x : Im) (w : World) (ox : x.p.size ≤ 9223372036854775807) (r : Bool) (hr : madeI x.key = r) :
    Calls Tryd.prog 24 #[.agg #[.string x.p, .int .i64 x.n]] w fun e w' => e = .returned (.bool r) ∧ Below w.heap.size w w' := by
  obtain ⟨hb, hx⟩ := id_box w x
  have HB := Lib.hid hb
  have HX := Lib.hid hx
  have CR := Lib.hid (refiright_any x (w.alloc (.cells #[.string x.p, .int .i64 x.n] 23)) ox)
  rw [made_iff] at hr
  have hok : okI (fun l => rightB (toB l)) x.key = okK x.key := rfl
  rw [hok] at CR
  unfold Im.val at CR
  cases h1 : okK x.key
  · rw [h1] at CR hr
    obtain rfl : r = false := by rw [← hr]; rfl
    clear hb hx hr hok h1
    have x0 := id_c0 HX.out
    have x1 := id_c1 HX.out
    go_enter Tryd.func24, Tryd.ntmps24
    go_wp2_with fail
    refine CR.out.mono ?_
    rintro e w1 ⟨rfl, hb1⟩
    have HF := Lib.hid (HB.out.trans (hb1.mono HB.out.size))
    clear hb1 CR x0 x1
    go_wp2
    go_ret
    exact ⟨rfl, HF.out⟩
  · rw [h1, Bool.true_and] at hr
    rw [h1] at CR
    clear hb hx hok h1
    have x0 := id_c0 HX.out
    have x1 := id_c1 HX.out
    by_cases hp : x.p = ⟨#[]⟩
    · rw [decide_eq_true hp] at hr
      obtain rfl : r = false := hr.symm
      have n1 : (x.p.toList == []) = true := by rw [hp, toList_eq]; rfl
      clear hr hp
      go_enter Tryd.func24, Tryd.ntmps24
      go_wp2_with fail
      refine CR.out.mono ?_
      rintro e w1 ⟨rfl, hb1⟩
      have HF := Lib.hid (HB.out.trans (hb1.mono HB.out.size))
      have x0 := id_c0 (HX.out.on hb1)
      clear hb1 CR x1
      go_wp2
      go_ret
      exact ⟨rfl, HF.out⟩
    · rw [decide_eq_false hp] at hr
      obtain rfl : r = true := hr.symm
      have n1 := str_ne_empty hp
      clear hr hp
      go_enter Tryd.func24, Tryd.ntmps24
      go_wp2_with fail
      refine CR.out.mono ?_
      rintro e w1 ⟨rfl, hb1⟩
      have HF := Lib.hid (HB.out.trans (hb1.mono HB.out.size))
      have x0 := id_c0 (HX.out.on hb1)
      clear hb1 CR x1
      go_wp2
      go_ret
      exact ⟨rfl, HF.out⟩
theorem or_iff (x : Im) (n : Int) : orI x.key n = (madeI x.key || decide (x = ⟨⟨#[]⟩, n⟩)) := by
  unfold orI
  congr 1
  exact decide_eq_decide.2 ⟨fun h => Im.key_inj h, fun h => by rw [h]; rfl⟩
set_option maxHeartbeats 1000000 in
set_option maxRecDepth 100000 in
theorem refor_any (x : Im) (n : Int) (w : World) (ox : x.p.size ≤ 9223372036854775807) (r : Bool) (hr : orI x.key n = r) :
    Calls Tryd.prog 27 #[.agg #[.string x.p, .int .i64 x.n], .int .i64 n] w fun e w' => e = .returned (.bool r) ∧ Below w.heap.size w w' := by
  obtain ⟨hb, hx⟩ := id_box w x
  have HB := Lib.hid hb
  have HX := Lib.hid hx
  have CM := Lib.hid (fun r hr => refmade_any x (w.alloc (.cells #[.string x.p, .int .i64 x.n] 23)) ox r hr)
  rw [or_iff] at hr
  cases h1 : madeI x.key
  · rw [h1, Bool.false_or] at hr
    have CR := Lib.hid (CM.out false h1)
    have EQ := fun W => eql_id x ⟨⟨#[]⟩, n⟩ W
    rw [hr] at EQ
    clear hb hx hr h1 CM
    have x0 := id_c0 HX.out
    have x1 := id_c1 HX.out
    go_enter Tryd.func27, Tryd.ntmps27
    go_wp2_with fail
    refine CR.out.mono ?_
    rintro e w1 ⟨rfl, hb1⟩
    have HF := Lib.hid (HB.out.trans (hb1.mono HB.out.size))
    have x0 := id_c0 (HX.out.on hb1)
    have x1 := id_c1 (HX.out.on hb1)
    clear hb1 CR
    go_wp2
    go_ret
    exact ⟨rfl, HF.out⟩
  · rw [h1, Bool.true_or] at hr
    obtain rfl : r = true := hr.symm
    have CR := Lib.hid (CM.out true h1)
    clear hb hx hr h1 CM
    have x0 := id_c0 HX.out
    have x1 := id_c1 HX.out
    go_enter Tryd.func27, Tryd.ntmps27
    go_wp2_with fail
    refine CR.out.mono ?_
    rintro e w1 ⟨rfl, hb1⟩
    have HF := Lib.hid (HB.out.trans (hb1.mono HB.out.size))
    clear hb1 CR x0 x1
    go_wp2
    go_ret
    exact ⟨rfl, HF.out⟩
end Go.Proofs.YtideldgblafhlaaDoor
namespace Go.Proofs.YtideldgblafhlaaDoor
open Go.RowKit
open Go.Sort
set_option linter.unusedVariables false

/-- A callee's contract that ends in 'Below', met in the class of worlds of a region that is walked once. -/
theorem q_of {P : Program} {f : FuncId} {args : Array Value} {w : World} {v : Value} (h : ∀ W, Below w.heap.size w W → Calls P f args W fun e w' => e = .returned v ∧ Below W.heap.size W w') (d : Nat) (os : Array Obj) :
    Calls P f args (grow (redrawn w d) os) fun e w'' => e = .returned v ∧ ∃ p : Regrown, w'' = grow (redrawn w p.d) p.os := Calls.regrown_of (h _ (below_regrown w d os))
end Go.Proofs.YtideldgblafhlaaDoor
namespace Go.Proofs.YtideldgblafhlaaDoor
open Go.RowKit
set_option linter.unusedVariables false

set_option maxHeartbeats 2000000 in
set_option maxRecDepth 100000 in
theorem refihas_any (A : Option Addr) (l : List Im) (cap : Nat) (x : Im) (w : World) (hs : Ids w w.heap.size A l) (hn : l.length ≤ 1000000) :
    Calls Tryd.prog 34 #[.slice A l.length cap, x.val] w fun e w' => e = .returned (.bool (decide (x ∈ l))) ∧ Below w.heap.size w w' := by
  obtain ⟨hb, hx⟩ := id_box w x
  unfold Im.val
  have HS := Lib.hid (hs.on hb)
  have HX := Lib.hid hx
  have HB := Lib.hid hb
  clear hs hb hx
  go_enter Tryd.func34, Tryd.ntmps34
  go_wp2
  generalize (w.alloc (.cells #[.string x.p, .int .i64 x.n] 23)) = wb at *
  go_loopw [5] (fun i wr => ∃ k : Nat, k ≤ l.length ∧ i = .int .i64 (k : Int) ∧ Hid (∀ j (hj : j < l.length), j < k → l[j] ≠ x) ∧ Hid (Below wb.heap.size wb wr)) (fun i _ => l.length - (intOf i).toNat)
  case atStart => exact ⟨0, Nat.zero_le _, rfl, fun j _ h => absurd h (by omega), Below.refl _ _⟩
  case round =>
    obtain ⟨k, hk, rfl, hall, hbr⟩ := hrel
    by_cases hlt : k < l.length
    · have hS := HS.out.on hbr.out
      have hX := HX.out.on hbr.out
      obtain ⟨g, off, rfl, hg, c0, c1⟩ := ids_get hS hlt
      have d0 := id_c0 hX
      have d1 := id_c1 hX
      have hq : ∀ q, Hid (Below wb.heap.size wb (wr.drewN q)) := fun q => below_drewN hbr.out q
      have hfin : ∀ q, Hid (Below w.heap.size w (wr.drewN q)) := fun q => HB.out.trans (((hq q).out).mono HB.out.size)
      have EQ := fun W => eql_id l[k] x W
      by_cases he : l[k] = x
      · have hyes : Hid (decide (x ∈ l) = true) := decide_eq_true (he ▸ List.getElem_mem _)
        rw [decide_eq_true he] at EQ
        generalize l[k] = y at *
        clear hS hX hall hbr he
        go_wp2
        go_quiet (fail)
        go_wp2
        go_ret
        rw [hyes.out]
        exact ⟨rfl, (hfin _).out⟩
      · rw [decide_eq_false he] at EQ
        have hnew : Hid (∀ j (hj : j < l.length), j < k + 1 → l[j] ≠ x) := fun j hj hjk => by
          by_cases h : j = k
          · subst h; exact he
          · exact hall.out j hj (by omega)
        generalize l[k] = y at *
        clear hS hX hall hbr he
        go_wp2
        go_quiet (fail)
        go_wp2
        go_roundw
        case rel => exact ⟨k + 1, by omega, by go_num, hnew, hq _⟩
        case measure => simp [intOf]; omega
    · obtain rfl : k = l.length := by omega
      have hno : Hid (decide (x ∈ l) = false) := decide_eq_false fun h => by
        obtain ⟨j, hj, e⟩ := List.getElem_of_mem h
        exact hall.out j hj hj e
      have hfin : Hid (Below w.heap.size w wr) := HB.out.trans (hbr.out.mono HB.out.size)
      clear hall hbr
      go_wp2
      go_ret
      rw [hno.out]
      exact ⟨rfl, hfin.out⟩
set_option maxHeartbeats 2000000 in
set_option maxRecDepth 100000 in
theorem refimeet_any (A A2 : Option Addr) (l m : List Im) (cap cap2 : Nat) (w : World) (hs : Ids w w.heap.size A l) (ht : Ids w w.heap.size A2 m) (hn : l.length ≤ 1000000) (hn2 : m.length ≤ 1000000) :
    Calls Tryd.prog 35 #[.slice A l.length cap, .slice A2 m.length cap2] w fun e w' => e = .returned (.bool (meetI (ikeys l) (ikeys m))) ∧ Below w.heap.size w w' := by
  have HS := Lib.hid hs
  have HM := Lib.hid ht
  clear hs ht
  go_enter Tryd.func35, Tryd.ntmps35
  go_wp2
  go_loopw [5] (fun i wr => ∃ k : Nat, k ≤ l.length ∧ i = .int .i64 (k : Int) ∧ Hid (∀ j (hj : j < l.length), j < k → l[j] ∉ m) ∧ Hid (Below w.heap.size w wr)) (fun i _ => l.length - (intOf i).toNat)
  case atStart => exact ⟨0, Nat.zero_le _, rfl, fun j _ h => absurd h (by omega), Below.refl _ _⟩
  case round =>
    obtain ⟨k, hk, rfl, hall, hbr⟩ := hrel
    by_cases hlt : k < l.length
    · obtain ⟨g, off, rfl, _, c0, c1⟩ := ids_get (HS.out.on hbr.out) hlt
      have CH := Lib.hid (refihas_any A2 m cap2 l[k] wr (HM.out.on hbr.out) hn2)
      by_cases he : l[k] ∈ m
      · have hyes : Hid (meetI (ikeys l) (ikeys m) = true) := by
          show _ = _
          unfold meetI
          rw [List.any_eq_true]
          exact ⟨l[k].key, mem_ikeys.2 (List.getElem_mem _), decide_eq_true (mem_ikeys.2 he)⟩
        rw [decide_eq_true he] at CH
        generalize l[k] = y at *
        unfold Im.val at CH
        clear hall he
        go_wp2_with fail
        refine CH.out.mono ?_
        rintro e w1 ⟨rfl, hb⟩
        have hf := Lib.hid (hbr.out.trans (hb.mono hbr.out.size))
        clear CH hb
        go_wp2
        go_ret
        rw [hyes.out]
        exact ⟨rfl, hf.out⟩
      · rw [decide_eq_false he] at CH
        have hnew : Hid (∀ j (hj : j < l.length), j < k + 1 → l[j] ∉ m) := fun j hj hjk => by
          by_cases h : j = k
          · subst h; exact he
          · exact hall.out j hj (by omega)
        generalize l[k] = y at *
        unfold Im.val at CH
        clear hall he
        go_wp2_with fail
        refine CH.out.mono ?_
        rintro e w1 ⟨rfl, hb⟩
        have hf := Lib.hid (hbr.out.trans (hb.mono hbr.out.size))
        clear CH hb
        go_wp2
        go_roundw
        case rel => exact ⟨k + 1, by omega, by go_num, hnew, hf⟩
        case measure => simp [intOf]; omega
    · obtain rfl : k = l.length := by omega
      have hno : Hid (meetI (ikeys l) (ikeys m) = false) := by
        show _ = _
        unfold meetI
        rw [List.any_eq_false]
        intro z hz h
        obtain ⟨j, hj, rfl⟩ := List.getElem_of_mem hz
        rw [ikeys_get, decide_eq_true_eq, mem_ikeys] at h
        rw [ikeys_len] at hj
        exact hall.out j hj hj h
      clear hall
      go_wp2
      go_ret
      rw [hno.out]
      exact ⟨rfl, hbr.out⟩
end Go.Proofs.YtideldgblafhlaaDoor
