/- Words for memory: strings that lie in a row; rows that a call made. append of strings to a row that the call made. Rows of records of any kind, each of some cells: as they lie, as a call makes them: append, parts. Names of what patches make, plainly: their order, sets of them. Words for memory: ids, rows of ids. Texts held against each other. Ids held against each other as structs. -/
import Derived.Lib.SlicesCompact
import Derived.WalkKit
import Derived.Below
import Derived.Laws.AppendOwn
import Derived.Lib.OwnBridge
import Derived.Lib.Hide
import Derived.Sort.Walk0
import Derived.Shelf.GgClosure.Gives
import Derived.Test.YtideldgblafhlaaDoorProg
import Derived.Laws.AppendOwnNone
import Derived.OwnWalk
import Derived.Deep.AppendLies
import Derived.BigQuiet
import Derived.Deep.QuietTactic
import Derived.Handy
import Derived.Laws.StructEq
namespace Go.Proofs.YtideldgblafhlaaDoor
open Go.RowKit
set_option linter.unusedVariables false

/-- Strings lie at A, one a cell, in a block below B. -/
def Strs (w : World) (B : Nat) (A : Option Addr) (ss : List ByteArray) : Prop :=
  0 < ss.length → ∃ b off, A = some ⟨b, off, none⟩ ∧ b < B ∧ ∀ j (h : j < ss.length), w.cell? ⟨b, off + j, none⟩ = some (.string ss[j])
/-- The bytes of strings. -/
def lists (ss : List ByteArray) : List (List UInt8) := ss.map (·.data.toList)
def toB (l : List UInt8) : ByteArray := ⟨l.toArray⟩
def toBs (l : List (List UInt8)) : List ByteArray := l.map toB

theorem toList_eq (bs : ByteArray) : bs.toList = bs.data.toList := ByteArray.toList_eq bs
theorem toB_of (s : ByteArray) : toB s.data.toList = s := by cases s; simp [toB]
theorem of_toB (l : List UInt8) : (toB l).data.toList = l := by simp [toB]
theorem bytes_inj {s t : ByteArray} (h : s.data.toList = t.data.toList) : s = t := by rw [← toB_of s, h, toB_of]
theorem toBs_lists (ss : List ByteArray) : toBs (lists ss) = ss := by
  unfold toBs lists
  rw [List.map_map]
  exact (List.map_congr_left fun s _ => toB_of s).trans (List.map_id _)
theorem lists_len (ss : List ByteArray) : (lists ss).length = ss.length := by simp [lists]
theorem toBs_len (ls : List (List UInt8)) : (toBs ls).length = ls.length := by simp [toBs]
theorem encStr_eq (l : List UInt8) : encStr l = .string (toB l) := rfl
section
variable {w w' : World} {B B' : Nat} {A : Option Addr} {ss : List ByteArray}
theorem Strs.none_ : Strs w B A [] := fun h => absurd h (by simp)
theorem Strs.at_ {k : Nat} (h : Strs w B A ss) (hk : k < ss.length) : ∃ b off, A = some ⟨b, off, none⟩ ∧ b < B ∧ w.cell? ⟨b, off + k, none⟩ = some (.string ss[k]) := by
  obtain ⟨b, off, e, hb, hc⟩ := h (by omega)
  exact ⟨b, off, e, hb, hc k hk⟩
theorem Strs.below (h : Strs w B A ss) (hb : Below B w w') : Strs w' B A ss := fun hp => by
  obtain ⟨b, off, e, hlt, hc⟩ := h hp
  exact ⟨b, off, e, hlt, fun j hj => (hb.cell (p := ⟨b, off + j, none⟩) hlt).trans (hc j hj)⟩
theorem Strs.more (h : Strs w B A ss) (hB : B ≤ B') : Strs w B' A ss := fun hp => by
  obtain ⟨b, off, e, hlt, hc⟩ := h hp
  exact ⟨b, off, e, by omega, hc⟩
/-- Behind a call that made new blocks alone. -/
theorem Strs.on (h : Strs w w.heap.size A ss) (hb : Below w.heap.size w w') : Strs w' w'.heap.size A ss := (h.below hb).more hb.size
end

theorem below_drewN {B : Nat} {a w : World} (h : Below B a w) (n : Nat) : Below B a (w.drewN n) := ⟨h.os, h.tape, h.output, h.size, h.block⟩
/-- Cells of a row that is written out. -/
theorem strs_new (w : World) (ss : List ByteArray) : Strs (w.alloc (.cells (ss.map Value.string).toArray 9)) (w.heap.size + 1) (some ⟨w.heap.size, 0, none⟩) ss := fun _ =>
  ⟨w.heap.size, 0, rfl, by omega, fun j hj => by rw [World.cell?_alloc_new]; simp [hj]⟩

/-- A slice's room: nil has none, its length fits. -/
def Room (A : Option Addr) (n cap : Nat) : Prop := (A = none → cap = 0) ∧ n ≤ cap
/-- A slice of strings that the call made: its row begins a block at or above B, no other slice shares it. -/
def OwnS (w : World) (B : Nat) (v : Value) (ls : List (List UInt8)) : Prop := w.ownsRow B 9 1 v ls.length (ls.map encStr)
theorem OwnS.nil (w : World) (B : Nat) : OwnS w B (.slice none 0 0) [] := w.ownsRow_nil B 9 1
theorem OwnS.strs {w : World} {B : Nat} {v : Value} {ls : List (List UInt8)} (h : OwnS w B v ls) : ∃ A cap, v = .slice A ls.length cap ∧ Strs w w.heap.size A (toBs ls) ∧ cap ≤ maxLen ∧ (A = none → ls = []) := by
  rcases h.2 with ⟨rfl, h0⟩ | ⟨g, cap, cur, rfl, hb, hg, hn, hm, hsz, ht⟩
  · exact ⟨none, 0, by rw [h0], fun hp => by rw [toBs_len] at hp; omega, by simp, fun _ => List.length_eq_zero_iff.1 h0⟩
  · refine ⟨some ⟨g, 0, none⟩, cap, rfl, fun hp => ⟨g, 0, rfl, (Array.getElem?_eq_some_iff.1 hg).1, fun j hj => ?_⟩, hm, fun e => by cases e⟩
    have hj2 : j < ls.length := by rw [toBs_len] at hj; exact hj
    have e1 : (cur.toList.take (ls.length * 1))[j]? = (ls.map encStr)[j]? := by rw [ht]
    rw [List.getElem?_take, if_pos (by omega), Array.getElem?_toList, List.getElem?_map, List.getElem?_eq_getElem hj2] at e1
    simp only [World.cell?, hg, Nat.zero_add, Option.isSome_none, Bool.false_eq_true, if_false]
    rw [e1]
    simp [toBs, encStr_eq]
theorem OwnS.at_ {w : World} {B n cap : Nat} {A : Option Addr} {ls : List (List UInt8)} (h : OwnS w B (.slice A n cap) ls) : Strs w w.heap.size A (toBs ls) ∧ Room A n cap ∧ n = ls.length := by
  obtain ⟨A2, cap2, he, hs, _, _⟩ := h.strs
  simp only [Value.slice.injEq] at he
  obtain ⟨rfl, rfl, rfl⟩ := he
  refine ⟨hs, ⟨fun hA => ?_, ?_⟩, rfl⟩
  · rcases h.2 with ⟨he, _⟩ | ⟨g, c, cur, he, _⟩
    · simp only [Value.slice.injEq] at he; exact he.2.2
    · simp only [Value.slice.injEq] at he
      rw [hA] at he
      cases he.1
  · rcases h.2 with ⟨he, hn⟩ | ⟨g, c, cur, he, _, _, hn, _⟩
    · omega
    · simp only [Value.slice.injEq] at he
      omega
theorem OwnS.kept {w w' : World} {B : Nat} {v : Value} {ls : List (List UInt8)} (h : OwnS w B v ls) (hb : Below w.heap.size w w') : OwnS w' B v ls :=
  World.ownsRow.kept h (row := none) ⟨hb.os, hb.tape, hb.output, hb.size, fun i hi _ => hb.block i hi⟩ (by cases v.ownBlock <;> simp)
theorem OwnS.more {w : World} {B B' : Nat} {v : Value} {ls : List (List UInt8)} (h : OwnS w B v ls) (hB : B' ≤ B) : OwnS w B' v ls := by
  refine ⟨h.1, h.2.imp id ?_⟩
  rintro ⟨g, cap, cur, e, hb, r⟩
  exact ⟨g, cap, cur, e, by omega, r⟩
end Go.Proofs.YtideldgblafhlaaDoor
namespace Go.Proofs.YtideldgblafhlaaDoor
open Go.RowKit
set_option linter.unusedVariables false

theorem Strs.take {w : World} {B : Nat} {A : Option Addr} {ls : List (List UInt8)} (h : Strs w B A (toBs ls)) (j : Nat) : Strs w B A (toBs (ls.take j)) := fun hp => by
  have hl : 0 < (toBs ls).length := by rw [toBs_len] at *; rw [List.length_take] at hp; omega
  obtain ⟨b, off, e, hb, hc⟩ := h hl
  refine ⟨b, off, e, hb, fun i hi => ?_⟩
  have hi2 : i < (toBs ls).length := by rw [toBs_len] at *; rw [List.length_take] at hi; omega
  rw [hc i hi2]
  simp [toBs]
theorem Strs.drop {w : World} {B b off : Nat} {ls : List (List UInt8)} (h : Strs w B (some ⟨b, off, none⟩) (toBs ls)) (j : Nat) : Strs w B (some ⟨b, off + j, none⟩) (toBs (ls.drop j)) := fun hp => by
  have hl : j < (toBs ls).length := by rw [toBs_len] at *; rw [List.length_drop] at hp; omega
  obtain ⟨b', off', e, hb, hc⟩ := h (by omega)
  cases e
  refine ⟨b, off + j, rfl, hb, fun i hi => ?_⟩
  have hi2 : j + i < (toBs ls).length := by rw [toBs_len] at *; rw [List.length_drop] at hi; omega
  rw [Nat.add_assoc, hc (j + i) hi2]
  simp [toBs]
theorem strs_one (w : World) (s : ByteArray) : Strs (w.alloc (.cells #[.string s] 9)) (w.alloc (.cells #[.string s] 9)).heap.size (some ⟨w.heap.size, 0, none⟩) (toBs [s.data.toList]) := by
  have h := strs_new w [s]
  have e : toBs [s.data.toList] = [s] := by simp [toBs, toB_of]
  rw [e]
  exact h.more (by simp)
/-- A part of a row of strings. -/
theorem Strs.part {w : World} {B : Nat} {A : Option Addr} {ls : List (List UInt8)} (h : Strs w B A (toBs ls)) (j n : Nat) (A2 : Option Addr) (hA : ∀ b off, A = some ⟨b, off, none⟩ → j < ls.length → A2 = some ⟨b, off + j, none⟩) : Strs w B A2 (toBs ((ls.drop j).take n)) := fun hp => by
  have hl : j < ls.length := by rw [toBs_len, List.length_take, List.length_drop] at hp; omega
  obtain ⟨b, off, e, hb, hc⟩ := h (by rw [toBs_len]; omega)
  refine ⟨b, off + j, hA b off e hl, hb, fun i hi => ?_⟩
  have hi2 : j + i < (toBs ls).length := by rw [toBs_len] at *; rw [List.length_take, List.length_drop] at hi; omega
  rw [Nat.add_assoc, hc (j + i) hi2]
  simp [toBs]

end Go.Proofs.YtideldgblafhlaaDoor
namespace Go.Proofs.YtideldgblafhlaaDoor
open Go.RowKit
set_option linter.unusedVariables false

/-- A kind of records: its types' numbers, what cells one has. -/
structure Rk (α : Type) where
  ty : TypeId
  tys : TypeId
  k : Nat
  bytes : Nat
  zero : Value
  enc : α → List Value
  len : ∀ x, (enc x).length = k
  one : ∀ x u, u ∈ enc x → u.oneCell' = true
  pos : 0 < k
  small : bytes ≤ 1000
  zsz : zero.cells.size = k
  info : (Tryd.prog.info? ty).map (fun i => (i.zero, i.size, i.bytes)) = some (some zero, k, bytes)
  und : Tryd.prog.underlying tys = some (.slice ty)

theorem rec_add (b off a : Nat) : (⟨b, off, none⟩ : Addr).add a = ⟨b, off + a, none⟩ := by unfold Addr.add; split <;> simp_all
theorem rec_cell_lt {w : World} {b o : Nat} {u : Value} (h : w.cell? ⟨b, o, none⟩ = some u) : b < w.heap.size := by
  unfold World.cell? at h
  rcases Nat.lt_or_ge b w.heap.size with h2 | h2
  · exact h2
  · rw [Array.getElem?_eq_none h2] at h; simp at h
namespace Rk
variable {α : Type} (R : Rk α)
def cells (l : List α) : List Value := l.flatMap R.enc
theorem cells_len (l : List α) : (R.cells l).length = l.length * R.k := by
  induction l with
  | nil => simp [cells]
  | cons x l ih =>
    have e : R.cells (x :: l) = R.enc x ++ R.cells l := rfl
    rw [e, List.length_append, ih, R.len, List.length_cons, Nat.add_mul]
    omega
theorem cells_get : ∀ (l : List α) (j : Nat) (hj : j < l.length) (r : Nat), r < R.k → (R.cells l)[j * R.k + r]? = (R.enc l[j])[r]?
  | x :: l, 0, _, r, hr => by
    have e : R.cells (x :: l) = R.enc x ++ R.cells l := rfl
    rw [e, Nat.zero_mul, Nat.zero_add, List.getElem?_append_left (by rw [R.len]; exact hr)]
    rfl
  | x :: l, j + 1, hj, r, hr => by
    have e : R.cells (x :: l) = R.enc x ++ R.cells l := rfl
    have ih := cells_get l j (by simpa using hj) r hr
    rw [e, List.getElem?_append_right (by rw [R.len, Nat.add_mul]; omega), R.len]
    have e2 : (j + 1) * R.k + r - R.k = j * R.k + r := by rw [Nat.add_mul]; omega
    rw [e2, ih]
    rfl
theorem cells_app (a b : List α) : R.cells (a ++ b) = R.cells a ++ R.cells b := by simp [cells]
theorem cells_one (x : α) : R.cells [x] = R.enc x := by simp [cells]
theorem oneCells (l : List α) : ∀ u ∈ R.cells l, u.oneCell' = true := fun u hu => by
  unfold cells at hu
  rw [List.mem_flatMap] at hu
  obtain ⟨f, _, h⟩ := hu
  exact R.one f u h
theorem at_place (l : List α) {i : Nat} (h : i < l.length * R.k) : ∃ j r, j < l.length ∧ r < R.k ∧ i = j * R.k + r := by
  refine ⟨i / R.k, i % R.k, (Nat.div_lt_iff_lt_mul R.pos).2 h, Nat.mod_lt _ R.pos, ?_⟩
  rw [Nat.mul_comm]
  exact (Nat.div_add_mod i R.k).symm

/-- Records lie at A, one behind the other, in a block below B. -/
def Row (w : World) (B : Nat) (A : Option Addr) (l : List α) : Prop := 0 < l.length → ∃ b off, A = some ⟨b, off, none⟩ ∧ b < B ∧ ∀ i u, (R.cells l)[i]? = some u → w.cell? ⟨b, off + i, none⟩ = some u
variable {R} {w w' w0 : World} {B B' : Nat} {A : Option Addr} {l : List α} {v : Value}
theorem Row.nil : R.Row w B A [] := fun h => absurd h (by simp)
theorem Row.below (h : R.Row w B A l) (hb : Below B w w') : R.Row w' B A l := fun hp => by
  obtain ⟨b, off, e, hlt, hc⟩ := h hp
  exact ⟨b, off, e, hlt, fun i u hu => (hb.cell (p := ⟨b, off + i, none⟩) hlt).trans (hc i u hu)⟩
theorem Row.more (h : R.Row w B A l) (hB : B ≤ B') : R.Row w B' A l := fun hp => by
  obtain ⟨b, off, e, hlt, hc⟩ := h hp
  exact ⟨b, off, e, by omega, hc⟩
theorem Row.on (h : R.Row w w.heap.size A l) (hb : Below w.heap.size w w') : R.Row w' w'.heap.size A l := (h.below hb).more hb.size
theorem Row.get (h : R.Row w B A l) {j : Nat} (hj : j < l.length) : ∃ b off, A = some ⟨b, off, none⟩ ∧ b < B ∧ ∀ r u, (R.enc l[j])[r]? = some u → w.cell? ⟨b, off + j * R.k + r, none⟩ = some u := by
  obtain ⟨b, off, e, hlt, hc⟩ := h (by omega)
  refine ⟨b, off, e, hlt, fun r u hu => ?_⟩
  have hr : r < R.k := by
    have := (List.getElem?_eq_some_iff.1 hu).1
    rw [R.len] at this
    exact this
  rw [Nat.add_assoc]
  exact hc _ _ (by rw [R.cells_get l j hj r hr]; exact hu)
theorem Row.take (h : R.Row w B A l) (n : Nat) : R.Row w B A (l.take n) := fun hp => by
  rw [List.length_take] at hp
  obtain ⟨b, off, e, hlt, hc⟩ := h (by omega)
  refine ⟨b, off, e, hlt, fun j u hu => hc j u ?_⟩
  have hj := (List.getElem?_eq_some_iff.1 hu).1
  have e2 : R.cells l = R.cells (l.take n) ++ R.cells (l.drop n) := by rw [← cells_app, List.take_append_drop]
  rw [e2, List.getElem?_append_left hj]
  exact hu
theorem Row.drop {b off : Nat} (h : R.Row w B (some ⟨b, off, none⟩) l) (n : Nat) : R.Row w B (some ⟨b, off + n * R.k, none⟩) (l.drop n) := fun hp => by
  rw [List.length_drop] at hp
  obtain ⟨b', off', e, hlt, hc⟩ := h (by omega)
  cases e
  refine ⟨b, off + n * R.k, rfl, hlt, fun j u hu => ?_⟩
  have e2 : R.cells l = R.cells (l.take n) ++ R.cells (l.drop n) := by rw [← cells_app, List.take_append_drop]
  have hl : (R.cells (l.take n)).length = n * R.k := by rw [cells_len, List.length_take, Nat.min_eq_left (by omega)]
  rw [Nat.add_assoc]
  refine hc _ _ ?_
  rw [e2, List.getElem?_append_right (by omega), hl, Nat.add_sub_cancel_left]
  exact hu
theorem Row.app {A2 : Option Addr} {l2 : List α} {b off : Nat} (h : R.Row w B (some ⟨b, off, none⟩) (l ++ l2)) : R.Row w B (some ⟨b, off, none⟩) l := by
  have := h.take l.length
  rwa [List.take_left] at this

/-- A record of its own lies in block g. -/
def At (R : Rk α) (w : World) (g : Nat) (x : α) : Prop := w.heap[g]? = some (.cells (R.enc x).toArray R.ty (0, 0))
variable {g : Nat} {x : α}
theorem At.cell (k : R.At w g x) {r : Nat} {u : Value} (h : (R.enc x)[r]? = some u) : w.cell? ⟨g, r, none⟩ = some u := by
  have hk : w.heap[g]? = _ := k
  simp [World.cell?, hk, h]
theorem At.fz (k : R.At w g x) (i : Nat) : w.frozen? ⟨g, i, none⟩ = false := by
  have hk : w.heap[g]? = _ := k
  simp [World.frozen?, hk]
theorem At.lt (k : R.At w g x) : g < w.heap.size := (Array.getElem?_eq_some_iff.1 k).1
theorem At.on (k : R.At w g x) (hb : Below w.heap.size w w') : R.At w' g x := (hb.block g k.lt).trans k
theorem At.grown {row : Option Nat} (k : R.At w g x) (hg : w.grownBy w' row) (hr : row ≠ some g) : R.At w' g x := (hg.block g k.lt (fun e => hr e.symm)).trans k
theorem At.new_ (w : World) (x : α) : R.At (w.alloc (.cells (R.enc x).toArray R.ty)) w.heap.size x := heap_alloc_new w _
theorem At.row (k : R.At w g x) : R.Row w w.heap.size (some ⟨g, 0, none⟩) [x] := fun _ => ⟨g, 0, rfl, k.lt, fun i u hu => by rw [cells_one] at hu; rw [Nat.zero_add]; exact k.cell hu⟩

/-- A slice of records that the call made. -/
def Own (R : Rk α) (w : World) (B : Nat) (v : Value) (l : List α) : Prop := w.ownsRow B R.ty R.k v l.length (R.cells l)
theorem Own.nil (w : World) (B : Nat) : R.Own w B (.slice none 0 0) [] := w.ownsRow_nil B R.ty R.k
theorem Own.made (w : World) (B : Nat) (hB : B ≤ w.heap.size) : R.Own (w.alloc (.cells #[] R.ty)) B (.slice (some ⟨w.heap.size, 0, none⟩) 0 0) [] := w.ownsRow_made #[] 0 hB (Nat.zero_le _) (by simp)
theorem Own.slice (h : R.Own w B v l) : ∃ A cap, v = .slice A l.length cap ∧ R.Row w w.heap.size A l ∧ Room A l.length cap ∧ cap ≤ maxLen ∧ (A = none ∨ ∃ b off, A = some ⟨b, off, none⟩) := by
  have h' := h
  rcases h.2 with ⟨rfl, h0⟩ | ⟨g, cap, cur, rfl, _, hg, hcap, hm, _⟩
  · have e : l = [] := List.length_eq_zero_iff.1 h0
    subst e
    exact ⟨none, 0, rfl, Row.nil, ⟨fun _ => rfl, Nat.le_refl _⟩, Nat.zero_le _, .inl rfl⟩
  · refine ⟨_, cap, rfl, fun hp => ⟨g, 0, rfl, (Array.getElem?_eq_some_iff.1 hg).1, fun j u hu => ?_⟩, ⟨fun e => (by cases e), hcap⟩, hm, .inr ⟨g, 0, rfl⟩⟩
    have k0 := h'.cells (g := g) rfl _ _ hu
    rw [rec_add] at k0
    exact k0
theorem Own.parts {n cap : Nat} (h : R.Own w B (.slice A n cap) l) : n = l.length ∧ R.Row w w.heap.size A l ∧ Room A l.length cap ∧ cap ≤ maxLen ∧ (A = none ∨ ∃ b off, A = some ⟨b, off, none⟩) := by
  obtain ⟨A', cap', e, r⟩ := h.slice
  simp only [Value.slice.injEq] at e
  obtain ⟨rfl, rfl, rfl⟩ := e
  exact ⟨rfl, r⟩
theorem Own.kept (h : R.Own w B v l) (hb : Below w.heap.size w w') : R.Own w' B v l :=
  World.ownsRow.kept h (row := none) ⟨hb.os, hb.tape, hb.output, hb.size, fun i hi _ => hb.block i hi⟩ (by cases v.ownBlock <;> simp)
theorem Own.grown {row : Option Nat} (h : R.Own w B v l) (hg : w.grownBy w' row) (hr : ∀ g, v.ownBlock = some g → row ≠ some g) : R.Own w' B v l :=
  World.ownsRow.kept h (row := row) hg (by
    cases e : v.ownBlock with
    | none => simp
    | some g => have := hr g e; simpa using fun h => this h.symm)
theorem Own.lower (h : R.Own w B v l) (hB : B' ≤ B) : R.Own w B' v l := by
  refine ⟨h.1, h.2.imp id ?_⟩
  rintro ⟨g, cap, cur, e, hb, r⟩
  exact ⟨g, cap, cur, e, by omega, r⟩
theorem Own.block (h : R.Own w B v l) : ∀ k, v.ownBlock = some k → B ≤ k := fun k hk => (World.ownsRow.lt h k hk).1
theorem Own.app (hb : Below B w0 w) (ho : R.Own w B v l) (hg : w.grownBy w' v.ownBlock) (hB : B ≤ w0.heap.size) : Below B w0 w' := hb.grown hg (Nat.le_trans hB hb.size) ho.block
theorem info_of (R : Rk α) : ∃ i0, Tryd.prog.info? R.ty = some i0 ∧ i0.zero = some R.zero ∧ i0.size = R.k ∧ i0.bytes = R.bytes := info_parts R.info
theorem append_fits {n m bytes : Nat} (h : n + m ≤ 1000000) (hb : bytes ≤ 1000) : n + m ≤ maxLen ∧ (n + m) * bytes ≤ 140737488355328 := by
  refine ⟨by unfold maxLen; omega, ?_⟩
  calc (n + m) * bytes ≤ 1000000 * 1000 := Nat.mul_le_mul h hb
    _ ≤ _ := by decide
theorem wpList_appendm (R : Rk α) {w : World} {ops : Array Oper} {rest : List Oper} {o : Oper} {a : Act} {Q : Exit → Act → World → Prop} (hgd : o.guard = none) (s x : Operand)
    (ho : o.op = .call { callee := .builtin .append, args := #[s, x], argTypes := #[R.tys, R.tys] })
    (B : Nat) (v : Value) (fs tt : List α) (hs : a.eval s = v) (hown : R.Own w B v fs) (A : Option Addr) (cap n : Nat) (hx : a.eval x = .slice A n cap) (hn : n = tt.length) (hnil : A = none → cap = 0) {C : Nat} (ht : R.Row w C A tt) (hB : B ≤ w.heap.size) (f1 : fs.length + tt.length ≤ maxLen) (f2 : (fs.length + tt.length) * R.bytes ≤ 140737488355328)
    (m : Nat) (hm : m = fs.length + tt.length)
    (h : ∀ A' cap' w', R.Own w' B (.slice A' m cap') (fs ++ tt) → w.grownBy w' v.ownBlock → wpList Tryd.prog ops Q rest (a.put o.dst (.slice A' m cap')) w') : wpList Tryd.prog ops Q (o :: rest) a w := by
  have key : ∀ v' w', R.Own w' B v' (fs ++ tt) → w.grownBy w' v.ownBlock → wpList Tryd.prog ops Q rest (a.put o.dst v') w' := fun v' w' ho' hg' => by
    obtain ⟨A', cap', rfl, _, _, _, _⟩ := ho'.slice
    have e : (fs ++ tt).length = m := by rw [List.length_append, hm]
    rw [e] at ho' ⊢
    exact h A' cap' w' ho' hg'
  subst hn
  obtain ⟨i0, hi, hz0, hz1, hz2⟩ := R.info_of
  cases A with
  | none =>
    have h0 : tt = [] := by
      cases tt with
      | nil => rfl
      | cons y r => exact absurd (ht (by simp)) (by rintro ⟨_, _, e, _⟩; cases e)
    subst h0
    rw [hnil rfl] at hx
    refine wpList_append_own_none hgd s x R.tys ho B R.ty i0 R.k R.und hi v _ _ hs hown hx ?_
    exact key v w (by simpa using hown) ⟨rfl, rfl, rfl, Nat.le_refl _, fun _ _ _ => rfl⟩
  | some ad =>
    refine wpList_append_own w hgd s x R.tys ho B R.ty i0 _ R.k R.bytes R.und hi hz0 hz1 hz2 R.zsz R.pos v fs.length (R.cells fs) hs hown ad tt.length cap (R.cells tt) hx (R.cells_len tt) ?_ (R.oneCells tt) f1 f2 hB ?_
    · intro j u hu
      obtain ⟨hj, hju⟩ := List.getElem?_eq_some_iff.1 hu
      rw [R.cells_len] at hj
      obtain ⟨b, off, e, _, hc⟩ := ht (Nat.pos_of_ne_zero fun h0 => by rw [h0] at hj; simp at hj)
      simp only [Option.some.injEq] at e
      subst e
      rw [rec_add]
      exact hc j u hu
    · intro v' w' hown' hgrow _
      refine key v' w' ?_ hgrow
      unfold Own
      rw [List.length_append, cells_app]
      exact hown'
theorem wpList_append (R : Rk α) {w : World} {ops : Array Oper} {rest : List Oper} {o : Oper} {a : Act} {Q : Exit → Act → World → Prop} (hgd : o.guard = none) (s x : Operand)
    (ho : o.op = .call { callee := .builtin .append, args := #[s, x], argTypes := #[R.tys, R.tys] })
    (B : Nat) (v : Value) (fs tt : List α) (hs : a.eval s = v) (hown : R.Own w B v fs) (A : Option Addr) (cap n : Nat) (hx : a.eval x = .slice A n cap) (hn : n = tt.length) (hnil : A = none → cap = 0) {C : Nat} (ht : R.Row w C A tt) (hB : B ≤ w.heap.size) (hle : fs.length + tt.length ≤ 1000000)
    (m : Nat) (hm : m = fs.length + tt.length)
    (h : ∀ A' cap' w', R.Own w' B (.slice A' m cap') (fs ++ tt) → w.grownBy w' v.ownBlock → wpList Tryd.prog ops Q rest (a.put o.dst (.slice A' m cap')) w') : wpList Tryd.prog ops Q (o :: rest) a w := by
  obtain ⟨f1, f2⟩ := append_fits hle R.small
  exact wpList_appendm R hgd s x ho B v fs tt hs hown A cap n hx hn hnil ht hB f1 f2 m hm h
theorem step_append (R : Rk α) {w : World} {ops : Array Oper} {o : Oper} {a : Act} {K : Act → World → Prop} {E : Prop} (hgd : o.guard = none) (s x : Operand)
    (ho : o.op = .call { callee := .builtin .append, args := #[s, x], argTypes := #[R.tys, R.tys] }) {Q : Exit → Act → World → Prop}
    (B : Nat) (v : Value) (fs tt : List α) (hs : a.eval s = v) (hown : R.Own w B v fs) (A : Option Addr) (cap n : Nat) (hx : a.eval x = .slice A n cap) (hn : n = tt.length) (hnil : A = none → cap = 0) {C : Nat} (ht : R.Row w C A tt) (hB : B ≤ w.heap.size) (hle : fs.length + tt.length ≤ 1000000)
    (m : Nat) (hm : m = fs.length + tt.length)
    (h : ∀ A' cap' w', R.Own w' B (.slice A' m cap') (fs ++ tt) → w.grownBy w' v.ownBlock → K (a.put o.dst (.slice A' m cap')) w') : if Region.wanted o (yielded ops a.tmps) = true then Oper.wp Tryd.prog o a w K Q else E := by
  have hw : Region.wanted o (yielded ops a.tmps) = true := by simp [Region.wanted, hgd]
  rw [if_pos hw]
  have key : ∀ v' w', R.Own w' B v' (fs ++ tt) → w.grownBy w' v.ownBlock → K (a.put o.dst v') w' := fun v' w' ho' hg' => by
    obtain ⟨A', cap', rfl, _, _, _, _⟩ := ho'.slice
    have e : (fs ++ tt).length = m := by rw [List.length_append, hm]
    rw [e] at ho' ⊢
    exact h A' cap' w' ho' hg'
  subst hn
  obtain ⟨i0, hi, hz0, hz1, hz2⟩ := R.info_of
  cases A with
  | none =>
    have h0 : tt = [] := by
      cases tt with
      | nil => rfl
      | cons y r => exact absurd (ht (by simp)) (by rintro ⟨_, _, e, _⟩; cases e)
    subst h0
    rw [hnil rfl] at hx
    have hrun := run_append_owned_none (P := Tryd.prog) (w := w) B R.tys o.type R.ty i0 R.k R.und hi v _ _ hown
    have hk := key v w (by simpa using hown) ⟨rfl, rfl, rfl, Nat.le_refl _, fun _ _ _ => rfl⟩
    unfold Oper.wp
    simp [execOp, ho, resolve, invoke, builtin, hs, hx, hrun, Result.andThen]
    exact hk
  | some ad =>
    obtain ⟨f1, f2⟩ := append_fits hle R.small
    refine wp_append_own w s x R.tys ho B R.ty i0 _ R.k R.bytes R.und hi hz0 hz1 hz2 R.zsz R.pos v fs.length (R.cells fs) hs hown ad tt.length cap (R.cells tt) hx (R.cells_len tt) ?_ (R.oneCells tt) f1 f2 hB ?_
    · intro j u hu
      obtain ⟨hj, hju⟩ := List.getElem?_eq_some_iff.1 hu
      rw [R.cells_len] at hj
      obtain ⟨b, off, e, _, hc⟩ := ht (Nat.pos_of_ne_zero fun h0 => by rw [h0] at hj; simp at hj)
      simp only [Option.some.injEq] at e
      subst e
      rw [rec_add]
      exact hc j u hu
    · intro v' w' hown' hgrow _
      refine key v' w' ?_ hgrow
      unfold Own
      rw [List.length_append, cells_app]
      exact hown'
theorem run_slice (R : Rk α) (A : Option Addr) (n cap i j : Nat) (low high : Option Value) (w : World) (hij : i ≤ j) (hj : j ≤ n) (hn : n ≤ cap) (hlow : low = some (.int .i64 (i : Int)) ∨ (low = none ∧ i = 0)) (hhigh : high = some (.int .i64 (j : Int)) ∨ (high = none ∧ j = n)) :
    (Instr.slice R.tys (.slice A n cap) low high none).run Tryd.prog w = .ok (.slice (if cap = i then A else A.map (·.add (i * R.k))) (j - i) (cap - i)) w := by
  have hb : ∀ w, (Instr.sliceBounds true n cap low high none).run Tryd.prog w = .ok (i, j, cap) w := by
    intro w
    have hi2 : (i : Int) ≤ (j : Int) := by omega
    have hj2 : (j : Int) ≤ (cap : Int) := by omega
    have hi3 : (i : Int) ≤ (n : Int) := by omega
    rcases hlow with rfl | ⟨rfl, rfl⟩ <;> rcases hhigh with rfl | ⟨rfl, rfl⟩ <;> simp [Instr.sliceBounds, Instr.sliceBound, asIntOf, go_sem, hij, show j ≤ cap by omega] <;> intros <;> omega
  obtain ⟨d, hd, _, hs, _⟩ := R.info_of
  unfold Instr.slice
  rw [Sem.run_bind, run_underlying R.und, Result.andThen_ok]
  simp only []
  rw [Sem.run_bind, hb, Result.andThen_ok]
  simp [sizeOf, typeInfo, hd, hs, Sem.run_bind]
/-- l[i:j], told once: a row again. -/
theorem part (R : Rk α) (A : Option Addr) (fs : List α) (cap i j : Nat) (hr : Room A fs.length cap) (hA : A = none ∨ ∃ b off, A = some ⟨b, off, none⟩) (hij : i ≤ j) (hj : j ≤ fs.length) :
    ∃ A' cap' fd, fd = (fs.drop i).take (j - i) ∧ (∀ w B, R.Row w B A fs → R.Row w B A' fd) ∧ Room A' fd.length cap' ∧ (A' = none ∨ ∃ b off, A' = some ⟨b, off, none⟩) ∧ ∀ (low high : Option Value) (w : World), (low = some (.int .i64 (i : Int)) ∨ (low = none ∧ i = 0)) → (high = some (.int .i64 (j : Int)) ∨ (high = none ∧ j = fs.length)) →
      (Instr.slice R.tys (.slice A fs.length cap) low high none).run Tryd.prog w = .ok (.slice A' fd.length cap') w := by
  have hl : ((fs.drop i).take (j - i)).length = j - i := by rw [List.length_take, List.length_drop]; omega
  refine ⟨if cap = i then A else A.map (·.add (i * R.k)), cap - i, (fs.drop i).take (j - i), rfl, fun w B hs => ?_, ?_, ?_, fun low high w h1 h2 => ?_⟩
  · by_cases hc : cap = i
    · have hz : (fs.drop i).take (j - i) = [] := by
        rw [← List.length_eq_zero_iff, hl]
        have := hr.2
        omega
      rw [hz]
      exact Row.nil
    · rw [if_neg hc]
      rcases hA with rfl | ⟨b, off, rfl⟩
      · have := hr.1 rfl
        have := hr.2
        have hz : (fs.drop i).take (j - i) = [] := by
          rw [← List.length_eq_zero_iff, hl]
          omega
        rw [hz]
        exact Row.nil
      · rw [Option.map_some, rec_add]
        exact (hs.drop i).take (j - i)
  · rw [hl]
    refine ⟨fun hA => ?_, by have := hr.2; omega⟩
    by_cases hc : cap = i
    · omega
    · rw [if_neg hc] at hA
      have : A = none := by cases A <;> simp_all
      have := hr.1 this
      omega
  · by_cases hc : cap = i
    · rw [if_pos hc]
      exact hA
    · rw [if_neg hc]
      rcases hA with rfl | ⟨b, off, rfl⟩
      · exact .inl rfl
      · exact .inr ⟨b, off + i * R.k, by rw [Option.map_some, rec_add]⟩
  · rw [hl]
    exact R.run_slice A fs.length cap i j low high w hij hj hr.2 h1 h2
end Rk
end Go.Proofs.YtideldgblafhlaaDoor
namespace Go.Proofs.YtideldgblafhlaaDoor
set_option linter.unusedVariables false

/-- An id: the patch's name, the how manieth. -/
abbrev Ik := List UInt8 × Int
def ltI (x y : Ik) : Prop := x.1 < y.1 ∨ (x.1 = y.1 ∧ x.2 < y.2)
instance (x y : Ik) : Decidable (ltI x y) := by unfold ltI; exact inferInstance
/-- Have two lists one in common? -/
def meetI (a b : List Ik) : Bool := a.any fun x => decide (x ∈ b)
/-- Decimal digits. -/
def digits (n : Nat) : List UInt8 := if h : n < 10 then [48 + UInt8.ofNat n] else digits (n / 10) ++ [48 + UInt8.ofNat (n % 10)]
termination_by n
decreasing_by omega
/-- May it be? -/
def okI (right : List UInt8 → Bool) (x : Ik) : Bool := if x.1 = [] then decide (0 ≤ x.2 ∧ x.2 ≤ 2) else right x.1 && decide (0 ≤ x.2 ∧ x.2 ≤ 1048576)
def textI (right : List UInt8 → Bool) (x : Ik) : List UInt8 := if okI right x then x.1 ++ 35 :: digits x.2.toNat else []
end Go.Proofs.YtideldgblafhlaaDoor
namespace Go.Proofs.YtideldgblafhlaaDoor
open Go.RowKit
set_option linter.unusedVariables false

/-- An id as it lies: its patch, its number. -/
structure Im where
  p : ByteArray
  n : Int
deriving DecidableEq
def Im.key (x : Im) : Ik := (x.p.data.toList, x.n)
def Im.val (x : Im) : Value := .agg #[.string x.p, .int .i64 x.n]
/-- Its text and its number are what Go may hold. -/
def Im.Ok (x : Im) : Prop := x.p.size ≤ 9223372036854775807 ∧ -9223372036854775808 ≤ x.n ∧ x.n ≤ 9223372036854775807
theorem Im.key_inj {x y : Im} (h : x.key = y.key) : x = y := by
  obtain ⟨p, n⟩ := x
  obtain ⟨q, m⟩ := y
  simp only [Im.key, Prod.mk.injEq] at h
  obtain ⟨h1, rfl⟩ := h
  rw [bytes_inj h1]
def ikeys (l : List Im) : List Ik := l.map Im.key
theorem ikeys_len (l : List Im) : (ikeys l).length = l.length := by simp [ikeys]
theorem ikeys_get (l : List Im) (j : Nat) (h : j < (ikeys l).length) : (ikeys l)[j] = (l[j]'(by rw [ikeys_len] at h; exact h)).key := by simp [ikeys]
theorem mem_ikeys {x : Im} {l : List Im} : x.key ∈ ikeys l ↔ x ∈ l := by
  unfold ikeys
  rw [List.mem_map]
  exact ⟨fun ⟨y, hy, e⟩ => by rw [← Im.key_inj e]; exact hy, fun h => ⟨x, h, rfl⟩⟩
/-- Ids as records of two cells. -/
def idR : Rk Im where
  ty := 23
  tys := 24
  k := 2
  bytes := 24
  zero := .agg #[.string ByteArray.empty, .int .i64 0]
  enc := fun x => [.string x.p, .int .i64 x.n]
  len := fun _ => rfl
  one := fun x u hu => by
    simp only [List.mem_cons, List.not_mem_nil, or_false] at hu
    rcases hu with rfl | rfl <;> rfl
  pos := by decide
  small := by decide
  zsz := rfl
  info := by kernel_rfl
  und := Tryd.underlying24
abbrev Ids (w : World) (B : Nat) (A : Option Addr) (l : List Im) : Prop := idR.Row w B A l
abbrev OwnId (w : World) (B : Nat) (v : Value) (l : List Im) : Prop := idR.Own w B v l
abbrev IdAt (w : World) (g : Nat) (x : Im) : Prop := idR.At w g x
theorem ids_get {w : World} {B : Nat} {A : Option Addr} {l : List Im} (h : Ids w B A l) {j : Nat} (hj : j < l.length) : ∃ b off, A = some ⟨b, off, none⟩ ∧ b < B ∧ w.cell? ⟨b, off + j * 2, none⟩ = some (.string l[j].p) ∧ w.cell? ⟨b, off + j * 2 + 1, none⟩ = some (.int .i64 l[j].n) := by
  obtain ⟨b, off, e, hlt, hc⟩ := h.get hj
  exact ⟨b, off, e, hlt, hc 0 _ rfl, hc 1 _ rfl⟩
theorem id_c0 {w : World} {g : Nat} {x : Im} (h : IdAt w g x) : w.cell? ⟨g, 0, none⟩ = some (.string x.p) := h.cell (r := 0) rfl
theorem id_c1 {w : World} {g : Nat} {x : Im} (h : IdAt w g x) : w.cell? ⟨g, 1, none⟩ = some (.int .i64 x.n) := h.cell (r := 1) rfl
theorem id_new (w : World) (p : ByteArray) (n : Int) : IdAt (w.alloc (.cells #[.string p, .int .i64 n] 23)) w.heap.size ⟨p, n⟩ := Rk.At.new_ w (⟨p, n⟩ : Im)
theorem id_box (w : World) (x : Im) : Below w.heap.size w (w.alloc (.cells #[.string x.p, .int .i64 x.n] 23)) ∧ IdAt (w.alloc (.cells #[.string x.p, .int .i64 x.n] 23)) w.heap.size x := ⟨(Below.refl _ _).alloc (Nat.le_refl _) _, id_new w x.p x.n⟩
end Go.Proofs.YtideldgblafhlaaDoor
namespace Go.Proofs.YtideldgblafhlaaDoor
open Go.RowKit
set_option linter.unusedVariables false

theorem str_ne {s t : ByteArray} (h : s ≠ t) : (s.toList == t.toList) = false := by
  rw [beq_eq_false_iff_ne]
  intro e
  rw [toList_eq, toList_eq] at e
  exact h (bytes_inj e)
theorem str_ne_empty {s : ByteArray} (h : s ≠ ⟨#[]⟩) : (s.toList == []) = false := by
  rw [beq_eq_false_iff_ne]
  intro e
  rw [toList_eq] at e
  exact h (bytes_inj e)
theorem str_eqb (s : ByteArray) : (s.toList == s.toList) = true := by simp
theorem toB_size (l : List UInt8) : (toB l).size = l.length := by simp [toB, ByteArray.size]
end Go.Proofs.YtideldgblafhlaaDoor
namespace Go.Proofs.YtideldgblafhlaaDoor
open Go.RowKit
set_option linter.unusedVariables false

theorem im_eqb (x y : Im) : decide (x = y) = ((x.p.toList == y.p.toList) && (x.n == y.n)) := by
  by_cases h : x = y
  · subst h
    simp
  · rw [decide_eq_false h]
    by_cases h2 : x.p = y.p
    · have h3 : x.n ≠ y.n := fun e => h (by obtain ⟨p, n⟩ := x; obtain ⟨q, m⟩ := y; simp_all)
      simp [h3]
    · rw [str_ne h2]
      rfl
set_option maxRecDepth 100000 in
theorem eql_id (x y : Im) (w : World) : (binOp .eql 23 (.agg #[.string x.p, .int .i64 x.n]) (.agg #[.string y.p, .int .i64 y.n])).run Tryd.prog w = .ok (.bool (decide (x = y))) w := by
  rw [run_eql_struct, im_eqb]
  cases h1 : (x.p.toList == y.p.toList) <;> cases h2 : (x.n == y.n) <;> simp [go_sem, h1, h2]
set_option maxRecDepth 100000 in
theorem neq_id (x y : Im) (w : World) : (binOp .neq 23 (.agg #[.string x.p, .int .i64 x.n]) (.agg #[.string y.p, .int .i64 y.n])).run Tryd.prog w = .ok (.bool (!decide (x = y))) w := by
  rw [run_neq_struct, im_eqb]
  cases h1 : (x.p.toList == y.p.toList) <;> cases h2 : (x.n == y.n) <;> simp [go_sem, h1, h2]
end Go.Proofs.YtideldgblafhlaaDoor
