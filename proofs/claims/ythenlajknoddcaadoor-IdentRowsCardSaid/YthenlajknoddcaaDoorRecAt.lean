
/- Rows of records that a call made, in a block of their own, written over; a variable of a record handed back. -/
import Derived.Test.YthenlajknoddcaaDoorRec
import Derived.Test.YthenlajknoddcaaDoorHeld
import Derived.Laws.Rows
import Derived.Laws.ResultCell
namespace Go.Proofs.YthenlajknoddcaaDoor
open Go.RowKit
set_option linter.unusedVariables false

namespace Rk
theorem grown_below {w w' w2 : World} {g : Nat} (h : w.grownBy w' (some g)) (hb : Below w'.heap.size w' w2) : w.grownBy w2 (some g) :=
  ⟨hb.os.trans h.os, hb.tape.trans h.tape, hb.output.trans h.output, Nat.le_trans h.size hb.size, fun k hk hne => (hb.block k (Nat.lt_of_lt_of_le hk h.size)).trans (h.block k hk hne)⟩
theorem grown_both {a b c : World} {row : Option Nat} (h : a.grownBy b row) (k : b.grownBy c row) : a.grownBy c row := ⟨k.os.trans h.os, k.tape.trans h.tape, k.output.trans h.output, Nat.le_trans h.size k.size, fun i hi hr => (k.block i (Nat.lt_of_lt_of_le hi h.size) hr).trans (h.block i hi hr)⟩
theorem grown_refl (w : World) (g : Nat) : w.grownBy w (some g) := ⟨rfl, rfl, rfl, Nat.le_refl _, fun _ _ _ => rfl⟩
theorem setCells_block (g : Nat) : ∀ (vs : List Value) (o : Nat) (w : World), ∀ k, k ≠ g → (w.setCells g o vs).heap[k]? = w.heap[k]?
  | [], _, _, _, _ => rfl
  | v :: r, o, w, k, h => by
    rw [World.setCells, setCells_block g r _ _ k h]
    exact Below.heap_setCell w ⟨g, o, none⟩ v k h
theorem setCells_size (g : Nat) : ∀ (vs : List Value) (o : Nat) (w : World), (w.setCells g o vs).heap.size = w.heap.size
  | [], _, _ => rfl
  | v :: r, o, w => by rw [World.setCells, setCells_size g r]; simp [World.setCell]
theorem setCells_rest (g : Nat) : ∀ (vs : List Value) (o : Nat) (w : World), (w.setCells g o vs).os = w.os ∧ (w.setCells g o vs).tape = w.tape ∧ (w.setCells g o vs).output = w.output
  | [], _, _ => ⟨rfl, rfl, rfl⟩
  | v :: r, o, w => by rw [World.setCells]; exact setCells_rest g r (o + 1) _
theorem setCells_grown (w : World) (g o : Nat) (vs : List Value) : w.grownBy (w.setCells g o vs) (some g) :=
  ⟨(setCells_rest g vs o w).1, (setCells_rest g vs o w).2.1, (setCells_rest g vs o w).2.2, Nat.le_of_eq (setCells_size g vs o w).symm, fun k hk hne => setCells_block g vs o w k fun e => hne (by rw [e])⟩
/-- Cells written over in a list. -/
def over : List Value → Nat → List Value → List Value
  | l, _, [] => l
  | l, o, v :: r => over (l.set o v) (o + 1) r
theorem over_len : ∀ (vs : List Value) (l : List Value) (o : Nat), (over l o vs).length = l.length
  | [], l, o => rfl
  | v :: r, l, o => by rw [over, over_len r, List.length_set]
theorem over_get : ∀ (vs : List Value) (l : List Value) (o t : Nat), (over l o vs)[t]? = if o ≤ t ∧ t < o + vs.length ∧ t < l.length then vs[t - o]? else l[t]?
  | [], l, o, t => by rw [over, if_neg (by simp; omega)]
  | v :: r, l, o, t => by
    rw [over, over_get r, List.length_set]
    by_cases h : t = o
    · subst h
      rw [if_neg (by omega)]
      by_cases hl : t < l.length
      · rw [if_pos ⟨by omega, by simp, hl⟩, List.getElem?_set_self hl, Nat.sub_self]
        rfl
      · rw [if_neg (by omega), List.getElem?_eq_none (by simp; omega), List.getElem?_eq_none (by omega)]
    · by_cases h2 : o + 1 ≤ t ∧ t < o + 1 + r.length ∧ t < l.length
      · rw [if_pos h2, if_pos ⟨by omega, by simp; omega, h2.2.2⟩, show t - o = (t - (o + 1)) + 1 by omega, List.getElem?_cons_succ]
      · rw [if_neg h2, List.getElem?_set_ne (fun e => h e.symm), if_neg (by simp only [List.length_cons]; omega)]
theorem setCells_arr (g : Nat) (t : TypeId) : ∀ (vs : List Value) (o : Nat) (w : World) (cur : Array Value), w.heap[g]? = some (.cells cur t (0, 0)) →
    ∃ cur', (w.setCells g o vs).heap[g]? = some (.cells cur' t (0, 0)) ∧ cur'.toList = over cur.toList o vs
  | [], _, w, cur, h => ⟨cur, h, rfl⟩
  | v :: r, o, w, cur, h => by
    obtain ⟨c2, h1, h2⟩ := setCells_arr g t r (o + 1) (w.setCell ⟨g, o, none⟩ v) (cur.setIfInBounds o v) (by simp [World.setCell, Array.getElem?_modify, h])
    refine ⟨c2, h1, ?_⟩
    rw [h2, Array.toList_setIfInBounds, over]
variable {α : Type}
/-- A row of records in a block of its own, from its beginning on; the block has room for cap. -/
structure Blk (R : Rk α) (w : World) (g cap : Nat) (d : List α) : Prop where
  h : ∃ cur, w.heap[g]? = some (.cells cur R.ty (0, 0)) ∧ cur.size = cap * R.k ∧ cur.toList.take (d.length * R.k) = R.cells d
  len : d.length ≤ cap
  max : cap ≤ maxLen
variable {R : Rk α} {w w' : World} {g cap : Nat} {d : List α}
theorem Blk.own (k : R.Blk w g cap d) {B : Nat} (hB : B ≤ g) : R.Own w B (.slice (some ⟨g, 0, none⟩) d.length cap) d := by
  obtain ⟨cur, h1, h2, h3⟩ := k.h
  exact ⟨R.cells_len d, .inr ⟨g, cap, cur, rfl, hB, h1, k.len, k.max, h2, h3⟩⟩
theorem Blk.lt (k : R.Blk w g cap d) : g < w.heap.size := by
  obtain ⟨cur, h1, _⟩ := k.h
  exact (Array.getElem?_eq_some_iff.1 h1).1
theorem Blk.cell (k : R.Blk w g cap d) {j : Nat} (hj : j < d.length) {r : Nat} {u : Value} (hu : (R.enc d[j])[r]? = some u) : w.cell? ⟨g, j * R.k + r, none⟩ = some u := by
  have hr : r < R.k := by
    have := (List.getElem?_eq_some_iff.1 hu).1
    rwa [R.len] at this
  have hm : j * R.k + r < d.length * R.k := by
    have h1 : (j + 1) * R.k ≤ d.length * R.k := Nat.mul_le_mul_right _ hj
    rw [Nat.add_mul, Nat.one_mul] at h1
    omega
  rw [← R.cells_get d j hj r hr] at hu
  obtain ⟨cur, h1, h2, h3⟩ := k.h
  rw [← h3, List.getElem?_take, if_pos hm, Array.getElem?_toList] at hu
  simp only [World.cell?, h1, Option.isSome_none, Bool.false_eq_true, if_false]
  exact hu
theorem Blk.fz (k : R.Blk w g cap d) (i : Nat) : w.frozen? ⟨g, i, none⟩ = false := by
  obtain ⟨cur, h1, _⟩ := k.h
  simp [World.frozen?, h1]
theorem Blk.some_ (k : R.Blk w g cap d) {i : Nat} (hi : i < cap * R.k) : (w.cell? ⟨g, i, none⟩).isSome = true := by
  obtain ⟨cur, h1, h2, _⟩ := k.h
  simp only [World.cell?, h1, Option.isSome_none, Bool.false_eq_true, if_false]
  rw [Array.getElem?_eq_getElem (by omega)]
  rfl
theorem Blk.on (k : R.Blk w g cap d) (hb : Below w.heap.size w w') : R.Blk w' g cap d := by
  obtain ⟨cur, h1, h2, h3⟩ := k.h
  exact ⟨⟨cur, (hb.block g k.lt).trans h1, h2, h3⟩, k.len, k.max⟩
theorem Blk.take (k : R.Blk w g cap d) (i : Nat) (hi : i ≤ d.length) : R.Blk w g cap (d.take i) := by
  obtain ⟨cur, h1, h2, h3⟩ := k.h
  refine ⟨⟨cur, h1, h2, ?_⟩, by rw [List.length_take]; have := k.len; omega, k.max⟩
  have e : R.cells d = R.cells (d.take i) ++ R.cells (d.drop i) := by rw [← cells_app, List.take_append_drop]
  have hl : (R.cells (d.take i)).length = i * R.k := by rw [cells_len, List.length_take, Nat.min_eq_left hi]
  have h4 := congrArg (List.take (i * R.k)) h3
  rw [List.take_take, e, List.take_left' hl, Nat.min_eq_left (Nat.mul_le_mul_right _ hi)] at h4
  rw [List.length_take, Nat.min_eq_left hi]
  exact h4
theorem Blk.row (k : R.Blk w g cap d) : R.Row w w.heap.size (some ⟨g, 0, none⟩) d := (k.own (Nat.zero_le _)).parts.2.1
theorem cells_set : ∀ (d : List α) (i : Nat) (x : α), i < d.length → R.cells (d.set i x) = over (R.cells d) (i * R.k) (R.enc x) := fun d i x hi => by
  refine List.ext_getElem? fun t => ?_
  rw [over_get, R.len, R.cells_len]
  by_cases ht : t < d.length * R.k
  · obtain ⟨j, r, hj, hr, rfl⟩ := R.at_place d ht
    rw [R.cells_get _ j (by simpa using hj) r hr]
    by_cases e : j = i
    · subst e
      rw [if_pos ⟨by omega, by omega, ht⟩, Nat.add_sub_cancel_left, List.getElem_set_self]
    · rw [if_neg, R.cells_get d j hj r hr, List.getElem_set_ne (fun h => e h.symm)]
      rintro ⟨h1, h2, _⟩
      rcases Nat.lt_or_gt_of_ne e with h | h
      · have h3 : (j + 1) * R.k ≤ i * R.k := Nat.mul_le_mul_right _ h
        rw [Nat.add_mul] at h3
        omega
      · have h3 : (i + 1) * R.k ≤ j * R.k := Nat.mul_le_mul_right _ h
        rw [Nat.add_mul] at h3
        omega
  · rw [if_neg (by omega), List.getElem?_eq_none (by rw [R.cells_len, List.length_set]; omega), List.getElem?_eq_none (by rw [R.cells_len]; omega)]
theorem over_take (l vs : List Value) (o m : Nat) : (over l o vs).take m = over (l.take m) o vs := by
  refine List.ext_getElem? fun t => ?_
  rw [List.getElem?_take, over_get, over_get, List.length_take, List.getElem?_take]
  by_cases h : t < m
  · rw [if_pos h, if_pos h]
    by_cases h2 : o ≤ t ∧ t < o + vs.length ∧ t < l.length
    · rw [if_pos h2, if_pos (by omega)]
    · rw [if_neg h2, if_neg (by omega)]
  · rw [if_neg h, if_neg h]
    split <;> first | omega | rfl
/-- A record written over another. -/
theorem Blk.put (k : R.Blk w g cap d) {i : Nat} (hi : i < d.length) (x : α) : R.Blk (w.setCells g (i * R.k) (R.enc x)) g cap (d.set i x) := by
  obtain ⟨cur, h1, h2, h3⟩ := k.h
  obtain ⟨c2, e1, e2⟩ := setCells_arr g R.ty (R.enc x) (i * R.k) w cur h1
  refine ⟨⟨c2, e1, ?_, ?_⟩, by simpa using k.len, k.max⟩
  · have h := congrArg List.length e2
    rw [over_len, Array.length_toList, Array.length_toList, h2] at h
    exact h
  · rw [List.length_set, e2, cells_set d i x hi, ← h3, over_take]
theorem Blk.cleared (k : R.Blk w g cap d) (vs : List Value) : R.Blk (w.setCells g (d.length * R.k) vs) g cap d := by
  obtain ⟨cur, h1, h2, h3⟩ := k.h
  obtain ⟨c2, e1, e2⟩ := setCells_arr g R.ty vs (d.length * R.k) w cur h1
  refine ⟨⟨c2, e1, ?_, ?_⟩, k.len, k.max⟩
  · have h := congrArg List.length e2
    rw [over_len, Array.length_toList, Array.length_toList, h2] at h
    exact h
  · rw [e2, over_take, h3]
    refine List.ext_getElem? fun t => ?_
    rw [over_get, R.cells_len, if_neg (by omega)]
theorem own_cases {B : Nat} {v : Value} (h : R.Own w B v d) : (v = .slice none 0 0 ∧ d = []) ∨ ∃ g cap, v = .slice (some ⟨g, 0, none⟩) d.length cap ∧ B ≤ g ∧ R.Blk w g cap d := by
  rcases h.2 with ⟨e, h0⟩ | ⟨g, cap, cur, e, hb, hg, hle, hm, hs, ht⟩
  · exact .inl ⟨e, List.length_eq_zero_iff.1 h0⟩
  · exact .inr ⟨g, cap, e, hb, ⟨cur, hg, hs, ht⟩, hle, hm⟩
/-- A variable of a record written over. -/
theorem At.put {x0 : α} (k : R.At w g x0) (x : α) : R.At (w.setCells g 0 (R.enc x)) g x := by
  obtain ⟨c2, e1, e2⟩ := setCells_arr g R.ty (R.enc x) 0 w _ k
  have h : c2 = (R.enc x).toArray := by
    apply Array.toList_inj.1
    rw [e2]
    refine List.ext_getElem? fun t => ?_
    rw [over_get, List.toList_toArray, List.toList_toArray, R.len, R.len]
    by_cases ht : t < R.k
    · rw [if_pos ⟨Nat.zero_le _, by omega, ht⟩, Nat.sub_zero]
    · rw [if_neg (by omega), List.getElem?_eq_none (by rw [R.len]; omega), List.getElem?_eq_none (by rw [R.len]; omega)]
  subst h
  exact e1
end Rk
end Go.Proofs.YthenlajknoddcaaDoor
