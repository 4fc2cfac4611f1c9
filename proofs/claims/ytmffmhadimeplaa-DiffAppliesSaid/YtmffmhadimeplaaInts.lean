
/- Words for memory: rows of numbers, and rows of rows. -/
import Derived.Test.YtmffmhadimeplaaAppend
import Derived.Test.YtmffmhadimeplaaDiffPlain
import Derived.BigQuiet
import Derived.BigRegion
import Derived.StillTailTactics
import Derived.Deep.QuietTactic
import Derived.Handy
namespace Go.Proofs.Ytmffmhadimeplaa
open Go.RowKit
set_option linter.unusedVariables false

def intV (n : Nat) : Value := .int .i64 (n : Int)
/-- Numbers lie in block g, one a cell. -/
def IntsAt (w : World) (g : Nat) (ns : List Nat) : Prop := w.heap[g]? = some (.cells (ns.map intV).toArray 3 (0, 0))
section
variable {w w' : World} {g : Nat} {ns : List Nat}
theorem IntsAt.c (h : IntsAt w g ns) {i : Nat} (hi : i < ns.length) : w.cell? ⟨g, i, none⟩ = some (.int .i64 (ns[i] : Int)) := by
  simp [World.cell?, show w.heap[g]? = _ from h, hi, intV]
theorem IntsAt.f (h : IntsAt w g ns) (i : Nat) : w.frozen? ⟨g, i, none⟩ = false := by simp [World.frozen?, show w.heap[g]? = _ from h]
theorem IntsAt.lt (h : IntsAt w g ns) : g < w.heap.size := (Array.getElem?_eq_some_iff.1 h).1
theorem IntsAt.on (h : IntsAt w g ns) (hb : Below w.heap.size w w') : IntsAt w' g ns := (hb.block g h.lt).trans h
theorem IntsAt.grown {row : Option Nat} (h : IntsAt w g ns) (hg : w.grownBy w' row) (hr : row ≠ some g) : IntsAt w' g ns := (hg.block g h.lt (fun e => hr e.symm)).trans h
theorem IntsAt.set (h : IntsAt w g ns) (i v : Nat) : IntsAt (w.setCell ⟨g, i, none⟩ (.int .i64 (v : Int))) g (ns.set i v) := by
  unfold IntsAt at h ⊢
  simp [World.setCell, Array.getElem?_modify, h, List.map_set, intV]
theorem IntsAt.other (h : IntsAt w g ns) {k i : Nat} (hk : k ≠ g) (v : Value) : IntsAt (w.setCell ⟨k, i, none⟩ v) g ns :=
  (Below.heap_setCell w _ v g (fun e => hk e.symm)).trans h
end
/-- Rows of numbers, each in a block of its own: the slices' row and the blocks that it names. -/
def rowVal (n : Nat) (g : Nat) : Value := .slice (some ⟨g, 0, none⟩) n n
/-- A row of rows that the call made: each row has n numbers. -/
def OwnRows (w : World) (B : Nat) (v : Value) (n : Nat) (rows : List (List Nat)) : Prop :=
  ∃ gs : List Nat, gs.length = rows.length ∧ w.ownsRow B 33 1 v rows.length (gs.map (rowVal n)) ∧ ∀ j (h : j < gs.length) (h2 : j < rows.length), IntsAt w gs[j] rows[j] ∧ rows[j].length = n

/-- How much is alike of x and of what is left of b from each place on. -/
def rowOf (x b : List (List UInt8)) : List Nat := (List.range (b.length + 1)).map fun k => lcs x (b.drop k)
/-- The same, where it is reckoned yet: from place c on. -/
def fillOf (x b : List (List UInt8)) (c : Nat) : List Nat := (List.range (b.length + 1)).map fun k => if c ≤ k then lcs x (b.drop k) else 0
theorem rowOf_len (x b : List (List UInt8)) : (rowOf x b).length = b.length + 1 := by simp [rowOf]
theorem fillOf_len (x b : List (List UInt8)) (c : Nat) : (fillOf x b c).length = b.length + 1 := by simp [fillOf]
theorem rowOf_get (x b : List (List UInt8)) (k : Nat) (h : k < (rowOf x b).length) : (rowOf x b)[k] = lcs x (b.drop k) := by simp [rowOf]
theorem fillOf_get (x b : List (List UInt8)) (c k : Nat) (h : k < (fillOf x b c).length) (hc : c ≤ k) : (fillOf x b c)[k] = lcs x (b.drop k) := by simp [fillOf, hc]
theorem fillOf_end (x b : List (List UInt8)) : fillOf x b b.length = List.replicate (b.length + 1) 0 := by
  refine List.ext_getElem (by simp [fillOf]) fun k h1 h2 => ?_
  simp only [fillOf, List.getElem_map, List.getElem_range, List.getElem_replicate]
  split
  · rename_i h
    rw [List.drop_of_length_le h, lcs_nil]
  · rfl
theorem fillOf_zero (x b : List (List UInt8)) : fillOf x b 0 = rowOf x b := by simp [fillOf, rowOf]
theorem fillOf_step (x b : List (List UInt8)) (c : Nat) (hc : c < b.length) : fillOf x b c = (fillOf x b (c + 1)).set c (lcs x (b.drop c)) := by
  refine List.ext_getElem (by simp [fillOf]) fun k h1 h2 => ?_
  rw [List.getElem_set]
  simp only [fillOf, List.getElem_map, List.getElem_range]
  split
  · rename_i h
    split
    · rename_i h2; rw [h2]
    · rename_i h2
      rw [if_pos (by omega)]
  · rename_i h
    rw [if_neg (by omega), if_neg (by omega)]
theorem rowOf_nil (b : List (List UInt8)) : rowOf [] b = List.replicate (b.length + 1) 0 := by
  refine List.ext_getElem (by simp [rowOf]) fun k h1 h2 => ?_
  simp only [rowOf, List.getElem_map, List.getElem_range, List.getElem_replicate]
  rfl
theorem lcs_drop (a b : List (List UInt8)) (i k : Nat) (hi : i < a.length) (hk : k < b.length) : lcs (a.drop i) (b.drop k) = if a[i] = b[k] then lcs (a.drop (i + 1)) (b.drop (k + 1)) + 1 else max (lcs (a.drop (i + 1)) (b.drop k)) (lcs (a.drop i) (b.drop (k + 1))) := by
  rw [List.drop_eq_getElem_cons hi, List.drop_eq_getElem_cons hk, lcs_cons, ← List.drop_eq_getElem_cons hk, ← List.drop_eq_getElem_cons hi]
end Go.Proofs.Ytmffmhadimeplaa
