
/- Words for memory: rows of strings; a builder kept while other blocks are made. -/
import Derived.Test.YtokkkjgdfnkjoaaDoorBuilder
import Derived.Test.YtokkkjgdfnkjoaaDoorCodePlain
import Derived.Test.YtokkkjgdfnkjoaaDoorStr
namespace Go.Proofs.YtokkkjgdfnkjoaaDoor
open Go.RowKit
set_option linter.unusedVariables false

/-- Strings lie at A, in a block that is a row of strings. -/
def StrRow (w : World) (A : Option Addr) (ss : List ByteArray) : Prop :=
  0 < ss.length → ∃ b off cur fz, A = some ⟨b, off, none⟩ ∧ w.heap[b]? = some (.cells cur 9 fz) ∧ ∀ j (h : j < ss.length), cur[off + j]? = some (.string ss[j])
/-- The bytes of strings, one behind the other. -/
def flat (ss : List ByteArray) : List UInt8 := (ss.map (·.data.toList)).flatten

theorem flat_cons (s : ByteArray) (ss : List ByteArray) : flat (s :: ss) = s.data.toList ++ flat ss := by simp [flat]
theorem flat_take (ss : List ByteArray) (k : Nat) (h : k < ss.length) : flat (ss.take (k + 1)) = flat (ss.take k) ++ ss[k].data.toList := by
  unfold flat
  rw [List.take_succ_eq_append_getElem h, List.map_append, List.flatten_append]
  simp only [List.map_cons, List.map_nil, List.flatten_cons, List.flatten_nil, List.append_nil]
theorem flat_all (ss : List ByteArray) (k : Nat) (h : ss.length ≤ k) : flat (ss.take k) = flat ss := by rw [List.take_of_length_le h]
theorem flat_take_le (ss : List ByteArray) (k : Nat) : (flat (ss.take k)).length ≤ (flat ss).length := by
  have h : flat ss = flat (ss.take k) ++ flat (ss.drop k) := by
    simp only [flat, ← List.flatten_append, ← List.map_append, List.take_append_drop]
  rw [h]; simp
theorem strCells_eq (s : ByteArray) : Lib.strCells s = Lib.byteCells s.data.toList := by
  first | rfl | simp [Lib.strCells, Lib.byteCells]
theorem byteCells_append (a b : List UInt8) : Lib.byteCells (a ++ b) = Lib.byteCells a ++ Lib.byteCells b := by
  simp [Lib.byteCells]

section
variable {w w' : World} {B B' : Nat} {A : Option Addr} {ss : List ByteArray}
theorem StrRow.at_ {k : Nat} (h : StrRow w A ss) (hk : k < ss.length) : ∃ b off, A = some ⟨b, off, none⟩ ∧ w.cell? ⟨b, off + k, none⟩ = some (.string ss[k]) := by
  obtain ⟨b, off, cur, fz, e, hb, hc⟩ := h (by omega)
  exact ⟨b, off, e, by rw [cell_of_row w b (off + k) cur _ fz hb]; exact hc k hk⟩
theorem StrRow.kept {b : Nat} {T : TypeId} {cs : Array Value} {fr : Nat × Nat} (h : StrRow w A ss) (hk : Lib.OthersKept 5 (some b) w w') (hb : w.heap[b]? = some (.cells cs T fr)) (hT : T ≠ 9) : StrRow w' A ss := fun hp => by
  obtain ⟨g, off, cur, fz, e, hg, hc⟩ := h hp
  refine ⟨g, off, cur, fz, e, hk g _ hg ?_ ?_, hc⟩
  · intro he
    have : g = b := by simpa using he
    subst this
    rw [hg] at hb
    simp only [Option.some.injEq, Obj.cells.injEq] at hb
    exact hT hb.2.1.symm
  · intro c f he
    simp only [Obj.cells.injEq] at he
    exact absurd he.2.1 (by decide)
/-- A builder stays one where only new blocks are made. -/
theorem builder_below {T e : TypeId} {b : Nat} {bs : List Value} (h : Lib.IsBuilderF T e B b bs w) (hb : Below w.heap.size w w') : Lib.IsBuilderF T e B b bs w' := by
  have hg : w.grownBy w' none := ⟨hb.os, hb.tape, hb.output, hb.size, fun i hi _ => hb.block i hi⟩
  have at_ : ∀ p, Lib.BuilderAtF T e B b p bs w → Lib.BuilderAtF T e B b p bs w' := by
    rintro p ⟨hB, v, hbk, hown, hne⟩
    have hlt : b < w.heap.size := Lib.BuilderAtF.lt ⟨hB, v, hbk, hown, hne⟩
    exact ⟨hB, v, (hb.block b hlt).trans hbk, hown.kept hg (by cases v.ownBlock <;> simp), hne⟩
  exact h.imp (at_ _) (at_ _)
theorem builder_block {T e : TypeId} {b : Nat} {bs : List Value} (h : Lib.IsBuilderF T e B b bs w) : ∃ cs fr, w.heap[b]? = some (.cells cs T fr) := by
  rcases h with ⟨_, v, hb, _⟩ | ⟨_, v, hb, _⟩ <;> exact ⟨_, _, hb⟩
end
end Go.Proofs.YtokkkjgdfnkjoaaDoor
