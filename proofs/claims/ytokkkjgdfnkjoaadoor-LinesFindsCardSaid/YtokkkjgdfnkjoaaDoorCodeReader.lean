
/- package code's Reader: contracts of all its calls, over the block that it lies in. -/
import Derived.Test.YtokkkjgdfnkjoaaDoorCodeRead
namespace Go.Proofs.YtokkkjgdfnkjoaaDoor
open Go.RowKit
set_option linter.unusedVariables false

/-- A Reader lies in block g: what is left, and the error. -/
def Rd (w : World) (g : Nat) (l : List UInt8) (e : Int) : Prop := w.heap[g]? = some (.cells #[.string ⟨l.toArray⟩, .int .i64 e] 72 (0, 0))
section
variable {w w' : World} {g : Nat} {l : List UInt8} {e : Int}
theorem Rd.c0 (h : Rd w g l e) : w.cell? ⟨g, 0, none⟩ = some (.string ⟨l.toArray⟩) := (cell_of_row w g 0 _ _ _ h).trans rfl
theorem Rd.c1 (h : Rd w g l e) : w.cell? ⟨g, 1, none⟩ = some (.int .i64 e) := (cell_of_row w g 1 _ _ _ h).trans rfl
theorem Rd.f (h : Rd w g l e) (i : Nat) : w.frozen? ⟨g, i, none⟩ = false := by
  unfold Rd at h
  simp [World.frozen?, h]
theorem Rd.lt (h : Rd w g l e) : g < w.heap.size := (Array.getElem?_eq_some_iff.1 h).1
theorem Rd.set0 (h : Rd w g l e) (l' : List UInt8) : Rd (w.setCell ⟨g, 0, none⟩ (.string ⟨l'.toArray⟩)) g l' e := by
  unfold Rd at h ⊢
  simp [World.setCell, Array.getElem?_modify, h]
theorem Rd.set1 (h : Rd w g l e) (e' : Int) : Rd (w.setCell ⟨g, 1, none⟩ (.int .i64 e')) g l e' := by
  unfold Rd at h ⊢
  simp [World.setCell, Array.getElem?_modify, h]
theorem Rd.below (h : Rd w g l e) (hb : Below w.heap.size w w') : Rd w' g l e := (hb.block g h.lt).trans h
end
theorem grownBy_refl (w : World) (row : Option Nat) : w.grownBy w row := ⟨rfl, rfl, rfl, Nat.le_refl _, fun _ _ _ => rfl⟩
theorem grownBy_trans {a b c : World} {row : Option Nat} (h : a.grownBy b row) (k : b.grownBy c row) : a.grownBy c row :=
  ⟨k.os.trans h.os, k.tape.trans h.tape, k.output.trans h.output, Nat.le_trans h.size k.size, fun i hi hne => (k.block i (Nat.lt_of_lt_of_le hi h.size) hne).trans (h.block i hi hne)⟩
theorem grownBy_set (w : World) (g i : Nat) (u : Value) : w.grownBy (w.setCell ⟨g, i, none⟩ u) (some g) :=
  ⟨rfl, rfl, rfl, by simp [World.setCell], fun k _ hne => Below.heap_setCell w _ u k (fun e => hne (by simp [e]))⟩
theorem below_of_grownBy {B g : Nat} {a w w' : World} (h : Below B a w) (hg : w.grownBy w' (some g)) (hB : B ≤ g) (hs : B ≤ w.heap.size) : Below B a w' :=
  h.grown hg hs (fun k hk => by simp only [Option.some.injEq] at hk; omega)

theorem read_any (s : ByteArray) (w : World) :
    Calls Tryd.prog 29 #[.string s] w fun e w' => e = .returned (.pointer (some ⟨w.heap.size, 0, none⟩)) ∧ Rd w' w.heap.size s.data.toList 0 ∧ Below w.heap.size w w' := by
  go_enter Tryd.func29, Tryd.ntmps29
  go_wp2
  go_ret
  exact ⟨rfl, heap_alloc_new w _, (Below.refl _ w).alloc (Nat.le_refl _) _⟩

theorem left_any (g : Nat) (l : List UInt8) (e0 : Int) (w : World) (h : Rd w g l e0) :
    Calls Tryd.prog 32 #[.pointer (some ⟨g, 0, none⟩)] w fun e w' => e = .returned (.int .i64 (l.length : Int)) ∧ w = w' := by
  have h0 := h.c0
  go_enter Tryd.func32, Tryd.ntmps32
  go_wp2
  go_ret
  exact ⟨by simp, rfl⟩

theorem err_any (g : Nat) (l : List UInt8) (e0 : Int) (w : World) (h : Rd w g l e0) :
    Calls Tryd.prog 31 #[.pointer (some ⟨g, 0, none⟩)] w fun e w' => e = .returned (.int .i64 e0) ∧ w = w' := by
  have h1 := h.c1
  go_enter Tryd.func31, Tryd.ntmps31
  go_wp2
  go_ret
  exact ⟨rfl, rfl⟩

theorem fail_any (g : Nat) (l : List UInt8) (e0 e1 : Int) (w : World) (h : Rd w g l e0) :
    Calls Tryd.prog 53 #[.pointer (some ⟨g, 0, none⟩), .int .i64 e1] w fun e w' => e = .returned (.tuple #[]) ∧ Rd w' g [] e1 ∧ w.grownBy w' (some g) := by
  have h0 := h.c0
  have h1 := h.c1
  have f0 := h.f 0
  have f1 := h.f 1
  go_enter Tryd.func53, Tryd.ntmps53
  go_wp2
  go_end0
  exact ⟨rfl, (h.set0 []).set1 e1, grownBy_trans (grownBy_set w g 0 _) (grownBy_set _ g 1 _)⟩
end Go.Proofs.YtokkkjgdfnkjoaaDoor
