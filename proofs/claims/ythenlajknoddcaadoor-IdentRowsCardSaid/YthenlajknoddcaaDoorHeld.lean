
/- Rows held while blocks are made. -/
import Derived.Test.YthenlajknoddcaaDoorStr
namespace Go.Proofs.YthenlajknoddcaaDoor
open Go.RowKit
set_option linter.unusedVariables false

/-- A call hands back a row of texts; new blocks alone are made. -/
def RowLeft (w : World) (ls : List (List UInt8)) (e : Ending) (w' : World) : Prop :=
  ∃ A cap, e = .returned (.slice A ls.length cap) ∧ (A = none → cap = 0) ∧ Strs w' w'.heap.size A (toBs ls) ∧ Below w.heap.size w w'
theorem own_row {w : World} {ls : List (List UInt8)} {e : Ending} {w' : World} (h : ∃ v, e = .returned v ∧ OwnS w' w.heap.size v ls ∧ Below w.heap.size w w') : RowLeft w ls e w' := by
  obtain ⟨v, rfl, ho, hb⟩ := h
  obtain ⟨A, cap, rfl, hs, _, _⟩ := ho.strs
  exact ⟨A, cap, rfl, ho.at_.2.1.1, hs, hb⟩

theorem cell_on {w w' : World} {b off : Nat} {v : Value} (h : w.cell? ⟨b, off, none⟩ = some v) (hb : Below w.heap.size w w') : w'.cell? ⟨b, off, none⟩ = some v := (hb.cell (p := ⟨b, off, none⟩) (World.block_lt_of_cell? _ _ h)).trans h
theorem grown_cell (w : World) (g i : Nat) (v : Value) : w.grownBy (w.setCell ⟨g, i, none⟩ v) (some g) :=
  ⟨rfl, rfl, rfl, by simp [World.setCell], fun k _ hne => Below.heap_setCell w _ v k (fun e => hne (by simp [e]))⟩
theorem grown_on {w w' w2 : World} {g : Nat} (h : w.grownBy w' (some g)) (h2 : w'.grownBy w2 (some g)) : w.grownBy w2 (some g) :=
  ⟨h2.os.trans h.os, h2.tape.trans h.tape, h2.output.trans h.output, Nat.le_trans h.size h2.size, fun k hk hne => (h2.block k (Nat.lt_of_lt_of_le hk h.size) hne).trans (h.block k hk hne)⟩
theorem below_dr {w w' : World} (h : Below w.drew.heap.size w.drew w') : Below w.heap.size w w' := ⟨h.os, h.tape, h.output, h.size, h.block⟩
theorem cell_on2 {w w' : World} {b off : Nat} {v : Value} (h : w.cell? ⟨b, off, none⟩ = some v) (hb : Below w.drew.heap.size w.drew w') : w'.cell? ⟨b, off, none⟩ = some v := ((below_dr hb).cell (p := ⟨b, off, none⟩) (World.block_lt_of_cell? _ _ h)).trans h
/-- Rows held while new blocks are made. -/
def Held (w0 w : World) (l : List (Option Addr × List (List UInt8))) : Prop :=
  Below w0.heap.size w0 w ∧ ∀ p ∈ l, Strs w w.heap.size p.1 (toBs p.2)
theorem Held.step {w0 w w' : World} {l : List (Option Addr × List (List UInt8))} (h : Held w0 w l) (hb : Below w.heap.size w w') : Held w0 w' l :=
  ⟨h.1.trans (hb.mono h.1.size), fun p hp => (h.2 p hp).on hb⟩
theorem Held.push {w0 w : World} {l : List (Option Addr × List (List UInt8))} {A : Option Addr} {ls : List (List UInt8)} (h : Held w0 w l) (hs : Strs w w.heap.size A (toBs ls)) : Held w0 w ((A, ls) :: l) :=
  ⟨h.1, fun p hp => by
    rcases List.mem_cons.1 hp with rfl | hp
    · exact hs
    · exact h.2 p hp⟩
theorem Held.get {w0 w : World} {l : List (Option Addr × List (List UInt8))} {A : Option Addr} {ls : List (List UInt8)} (h : Held w0 w l) (hp : (A, ls) ∈ l) : Strs w w.heap.size A (toBs ls) := h.2 _ hp
theorem Held.quiet {w0 w : World} {l : List (Option Addr × List (List UInt8))} (h : Held w0 w l) (q : Nat) : Held w0 (w.drewN q) l :=
  ⟨below_drewN h.1 q, fun p hp => h.2 p hp⟩
theorem Held.nil (w : World) : Held w w [] := ⟨Below.refl _ _, fun p hp => by cases hp⟩
theorem Held.sub {w0 w : World} {l m : List (Option Addr × List (List UInt8))} (h : Held w0 w l) (hm : ∀ p ∈ m, p ∈ l) : Held w0 w m := ⟨h.1, fun p hp => h.2 p (hm p hp)⟩
/-- A row of strings and an error come back: the row, or none. -/
def Told (w : World) (ls : List (List UInt8)) (er : Int) (e : Ending) (w' : World) : Prop :=
  ∃ A cap l, e = .returned (.tuple #[.slice A (List.length (α := List UInt8) l) cap, .int .i64 er]) ∧ ((er = 0 → l = ls) ∧ (er ≠ 0 → l = [])) ∧ Room A l.length cap ∧ Strs w' w'.heap.size A (toBs l) ∧ Below w.heap.size w w'
theorem Told.lift {w w1 w' : World} {ls ls2 : List (List UInt8)} {er : Int} {e : Ending} (h : Told w1 ls er e w') (hb : Below w.heap.size w w1) (hl : er = 0 → ls = ls2) : Told w ls2 er e w' := by
  obtain ⟨A, cap, l, rfl, he, hA, hs, hb2⟩ := h
  exact ⟨A, cap, l, rfl, ⟨fun h => (he.1 h).trans (hl h), he.2⟩, hA, hs, hb.trans (hb2.mono hb.size)⟩
theorem told_none (w w' : World) (ls : List (List UInt8)) (er : Int) (h : er ≠ 0) (hb : Below w.heap.size w w') : Told w ls er (.returned (.tuple #[.slice none 0 0, .int .i64 er])) w' :=
  ⟨none, 0, [], rfl, ⟨fun e => absurd e h, fun _ => rfl⟩, ⟨fun _ => rfl, Nat.le_refl _⟩, fun h => absurd h (by simp [toBs]), hb⟩
end Go.Proofs.YthenlajknoddcaaDoor
