
/- What package path's calls are to do, as words: each is to be proved of the landed code. -/
import Derived.Test.YthonklioandplaaDoorRefPath2
namespace Go.Proofs.YthonklioandplaaDoor
open Go.RowKit
set_option linter.unusedVariables false

def pnames (s : ByteArray) : List (List UInt8) := names nameP s.data.toList
def RightC : Prop := ∀ (s : ByteArray) (w : World), s.size ≤ 100000 → Calls Tryd.prog 12 #[.string s] w fun e w' => e = .returned (.bool (decide (pnames s ≠ []))) ∧ Below w.heap.size w w'
def SplitC : Prop := ∀ (s : ByteArray) (w : World), s.size ≤ 100000 → Calls Tryd.prog 14 #[.string s] w (RowLeft w (pnames s))
def JoinC : Prop := ∀ (A : Option Addr) (ls : List (List UInt8)) (cap : Nat) (w : World), Strs w w.heap.size A (toBs ls) → Room A ls.length cap → ls.length ≤ 20 → (∀ x ∈ ls, x.length ≤ 100) → Calls Tryd.prog 17 #[.slice A ls.length cap] w fun e w' => e = .returned (.string (toB (joinP nameP ls))) ∧ Below w.heap.size w w'
/-- Of names alone. -/
def JoinW : Prop := ∀ (A : Option Addr) (ls : List (List UInt8)) (cap : Nat) (w : World), Strs w w.heap.size A (toBs ls) → Room A ls.length cap → ls.length ≤ 20 → (∀ x ∈ ls, x.length ≤ 100) → ls.all nameP = true → Calls Tryd.prog 17 #[.slice A ls.length cap] w fun e w' => e = .returned (.string (toB (joinP nameP ls))) ∧ Below w.heap.size w w'
def DirC : Prop := ∀ (s : ByteArray) (w : World), s.size ≤ 100000 → Calls Tryd.prog 15 #[.string s] w fun e w' => e = .returned (.string (toB (dirP nameP s.data.toList))) ∧ Below w.heap.size w w'
def BaseC : Prop := ∀ (s : ByteArray) (w : World), s.size ≤ 100000 → Calls Tryd.prog 16 #[.string s] w fun e w' => e = .returned (.string (toB (baseP nameP s.data.toList))) ∧ Below w.heap.size w w'
def WithinC : Prop := ∀ (s t : ByteArray) (w : World), s.size ≤ 100000 → t.size ≤ 100000 → Calls Tryd.prog 19 #[.string s, .string t] w fun e w' => e = .returned (.bool (withinP nameP s.data.toList t.data.toList)) ∧ Below w.heap.size w w'
def MoveC : Prop := ∀ (s t u : ByteArray) (w : World), s.size ≤ 100000 → t.size ≤ 100000 → u.size ≤ 100000 → Calls Tryd.prog 20 #[.string s, .string t, .string u] w fun e w' => e = .returned (.string (toB (moveP nameP s.data.toList t.data.toList u.data.toList))) ∧ Below w.heap.size w w'
def LessC : Prop := ∀ (s t : ByteArray) (w : World), s.size ≤ 100000 → t.size ≤ 100000 → Calls Tryd.prog 21 #[.string s, .string t] w fun e w' => e = .returned (.bool (lessP nameP s.data.toList t.data.toList)) ∧ Below w.heap.size w w'
def UpsC : Prop := ∀ (s : ByteArray) (w : World), s.size ≤ 100000 → Calls Tryd.prog 10 #[.string s] w (RowLeft w (upsP nameP s.data.toList))
/-- All of package path. -/
structure PathC : Prop where
  right : RightC
  split : SplitC
  join : JoinW
  dir : DirC
  base : BaseC
  within : WithinC
  move : MoveC
  less : LessC
  ups : UpsC
end Go.Proofs.YthonklioandplaaDoor
