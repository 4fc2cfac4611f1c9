
/- What package ident's calls are to do. -/
import Derived.Test.YthenlajknoddcaaGreatDoorIdMath
import Derived.Test.YthenlajknoddcaaGreatDoorRefIdSet
namespace Go.Proofs.YthenlajknoddcaaGreatDoor
open Go.RowKit
set_option linter.unusedVariables false

/-- What package ident's calls are to do (P11.1 to P11.3) in the worlds that come of W0 (the library's tables and errors lie there). -/
structure IdC (W0 : World) : Prop where
  root : ∀ w, Calls Tryz.prog 21 #[] w fun e w' => e = .returned (Im.val ⟨⟨#[]⟩, 0⟩) ∧ Below w.heap.size w w'
  begin_ : ∀ w, Calls Tryz.prog 22 #[] w fun e w' => e = .returned (Im.val ⟨⟨#[]⟩, 1⟩) ∧ Below w.heap.size w w'
  end_ : ∀ w, Calls Tryz.prog 23 #[] w fun e w' => e = .returned (Im.val ⟨⟨#[]⟩, 2⟩) ∧ Below w.heap.size w w'
  right : ∀ (x : Im) w, x.p.size ≤ 1000000 → Calls Tryz.prog 34 #[x.val] w fun e w' => e = .returned (.bool (okK x.key)) ∧ Below w.heap.size w w'
  text : ∀ (x : Im) w, Below W0.heap.size W0 w → x.p.size ≤ 1000000 → Calls Tryz.prog 20 #[x.val] w fun e w' => e = .returned (.string (toB (textK x.key))) ∧ Below w.heap.size w w'
  parse : ∀ (s : ByteArray) w, Below W0.heap.size W0 w → s.size ≤ 1000000 → Calls Tryz.prog 18 #[.string s] w fun e w' => ∃ (z : Im) (er : Int), e = .returned (.tuple #[z.val, .int .i64 er]) ∧ Hid (ParseK s.data.toList z.key er) ∧ Below w.heap.size w w'
  less : ∀ (x y : Im) w, Calls Tryz.prog 6 #[x.val, y.val] w fun e w' => e = .returned (.bool (decide (ltI x.key y.key))) ∧ Below w.heap.size w w'
  set : ∀ (A : Option Addr) (l : List Im) (c : Nat) w, Ids w w.heap.size A l → Room A l.length c → l.length ≤ 1000 → Calls Tryz.prog 9 #[.slice A l.length c] w (IdsLeft w (setI (ikeys l)))
  has : ∀ (A : Option Addr) (l : List Im) (c : Nat) (x : Im) w, Ids w w.heap.size A l → l.length ≤ 1000 → Calls Tryz.prog 11 #[.slice A l.length c, x.val] w fun e w' => e = .returned (.bool (decide (x ∈ l))) ∧ Below w.heap.size w w'
  meet : ∀ (A A2 : Option Addr) (l m : List Im) (c c2 : Nat) w, Ids w w.heap.size A l → Ids w w.heap.size A2 m → Room A2 m.length c2 → l.length ≤ 1000 → m.length ≤ 1000 → Calls Tryz.prog 13 #[.slice A l.length c, .slice A2 m.length c2] w fun e w' => e = .returned (.bool (meetI (ikeys l) (ikeys m))) ∧ Below w.heap.size w w'
  row : ∀ (p : ByteArray) (first n : Int) w, first ≤ 1073741824 → Calls Tryz.prog 19 #[.string p, .int .i64 first, .int .i64 n] w (IdsLeft w (rowI p.data.toList first n))
  patches : ∀ (A : Option Addr) (l : List Im) (c : Nat) w, Ids w w.heap.size A l → l.length ≤ 1000 → Calls Tryz.prog 16 #[.slice A l.length c] w (RowLeft w (patchesI (ikeys l)))
end Go.Proofs.YthenlajknoddcaaGreatDoor
