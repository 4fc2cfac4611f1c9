
/- What package ident's calls are to do. -/
import Derived.Test.YthenlajknoddcaaDoorIdMath
import Derived.Test.YthenlajknoddcaaDoorRefIdSet
namespace Go.Proofs.YthenlajknoddcaaDoor
open Go.RowKit
set_option linter.unusedVariables false

/-- What package ident's calls are to do (P11.1 to P11.3) in the worlds that come of W0 (the library's tables and errors lie there). -/
structure IdC (W0 : World) : Prop where
  root : ∀ w, Calls Tryd.prog 14 #[] w fun e w' => e = .returned (Im.val ⟨⟨#[]⟩, 0⟩) ∧ Below w.heap.size w w'
  begin_ : ∀ w, Calls Tryd.prog 15 #[] w fun e w' => e = .returned (Im.val ⟨⟨#[]⟩, 1⟩) ∧ Below w.heap.size w w'
  end_ : ∀ w, Calls Tryd.prog 16 #[] w fun e w' => e = .returned (Im.val ⟨⟨#[]⟩, 2⟩) ∧ Below w.heap.size w w'
  right : ∀ (x : Im) w, x.p.size ≤ 1000000 → Calls Tryd.prog 7 #[x.val] w fun e w' => e = .returned (.bool (okK x.key)) ∧ Below w.heap.size w w'
  text : ∀ (x : Im) w, Below W0.heap.size W0 w → x.p.size ≤ 1000000 → Calls Tryd.prog 6 #[x.val] w fun e w' => e = .returned (.string (toB (textK x.key))) ∧ Below w.heap.size w w'
  parse : ∀ (s : ByteArray) w, Below W0.heap.size W0 w → s.size ≤ 1000000 → Calls Tryd.prog 10 #[.string s] w fun e w' => ∃ (z : Im) (er : Int), e = .returned (.tuple #[z.val, .int .i64 er]) ∧ Hid (ParseK s.data.toList z.key er) ∧ Below w.heap.size w w'
  less : ∀ (x y : Im) w, Calls Tryd.prog 13 #[x.val, y.val] w fun e w' => e = .returned (.bool (decide (ltI x.key y.key))) ∧ Below w.heap.size w w'
  has : ∀ (A : Option Addr) (l : List Im) (c : Nat) (x : Im) w, Ids w w.heap.size A l → l.length ≤ 1000 → Calls Tryd.prog 12 #[.slice A l.length c, x.val] w fun e w' => e = .returned (.bool (decide (x ∈ l))) ∧ Below w.heap.size w w'
  row : ∀ (p : ByteArray) (first n : Int) w, first ≤ 1073741824 → Calls Tryd.prog 11 #[.string p, .int .i64 first, .int .i64 n] w (IdsLeft w (rowI p.data.toList first n))
  patches : ∀ (A : Option Addr) (l : List Im) (c : Nat) w, Ids w w.heap.size A l → l.length ≤ 1000 → Calls Tryd.prog 17 #[.slice A l.length c] w (RowLeft w (patchesI (ikeys l)))
end Go.Proofs.YthenlajknoddcaaDoor
