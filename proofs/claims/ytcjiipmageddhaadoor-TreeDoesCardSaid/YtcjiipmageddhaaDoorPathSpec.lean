
/- What package path's calls are to do, as words: each is to be proved of the landed code. -/
import Derived.Test.YtcjiipmageddhaaDoorRefPath2
namespace Go.Proofs.YtcjiipmageddhaaDoor
open Go.RowKit
set_option linter.unusedVariables false

def pnames (s : ByteArray) : List (List UInt8) := names nameP s.data.toList
def RightC : Prop := ∀ (s : ByteArray) (w : World), s.size ≤ 100000 → Calls Tryd.prog 32 #[.string s] w fun e w' => e = .returned (.bool (decide (pnames s ≠ []))) ∧ Below w.heap.size w w'
def SplitC : Prop := ∀ (s : ByteArray) (w : World), s.size ≤ 100000 → Calls Tryd.prog 47 #[.string s] w (RowLeft w (pnames s))
def DirC : Prop := ∀ (s : ByteArray) (w : World), s.size ≤ 100000 → Calls Tryd.prog 46 #[.string s] w fun e w' => e = .returned (.string (toB (dirP nameP s.data.toList))) ∧ Below w.heap.size w w'
def LessC : Prop := ∀ (s t : ByteArray) (w : World), s.size ≤ 100000 → t.size ≤ 100000 → Calls Tryd.prog 62 #[.string s, .string t] w fun e w' => e = .returned (.bool (lessP nameP s.data.toList t.data.toList)) ∧ Below w.heap.size w w'
end Go.Proofs.YtcjiipmageddhaaDoor
