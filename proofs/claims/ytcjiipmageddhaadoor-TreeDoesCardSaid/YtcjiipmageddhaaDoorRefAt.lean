
/- The reference's At of layer 3. -/
import Derived.Test.YtcjiipmageddhaaDoorLinePlain
import Derived.Test.YtcjiipmageddhaaDoorAppend
import Derived.BigQuiet
import Derived.Deep.QuietTactic
import Derived.Handy
namespace Go.Proofs.YtcjiipmageddhaaDoor
open Go.RowKit
set_option linter.unusedVariables false

theorem atB_no {ls part : List (List UInt8)} {a k : Nat} (hk : k < part.length) (ha : a + k < ls.length) (h : ls[a + k] ≠ part[k]) : atB ls part a = false := by
  have : ¬ ((ls.drop a).take part.length = part) := by
    intro e
    have h1 := congrArg (·[k]?) e
    simp only [List.getElem?_take, if_pos hk, List.getElem?_drop, List.getElem?_eq_getElem ha, List.getElem?_eq_getElem hk, Option.some.injEq] at h1
    exact h h1
  simp [atB, this]
theorem atB_yes {ls part : List (List UInt8)} {a : Nat} (hl : a + part.length ≤ ls.length) (h : ∀ k (hk : k < part.length), ls[a + k]'(by omega) = part[k]) : atB ls part a = true := by
  have : (ls.drop a).take part.length = part := by
    apply List.ext_getElem
    · simp; omega
    · intro k h1 h2
      simp only [List.getElem_take, List.getElem_drop]
      exact h k h2
  simp [atB, this]
  omega

end Go.Proofs.YtcjiipmageddhaaDoor
