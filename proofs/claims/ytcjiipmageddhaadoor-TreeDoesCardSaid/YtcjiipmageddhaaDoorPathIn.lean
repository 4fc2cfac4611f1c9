
/- Package path's within, Within, Move. -/
import Derived.Test.YtcjiipmageddhaaDoorPathCut
namespace Go.Proofs.YtcjiipmageddhaaDoor
open Go.RowKit
set_option linter.unusedVariables false

theorem nameP_empty : nameP [] = false := by decide +kernel
theorem nameP_slash {x : List UInt8} (h : nameP x = true) : (47 : UInt8) ∉ x := by
  intro hm
  unfold nameP rightB at h
  rw [Bool.and_eq_true] at h
  have h2 := h.2
  unfold allIn at h2
  rw [List.all_eq_true] at h2
  have := h2 47 (by rw [of_toB]; exact hm)
  revert this
  decide +kernel

end Go.Proofs.YtcjiipmageddhaaDoor
