
/- Package path's Move. -/
import Derived.Test.YtcjiipmageddhaaDoorPathIn
namespace Go.Proofs.YtcjiipmageddhaaDoor
open Go.RowKit
set_option linter.unusedVariables false

theorem trim_self (p : List UInt8) : Lib.trimPrefix p p = [] := by
  unfold Lib.trimPrefix Lib.hasPrefix
  rw [if_pos (List.isPrefixOf_iff_prefix.2 (List.prefix_refl p)), List.drop_length]
theorem trim_in (f r : List UInt8) : Lib.trimPrefix (f ++ 47 :: r) f = 47 :: r := by
  unfold Lib.trimPrefix Lib.hasPrefix
  rw [if_pos (List.isPrefixOf_iff_prefix.2 (List.prefix_append _ _)), List.drop_left]
theorem within_is {p f : List UInt8} (hf : f ≠ []) (h : withinP nameP p f = true) : ∃ r, p = f ++ 47 :: r ∧ names nameP p ≠ [] := by
  rw [within_dir hf, Bool.and_eq_true, decide_eq_true_eq] at h
  obtain ⟨r, e⟩ := pre_of_prefix h.1
  exact ⟨r, e, h.2⟩
theorem names_nil : names nameP [] = [] := by
  have := nameP_empty
  simp [names, pieces, this]
theorem toB_size (l : List UInt8) : (toB l).size = l.length := by simp [toB, ByteArray.size]
theorem string_ne {s t : ByteArray} (h : s ≠ t) : (s.toList == t.toList) = false := by
  rw [beq_eq_false_iff_ne]
  intro e
  rw [toList_eq, toList_eq] at e
  exact h (bytes_inj e)

theorem size_app (u x : ByteArray) : (u ++ x).size = u.size + x.size := by simp
end Go.Proofs.YtcjiipmageddhaaDoor
