
/- The law IdentTexts, over package ident's calls. -/
import Derived.Test.YthenlajknoddcaaGreatDoorIdRowsLaw
namespace Go.Proofs.YthenlajknoddcaaGreatDoor
open Go.RowKit
set_option linter.unusedVariables false

theorem textK_size {k : Ik} (h : okK k = true) : k.1.length ≤ (textK k).length := by
  rw [textK_ok h, List.length_append]
  omega
theorem digits_seven {n : Nat} (h : n < 10000000) : (digits n).length ≤ 7 := by
  have key : ∀ (k n : Nat), n < 10 ^ (k + 1) → (digits n).length ≤ k + 1 := by
    intro k
    induction k with
    | zero => intro n h; rw [digits_lt (show n < 10 from h)]; simp
    | succ k ih =>
      intro n h
      by_cases h0 : n < 10
      · rw [digits_lt h0]; simp
      · rw [digits_ge h0, List.length_append]
        have := ih (n / 10) (by rw [Nat.pow_succ] at h; omega)
        simp only [List.length_cons, List.length_nil]
        omega
  exact key 6 n (Nat.lt_of_lt_of_le h (by decide))
theorem size_len (s : ByteArray) : s.data.toList.length = s.size := by rw [Array.length_toList]; rfl
end Go.Proofs.YthenlajknoddcaaGreatDoor
