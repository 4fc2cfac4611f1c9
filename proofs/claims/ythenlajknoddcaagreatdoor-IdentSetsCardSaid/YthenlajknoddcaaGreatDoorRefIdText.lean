
/- The reference's Digits, Right, Text of ids. -/
import Derived.Test.YthenlajknoddcaaGreatDoorIdEq
import Derived.Test.YthenlajknoddcaaGreatDoorNameRight
namespace Go.Proofs.YthenlajknoddcaaGreatDoor
open Go.RowKit
set_option linter.unusedVariables false

theorem digits_lt {n : Nat} (h : n < 10) : digits n = [48 + UInt8.ofNat n] := by
  unfold digits
  rw [dif_pos h]
theorem digits_ge {n : Nat} (h : ¬ n < 10) : digits n = digits (n / 10) ++ [48 + UInt8.ofNat (n % 10)] := by
  rw [digits, dif_neg h]
theorem digits_len (n : Nat) : (digits n).length ≤ n + 1 := by
  induction n using Nat.strongRecOn with
  | _ n ih =>
    by_cases h : n < 10
    · rw [digits_lt h]
      simp
    · rw [digits_ge h, List.length_append]
      have := ih (n / 10) (by omega)
      simp only [List.length_cons, List.length_nil]
      omega
theorem toB_app (a b : List UInt8) : toB a ++ toB b = toB (a ++ b) := by
  apply bytes_inj
  simp [toB]
end Go.Proofs.YthenlajknoddcaaGreatDoor
