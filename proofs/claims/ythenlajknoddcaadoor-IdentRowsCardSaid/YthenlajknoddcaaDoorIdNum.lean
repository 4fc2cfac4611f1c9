
/- Numerals of ids, plainly: what Atoi makes of them; a text parted at its first number sign. -/
import Derived.Test.YthenlajknoddcaaDoorIdMath
import Derived.Lib.AtoiAllCases
import Derived.Lib.ItoaMem
namespace Go.Proofs.YthenlajknoddcaaDoor
open Go.RowKit
set_option linter.unusedVariables false

theorem dec_digits (n : Nat) : Lib.decDigits n = digits n := by
  induction n using Nat.strongRecOn with
  | _ n ih =>
    rw [Lib.decDigits]
    by_cases h : n < 10
    · rw [dif_pos h, digits_lt h, UInt8.ofNat_add]
      rfl
    · rw [dif_neg h, digits_ge h, ih (n / 10) (by omega), UInt8.ofNat_add]
      rfl
theorem pu_app : ∀ (l r : List UInt8) (acc a : Nat), Lib.parseUint10 acc l = .ok a → Lib.parseUint10 acc (l ++ r) = Lib.parseUint10 a r
  | [], r, acc, a, h => by
    simp only [Lib.parseUint10] at h
    injection h with h
    subst h
    rfl
  | c :: l, r, acc, a, h => by
    simp only [Lib.parseUint10, List.cons_append] at h ⊢
    split at h
    · rename_i h1
      rw [if_pos h1]
      split at h
      · cases h
      · rename_i h2
        rw [if_neg h2]
        split at h
        · cases h
        · rename_i h3
          rw [if_neg h3]
          exact pu_app l r _ a h
    · cases h
theorem pu_one (acc d : Nat) (hd : d < 10) (ha : acc * 10 + d < 1000000000) : Lib.parseUint10 acc [48 + UInt8.ofNat d] = .ok (acc * 10 + d) := by
  simp only [Lib.parseUint10]
  rw [digit_val d hd, if_pos (by omega), if_neg (by omega), if_neg (by omega)]
  congr 1
  omega
theorem pu_digits (n : Nat) (h : n < 1000000000) : Lib.parseUint10 0 (digits n) = .ok n := by
  induction n using Nat.strongRecOn with
  | _ n ih =>
    by_cases h0 : n < 10
    · rw [digits_lt h0, pu_one 0 n h0 (by omega)]
      congr 1
      omega
    · rw [digits_ge h0, pu_app _ _ _ _ (ih (n / 10) (by omega) (by omega)), pu_one _ _ (Nat.mod_lt _ (by omega)) (by omega)]
      congr 1
      omega
theorem atoi_digits (n : Nat) (h : n < 1000000000) : Lib.atoiAll (digits n) = .ok (n : Int) := by
  have hp := pu_digits n h
  have hin := digits_in n
  cases hd : digits n with
  | nil => exact absurd hd (digits_ne n)
  | cons c r =>
    rw [hd] at hp hin
    have hc := hin c (by simp)
    rw [Lib.atoiAll_plain c r (by omega) (by omega)]
    unfold Lib.parseMag
    rw [if_neg (by simp), hp]
    show (if 9223372036854775808 ≤ n then Lib.NumEnd.range else Lib.NumEnd.ok (n : Int)) = _
    rw [if_neg (by omega)]
/-- A text parted at its first number sign. -/
def CutIs (s p d : List UInt8) : Prop := (p = s ∧ d = [] ∧ (35 : UInt8) ∉ s) ∨ (s = p ++ 35 :: d ∧ (35 : UInt8) ∉ p)
theorem cut_first {p q ds es : List UInt8} (hp : (35 : UInt8) ∉ p) (hq : (35 : UInt8) ∉ q) (h : p ++ 35 :: ds = q ++ 35 :: es) : p = q ∧ ds = es := by
  rcases List.append_eq_append_iff.1 h with ⟨a, e1, e2⟩ | ⟨a, e1, e2⟩
  · cases a with
    | nil =>
      simp only [List.append_nil] at e1
      simp only [List.nil_append, List.cons.injEq, true_and] at e2
      exact ⟨e1.symm, e2⟩
    | cons b a =>
      simp only [List.cons_append, List.cons.injEq] at e2
      exact absurd (by rw [e1, ← e2.1]; simp) hq
  · cases a with
    | nil =>
      simp only [List.append_nil] at e1
      simp only [List.nil_append, List.cons.injEq, true_and] at e2
      exact ⟨e1, e2.symm⟩
    | cons b a =>
      simp only [List.cons_append, List.cons.injEq] at e2
      exact absurd (by rw [e1, ← e2.1]; simp) hp
theorem ok_sign {k : Ik} (h : okK k = true) : (35 : UInt8) ∉ k.1 := by
  unfold okK okI at h
  split at h
  · rename_i e
    rw [e]
    simp
  · have h1 := (Bool.and_eq_true_iff.1 h).1
    unfold rightB at h1
    have h2 := (Bool.and_eq_true_iff.1 h1).2
    unfold allIn at h2
    rw [List.all_eq_true] at h2
    intro hm
    have h3 := h2 35 (by rw [of_toB]; exact hm)
    revert h3
    decide
theorem cut_text {s p d : List UInt8} (hc : CutIs s p d) {k : Ik} (hk : okK k = true) (hs : textK k = s) : p = k.1 ∧ Lib.atoiAll d = .ok k.2 := by
  rw [textK_ok hk] at hs
  have hn := okK_n hk
  rcases hc with ⟨_, _, h⟩ | ⟨h, hp⟩
  · exact absurd (by rw [← hs]; simp) h
  · obtain ⟨e1, e2⟩ := cut_first (ok_sign hk) hp (hs.trans h)
    refine ⟨e1.symm, ?_⟩
    rw [← e2, atoi_digits _ (by omega)]
    congr 1
    omega
theorem cut_nil {p d : List UInt8} (hc : CutIs [] p d) : d = [] := by
  rcases hc with ⟨_, h, _⟩ | ⟨h, _⟩
  · exact h
  · simp at h
theorem parse_ok {s p d : List UInt8} (hc : CutIs s p d) {v : Int} (hv : Lib.atoiAll d = .ok v) (ht : textK (p, v) = s) : ParseK s (p, v) 0 := by
  refine .inl ⟨rfl, ?_, ht⟩
  cases h : okK (p, v)
  · exfalso
    rw [textK_no h] at ht
    subst ht
    rw [cut_nil hc] at hv
    cases hv
  · rfl
theorem parse_no {s p d : List UInt8} (hc : CutIs s p d) (h : ∀ v, Lib.atoiAll d = .ok v → textK (p, v) ≠ s) : ParseK s ([], 0) 6 := by
  refine .inr ⟨rfl, rfl, fun k hk ht => ?_⟩
  obtain ⟨e1, e2⟩ := cut_text hc hk ht
  refine h k.2 e2 ?_
  rw [e1]
  exact ht
end Go.Proofs.YthenlajknoddcaaDoor
