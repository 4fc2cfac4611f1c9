
/- Texts of ids, plainly: each is one id's alone. -/
import Derived.Test.YthenlajknoddcaaGreatDoorRefIdText
namespace Go.Proofs.YthenlajknoddcaaGreatDoor
open Go.RowKit
set_option linter.unusedVariables false

def okK (k : Ik) : Bool := okI (fun l => rightB (toB l)) k
def textK (k : Ik) : List UInt8 := textI (fun l => rightB (toB l)) k
theorem digit_val (d : Nat) (h : d < 10) : (48 + UInt8.ofNat d : UInt8).toNat = 48 + d := by
  have hc : d = 0 ∨ d = 1 ∨ d = 2 ∨ d = 3 ∨ d = 4 ∨ d = 5 ∨ d = 6 ∨ d = 7 ∨ d = 8 ∨ d = 9 := by omega
  rcases hc with rfl | rfl | rfl | rfl | rfl | rfl | rfl | rfl | rfl | rfl <;> rfl
theorem digits_in (n : Nat) : ∀ b ∈ digits n, 48 ≤ b.toNat ∧ b.toNat ≤ 57 := by
  induction n using Nat.strongRecOn with
  | _ n ih =>
    intro b hb
    by_cases h : n < 10
    · rw [digits_lt h] at hb
      obtain rfl : b = _ := by simpa using hb
      rw [digit_val n h]
      omega
    · rw [digits_ge h, List.mem_append] at hb
      rcases hb with hb | hb
      · exact ih (n / 10) (by omega) b hb
      · obtain rfl : b = _ := by simpa using hb
        rw [digit_val _ (Nat.mod_lt _ (by omega))]
        omega
theorem digits_no (n : Nat) : (35 : UInt8) ∉ digits n := fun h => by
  have := (digits_in n _ h).1
  revert this
  decide
/-- The number that digits tell. -/
def valD (l : List UInt8) : Nat := l.foldl (fun a b => a * 10 + (b.toNat - 48)) 0
theorem valD_digits (n : Nat) : valD (digits n) = n := by
  induction n using Nat.strongRecOn with
  | _ n ih =>
    by_cases h : n < 10
    · rw [digits_lt h]
      simp only [valD, List.foldl_cons, List.foldl_nil]
      rw [digit_val n h]
      omega
    · rw [digits_ge h]
      have hi := ih (n / 10) (by omega)
      unfold valD at hi ⊢
      rw [List.foldl_append, hi]
      simp only [List.foldl_cons, List.foldl_nil]
      rw [digit_val _ (Nat.mod_lt _ (by omega))]
      omega
theorem digits_inj {n m : Nat} (h : digits n = digits m) : n = m := by rw [← valD_digits n, h, valD_digits]
theorem cut_inj {p q ds es : List UInt8} (hd : (35 : UInt8) ∉ ds) (he : (35 : UInt8) ∉ es) (h : p ++ 35 :: ds = q ++ 35 :: es) : p = q ∧ ds = es := by
  rcases List.append_eq_append_iff.1 h with ⟨a, e1, e2⟩ | ⟨a, e1, e2⟩
  · cases a with
    | nil =>
      simp only [List.append_nil] at e1
      simp only [List.nil_append, List.cons.injEq, true_and] at e2
      exact ⟨e1.symm, e2⟩
    | cons b a =>
      simp only [List.cons_append, List.cons.injEq] at e2
      exact absurd (by rw [e2.2]; simp) hd
  · cases a with
    | nil =>
      simp only [List.append_nil] at e1
      simp only [List.nil_append, List.cons.injEq, true_and] at e2
      exact ⟨e1, e2.symm⟩
    | cons b a =>
      simp only [List.cons_append, List.cons.injEq] at e2
      exact absurd (by rw [e2.2]; simp) he
theorem okK_n {k : Ik} (h : okK k = true) : 0 ≤ k.2 ∧ k.2 ≤ 1048576 := by
  unfold okK okI at h
  split at h
  · have := of_decide_eq_true h
    omega
  · exact of_decide_eq_true (Bool.and_eq_true_iff.1 h).2
theorem textK_ok {k : Ik} (h : okK k = true) : textK k = k.1 ++ 35 :: digits k.2.toNat := by
  unfold textK textI
  rw [if_pos (show okI (fun l => rightB (toB l)) k = true from h)]
theorem textK_no {k : Ik} (h : okK k = false) : textK k = [] := by
  unfold textK textI
  rw [if_neg (by rw [show okI (fun l => rightB (toB l)) k = false from h]; simp)]
theorem textK_ne {k : Ik} (h : okK k = true) : textK k ≠ [] := by
  rw [textK_ok h]
  simp
theorem textK_inj {k m : Ik} (hk : okK k = true) (hm : okK m = true) (h : textK k = textK m) : k = m := by
  rw [textK_ok hk, textK_ok hm] at h
  obtain ⟨h1, h2⟩ := cut_inj (digits_no _) (digits_no _) h
  have h3 := digits_inj h2
  have a := okK_n hk
  have b := okK_n hm
  exact Prod.ext h1 (by omega)
/-- What Parse is to tell. -/
def ParseK (s : List UInt8) (z : Ik) (er : Int) : Prop := (er = 0 ∧ okK z = true ∧ textK z = s) ∨ (er = 6 ∧ z = ([], 0) ∧ ∀ k, okK k = true → textK k ≠ s)
theorem parse_text {k z : Ik} {er : Int} (h : okK k = true) (hp : ParseK (textK k) z er) : er = 0 ∧ z = k := by
  rcases hp with ⟨h1, h2, h3⟩ | ⟨_, _, h3⟩
  · exact ⟨h1, textK_inj h2 h h3⟩
  · exact absurd rfl (h3 k h)
end Go.Proofs.YthenlajknoddcaaGreatDoor
