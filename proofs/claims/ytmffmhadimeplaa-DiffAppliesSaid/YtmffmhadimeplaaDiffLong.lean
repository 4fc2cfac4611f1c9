
/- How long lists differ, plainly: all lines between those that both begin with, and those that both end with. -/
import Derived.Test.YtmffmhadimeplaaDiffPlain
namespace Go.Proofs.Ytmffmhadimeplaa
set_option linter.unusedVariables false
set_option linter.unusedSectionVars false

section
variable {α : Type} [DecidableEq α]
/-- How long both begin alike. -/
def pre : List α → List α → Nat
  | x :: a, y :: b => if x = y then pre a b + 1 else 0
  | _, _ => 0
theorem pre_le : ∀ (a b : List α), pre a b ≤ a.length ∧ pre a b ≤ b.length
  | [], b => by simp [pre]
  | x :: a, [] => by simp [pre]
  | x :: a, y :: b => by
    have := pre_le a b
    unfold pre
    split <;> simp <;> omega
theorem pre_take : ∀ (a b : List α), a.take (pre a b) = b.take (pre a b)
  | [], b => by simp [pre]
  | x :: a, [] => by simp [pre]
  | x :: a, y :: b => by
    have := pre_take a b
    unfold pre
    split
    · rename_i h; simp [h, this]
    · simp
/-- How long both end alike. -/
def suf (a b : List α) : Nat := pre a.reverse b.reverse
theorem suf_le (a b : List α) : suf a b ≤ a.length ∧ suf a b ≤ b.length := by
  have := pre_le a.reverse b.reverse
  simpa [suf] using this
theorem suf_drop (a b : List α) : a.drop (a.length - suf a b) = b.drop (b.length - suf a b) := by
  have h := pre_take a.reverse b.reverse
  rw [List.take_reverse, List.take_reverse] at h
  have h2 := congrArg List.reverse h
  rwa [List.reverse_reverse, List.reverse_reverse] at h2
/-- The one hunk of long lists. -/
def longH (a b : List α) : List (Hk α) :=
  if a = b then [] else [⟨pre a b, (a.drop (pre a b)).take ((a.drop (pre a b)).length - suf (a.drop (pre a b)) (b.drop (pre a b))), (b.drop (pre a b)).take ((b.drop (pre a b)).length - suf (a.drop (pre a b)) (b.drop (pre a b)))⟩]
theorem longH_same (a : List α) : longH a a = [] := by simp [longH]
theorem longH_len (a b : List α) : (longH a b).length ≤ 1 ∧ ((longH a b).length = 0 ↔ a = b) := by
  unfold longH
  split <;> simp_all
theorem longH_facts (a b : List α) : Done 0 (longH a b) a b ∧ May (longH a b) ∧ sumOld (longH a b) ≤ a.length ∧ sumNew (longH a b) ≤ b.length := by
  unfold longH
  split
  · rename_i h; subst h; exact ⟨rfl, trivial, by simp [sumOld], by simp [sumNew]⟩
  · rename_i hne
    have hp := pre_le a b
    have ht := pre_take a b
    have hd := suf_drop (a.drop (pre a b)) (b.drop (pre a b))
    have ea := (List.take_append_drop (pre a b) a).symm
    have eb := (List.take_append_drop (pre a b) b).symm
    generalize pre a b = p at *
    generalize suf (a.drop p) (b.drop p) = s at *
    have e1 := (List.take_append_drop ((a.drop p).length - s) (a.drop p)).symm
    have e2 := (List.take_append_drop ((b.drop p).length - s) (b.drop p)).symm
    refine ⟨⟨a.take p, (a.drop p).drop ((a.drop p).length - s), (b.drop p).drop ((b.drop p).length - s), by rw [← e1]; exact ea, by rw [← e2, ht]; exact eb, by rw [List.length_take]; simp; omega, hd⟩, ⟨?_, trivial, trivial⟩, ?_, ?_⟩
    · by_cases h1 : (a.drop p).take ((a.drop p).length - s) = []
      · right
        intro h2
        simp only at h2
        apply hne
        rw [h1, List.nil_append] at e1
        rw [h2, List.nil_append] at e2
        rw [ea, eb, ht, e1, e2, hd]
      · exact .inl h1
    · simp [sumOld]; omega
    · simp [sumNew]; omega
theorem longH_app (a b : List α) : refApp a (longH a b) = b ∧ (∀ h ∈ longH a b, Stands a h) := by
  have h := (longH_facts a b).1
  have e := done_app (p := []) rfl h
  have s := done_stands (p := []) rfl h
  simp only [List.nil_append] at e s
  exact ⟨e, s⟩
end
end Go.Proofs.Ytmffmhadimeplaa
