
/- The walk through two lists, hunk by hunk. -/
import Derived.Test.YtmffmhadimeplaaRefHunks
import Derived.Test.YtmffmhadimeplaaDiffLong
namespace Go.Proofs.Ytmffmhadimeplaa
open Go.RowKit
set_option linter.unusedVariables false
set_option linter.unusedSectionVars false

theorem walk_fuel {α : Type} [DecidableEq α] : ∀ (f f' i : Nat) (a b : List α) (h : Hk α), a.length + b.length ≤ f → a.length + b.length ≤ f' → walk f i a b h = walk f' i a b h
  | f, f', i, [], [], h, _, _ => by cases f <;> cases f' <;> rfl
  | 0, _, i, x :: a, b, h, h1, _ => by simp at h1
  | 0, _, i, [], y :: b, h, h1, _ => by simp at h1
  | _ + 1, 0, i, x :: a, b, h, _, h1 => by simp at h1
  | _ + 1, 0, i, [], y :: b, h, _, h1 => by simp at h1
  | f + 1, f' + 1, i, x :: a, [], h, h1, h2 => by
    rw [walk, walk]
    exact walk_fuel f f' (i + 1) a [] _ (by simp at h1 ⊢; omega) (by simp at h2 ⊢; omega)
  | f + 1, f' + 1, i, [], y :: b, h, h1, h2 => by
    rw [walk, walk]
    exact walk_fuel f f' i [] b _ (by simp at h1 ⊢; omega) (by simp at h2 ⊢; omega)
  | f + 1, f' + 1, i, x :: a, y :: b, h, h1, h2 => by
    simp only [List.length_cons] at h1 h2
    rw [walk, walk]
    rw [walk_fuel f f' (i + 1) a b _ (by omega) (by omega), walk_fuel f f' (i + 1) a (y :: b) _ (by simp; omega) (by simp; omega), walk_fuel f f' i (x :: a) b _ (by simp; omega) (by simp; omega)]
def shiftH {α : Type} (c : Nat) (h : Hk α) : Hk α := ⟨h.at_ + c, h.old, h.new⟩
theorem flush_shift {α : Type} [DecidableEq α] (c : Nat) (h : Hk α) (l : List (Hk α)) : flush (shiftH c h) (l.map (shiftH c)) = (flush h l).map (shiftH c) := by
  unfold flush shiftH
  split
  · rfl
  · simp
theorem walk_shift {α : Type} [DecidableEq α] (c : Nat) : ∀ (f i : Nat) (a b : List α) (h : Hk α), walk f (i + c) a b (shiftH c h) = (walk f i a b h).map (shiftH c)
  | 0, i, a, b, h => by
    have e : ∀ (i : Nat) (h : Hk α), walk 0 i a b h = flush h [] := fun i h => by cases a <;> cases b <;> rfl
    rw [e, e]
    exact flush_shift c h []
  | f + 1, i, [], [], h => flush_shift c h []
  | f + 1, i, x :: a, [], h => by
    have := walk_shift c f (i + 1) a [] ⟨h.at_, h.old ++ [x], h.new⟩
    rw [walk, walk, ← this, Nat.add_right_comm]
    rfl
  | f + 1, i, [], y :: b, h => by
    have := walk_shift c f i [] b ⟨h.at_, h.old, h.new ++ [y]⟩
    rw [walk, walk, ← this]
    rfl
  | f + 1, i, x :: a, y :: b, h => by
    have h1 := walk_shift c f (i + 1) a b ⟨i + 1, [], []⟩
    have h2 := walk_shift c f (i + 1) a (y :: b) ⟨h.at_, h.old ++ [x], h.new⟩
    have h3 := walk_shift c f i (x :: a) b ⟨h.at_, h.old, h.new ++ [y]⟩
    rw [walk, walk]
    split
    · rw [← flush_shift, ← h1, Nat.add_right_comm]
      rfl
    · split
      · rw [← h2, Nat.add_right_comm]
        rfl
      · rw [← h3]
        rfl

/-- The hunks that are left behind i and j lines. -/
def HW (la lc : List (List UInt8)) (i j : Nat) : List (Hk (List UInt8)) := walk (la.length - i + (lc.length - j)) i (la.drop i) (lc.drop j) ⟨i, [], []⟩
theorem flush_nil {α : Type} [DecidableEq α] (i : Nat) (l : List (Hk α)) : flush ⟨i, [], []⟩ l = l := by simp [flush]
section
variable {la lc : List (List UInt8)} {i j f : Nat} {h : Hk (List UInt8)}
theorem HW_same (hi : i < la.length) (hj : j < lc.length) (he : la[i] = lc[j]) : HW la lc i j = HW la lc (i + 1) (j + 1) := by
  unfold HW
  rw [walk_same hi hj he (Nat.le_refl _), flush_nil]
  exact walk_fuel _ _ _ _ _ _ (by simp only [List.length_drop]; omega) (by simp only [List.length_drop]; omega)
theorem HW_end (hi : ¬ i < la.length) (hj : ¬ j < lc.length) : HW la lc i j = [] := by
  unfold HW
  rw [walk_end hi hj, flush_nil]
theorem stop_end (hi : ¬ i < la.length) (hj : ¬ j < lc.length) : walk f i (la.drop i) (lc.drop j) h = flush h (HW la lc i j) := by
  rw [walk_end hi hj, HW_end hi hj]
theorem stop_same (hi : i < la.length) (hj : j < lc.length) (he : la[i] = lc[j]) (hf : la.length - i + (lc.length - j) ≤ f) : walk f i (la.drop i) (lc.drop j) h = flush h (HW la lc i j) := by
  rw [walk_same hi hj he hf, HW_same hi hj he]
  congr 1
  exact walk_fuel _ _ _ _ _ _ (by simp only [List.length_drop]; omega) (by simp only [List.length_drop]; omega)
theorem pre_cons {α : Type} [DecidableEq α] (x y : α) (a b : List α) : pre (x :: a) (y :: b) = if x = y then pre a b + 1 else 0 := rfl
theorem pre_pos (h : pre (la.drop i) (lc.drop j) ≠ 0) : ∃ (hi : i < la.length) (hj : j < lc.length), la[i] = lc[j] ∧ pre (la.drop i) (lc.drop j) = pre (la.drop (i + 1)) (lc.drop (j + 1)) + 1 := by
  by_cases hi : i < la.length
  · by_cases hj : j < lc.length
    · rw [List.drop_eq_getElem_cons hi, List.drop_eq_getElem_cons hj, pre_cons] at h ⊢
      split at h
      · rename_i he
        exact ⟨hi, hj, he, by rw [if_pos he]⟩
      · exact absurd rfl h
    · rw [List.drop_of_length_le (Nat.le_of_not_lt hj)] at h
      exfalso
      apply h
      cases la.drop i <;> rfl
  · rw [List.drop_of_length_le (Nat.le_of_not_lt hi)] at h
    exact absurd rfl h
theorem pre_zero (h : pre (la.drop i) (lc.drop j) = 0) (hi : i < la.length) (hj : j < lc.length) : la[i] ≠ lc[j] := by
  intro he
  rw [List.drop_eq_getElem_cons hi, List.drop_eq_getElem_cons hj] at h
  unfold pre at h
  rw [if_pos he] at h
  omega
theorem HW_pre : ∀ (p i j : Nat), pre (la.drop i) (lc.drop j) = p → HW la lc i j = HW la lc (i + p) (j + p) ∧ pre (la.drop (i + p)) (lc.drop (j + p)) = 0
  | 0, i, j, h => ⟨rfl, h⟩
  | p + 1, i, j, h => by
    obtain ⟨hi, hj, he, h2⟩ := pre_pos (la := la) (lc := lc) (i := i) (j := j) (by omega)
    have ih := HW_pre p (i + 1) (j + 1) (by omega)
    rw [show i + (p + 1) = i + 1 + p by omega, show j + (p + 1) = j + 1 + p by omega, HW_same hi hj he]
    exact ih
theorem take_more {l : List (List UInt8)} {o k : Nat} (ho : o ≤ k) (hk : k < l.length) : (l.drop o).take (k + 1 - o) = (l.drop o).take (k - o) ++ [l[k]] := by
  have e : k + 1 - o = (k - o) + 1 := by omega
  have hlt : k - o < (l.drop o).length := by rw [List.length_drop]; omega
  rw [e, List.take_succ_eq_append_getElem hlt, List.getElem_drop]
  congr 2
  simp only [show o + (k - o) = k by omega]
end
theorem hunks_HW (a b : List (List UInt8)) : hunks a b = HW a b 0 0 := by
  unfold hunks HW
  rfl
theorem hunks_shift (a b : List (List UInt8)) : hunks a b = (HW (a.drop (pre a b)) (b.drop (pre a b)) 0 0).map (shiftH (pre a b)) := by
  have h := (HW_pre (la := a) (lc := b) (pre a b) 0 0 rfl).1
  rw [hunks_HW, h, Nat.zero_add]
  have hs := walk_shift (pre a b) (a.length - pre a b + (b.length - pre a b)) 0 (a.drop (pre a b)) (b.drop (pre a b)) ⟨0, [], []⟩
  unfold HW
  rw [List.drop_zero, List.drop_zero, List.length_drop, List.length_drop, Nat.sub_zero, Nat.sub_zero, ← hs]
  simp [shiftH]
/-- The state of the walk within a hunk that is open. -/
structure Open (la lc : List (List UInt8)) (o n i j : Nat) : Prop where
  oi : o ≤ i
  nj : n ≤ j
  il : i ≤ la.length
  jl : j ≤ lc.length
  eq : HW la lc o n = walk (la.length - i + (lc.length - j)) i (la.drop i) (lc.drop j) ⟨o, (la.drop o).take (i - o), (lc.drop n).take (j - n)⟩
  pre0 : pre (la.drop o) (lc.drop n) = 0
theorem Open.start {la lc : List (List UInt8)} {o n : Nat} (ho : o ≤ la.length) (hn : n ≤ lc.length) (hp : pre (la.drop o) (lc.drop n) = 0) : Open la lc o n o n :=
  ⟨Nat.le_refl _, Nat.le_refl _, ho, hn, by simp [HW], hp⟩
theorem Open.goes {la lc : List (List UInt8)} {o n i j : Nat} (h : Open la lc o n i j) (hi : i < la.length) (hc : ¬ j < lc.length ∨ ∃ (hj : j < lc.length), la[i] ≠ lc[j] ∧ lcs (la.drop i) (lc.drop (j + 1)) ≤ lcs (la.drop (i + 1)) (lc.drop j)) : Open la lc o n (i + 1) j := by
  refine ⟨by have := h.oi; omega, h.nj, hi, h.jl, ?_, h.pre0⟩
  rw [h.eq, take_more h.oi hi]
  rcases hc with hj | ⟨hj, he, hl⟩
  · rw [walk_goes' hi hj (Nat.le_refl _)]
    exact walk_fuel _ _ _ _ _ _ (by simp only [List.length_drop]; omega) (by simp only [List.length_drop]; omega)
  · rw [walk_goes hi hj he hl (Nat.le_refl _)]
    exact walk_fuel _ _ _ _ _ _ (by simp only [List.length_drop]; omega) (by simp only [List.length_drop]; omega)
theorem Open.comes {la lc : List (List UInt8)} {o n i j : Nat} (h : Open la lc o n i j) (hj : j < lc.length) (hc : ¬ i < la.length ∨ ∃ (hi : i < la.length), la[i] ≠ lc[j] ∧ ¬ lcs (la.drop i) (lc.drop (j + 1)) ≤ lcs (la.drop (i + 1)) (lc.drop j)) : Open la lc o n i (j + 1) := by
  refine ⟨h.oi, by have := h.nj; omega, h.il, hj, ?_, h.pre0⟩
  rw [h.eq, take_more h.nj hj]
  rcases hc with hi | ⟨hi, he, hl⟩
  · rw [walk_comes' hi hj (Nat.le_refl _)]
    exact walk_fuel _ _ _ _ _ _ (by simp only [List.length_drop]; omega) (by simp only [List.length_drop]; omega)
  · rw [walk_comes hi hj he hl (Nat.le_refl _)]
    exact walk_fuel _ _ _ _ _ _ (by simp only [List.length_drop]; omega) (by simp only [List.length_drop]; omega)
/-- Where the hunk ends. -/
theorem Open.stop {la lc : List (List UInt8)} {o n i j : Nat} (h : Open la lc o n i j) (hs : (¬ i < la.length ∧ ¬ j < lc.length) ∨ pre (la.drop i) (lc.drop j) ≠ 0) :
    (o < i ∨ n < j → HW la lc o n = ⟨o, (la.drop o).take (i - o), (lc.drop n).take (j - n)⟩ :: HW la lc i j) ∧ (¬ (o < i ∨ n < j) → HW la lc o n = []) := by
  have hw : HW la lc o n = flush ⟨o, (la.drop o).take (i - o), (lc.drop n).take (j - n)⟩ (HW la lc i j) := by
    rw [h.eq]
    rcases hs with ⟨h1, h2⟩ | h1
    · exact stop_end h1 h2
    · obtain ⟨hi, hj, he, _⟩ := pre_pos h1
      exact stop_same hi hj he (Nat.le_refl _)
  have l1 : ((la.drop o).take (i - o)).length = i - o := by rw [List.length_take, List.length_drop]; have := h.il; omega
  have l2 : ((lc.drop n).take (j - n)).length = j - n := by rw [List.length_take, List.length_drop]; have := h.jl; omega
  refine ⟨fun hh => ?_, fun hh => ?_⟩
  · rw [hw]
    unfold flush
    rw [if_neg]
    rintro ⟨e1, e2⟩
    have e1 := congrArg List.length e1
    have e2 := congrArg List.length e2
    simp only [l1, l2, List.length_nil] at e1 e2
    omega
  · have e1 : i = o := by have := h.oi; omega
    have e2 : j = n := by have := h.nj; omega
    subst e1 e2
    rcases hs with ⟨h1, h2⟩ | h1
    · exact HW_end h1 h2
    · exact absurd h.pre0 h1
end Go.Proofs.Ytmffmhadimeplaa
