
/- Sets of texts, plainly: rising byte by byte, each once. -/
import Derived.Lib.SlicesCompact
namespace Go.Proofs.YthenlajknoddcaaDoor
set_option linter.unusedVariables false

/-- A text put into a set. -/
def ins (x : List UInt8) : List (List UInt8) → List (List UInt8)
  | [] => [x]
  | y :: r => if y < x then y :: ins x r else if y = x then y :: r else x :: y :: r
/-- The texts as a set. -/
def setS (l : List (List UInt8)) : List (List UInt8) := l.foldl (fun a x => ins x a) []

theorem t_irrefl (x : List UInt8) : ¬ x < x := List.lt_irrefl x
theorem t_trans {x y z : List UInt8} (h : x < y) (h2 : y < z) : x < z := List.lt_trans h h2
theorem t_tri {x y : List UInt8} (h : ¬ x < y) (h2 : x ≠ y) : y < x := by
  rcases Decidable.em (y < x) with h3 | h3
  · exact h3
  · exact absurd (List.le_antisymm (List.not_lt.1 h3) (List.not_lt.1 h)) h2
theorem t_lt_of_le {x y : List UInt8} (h : x ≤ y) (h2 : x ≠ y) : x < y := by
  rcases Decidable.em (x < y) with h3 | h3
  · exact h3
  · exact absurd (List.le_antisymm h (List.not_lt.1 h3)) h2
theorem t_le_trans {x y z : List UInt8} (h : x ≤ y) (h2 : y < z) : x < z := List.lt_of_le_of_lt h h2

theorem mem_ins (z x : List UInt8) : ∀ l, z ∈ ins x l ↔ z = x ∨ z ∈ l
  | [] => by simp [ins]
  | y :: r => by
    unfold ins
    have ih := mem_ins z x r
    split
    · simp only [List.mem_cons, ih]
      constructor
      · rintro (h | h | h) <;> simp [h]
      · rintro (h | h | h) <;> simp [h]
    · split
      · rename_i h; subst h; simp
      · simp
def Rising (l : List (List UInt8)) : Prop := l.Pairwise (· < ·)
theorem rising_ins (x : List UInt8) : ∀ l, Rising l → Rising (ins x l)
  | [], _ => by simp [ins, Rising]
  | y :: r, h => by
    unfold Rising at h
    obtain ⟨h1, h2⟩ := List.pairwise_cons.1 h
    unfold ins
    split
    · rename_i hlt
      refine List.pairwise_cons.2 ⟨fun z hz => ?_, rising_ins x r h2⟩
      rcases (mem_ins z x r).1 hz with rfl | hz
      · exact hlt
      · exact h1 z hz
    · split
      · exact h
      · rename_i hn hne
        have hxy : x < y := t_tri hn hne
        refine List.pairwise_cons.2 ⟨fun z hz => ?_, h⟩
        rcases List.mem_cons.1 hz with rfl | hz
        · exact hxy
        · exact t_trans hxy (h1 z hz)
theorem setS_snoc (l : List (List UInt8)) (x : List UInt8) : setS (l ++ [x]) = ins x (setS l) := by simp [setS]
theorem mem_setS (z : List UInt8) (l : List (List UInt8)) : z ∈ setS l ↔ z ∈ l := by
  suffices h : ∀ (l a : List (List UInt8)), z ∈ l.foldl (fun a x => ins x a) a ↔ z ∈ l ∨ z ∈ a by simpa [setS] using h l []
  intro l
  induction l with
  | nil => simp
  | cons x r ih =>
    intro a
    simp only [List.foldl_cons, ih, mem_ins, List.mem_cons]
    constructor
    · rintro (h | h | h) <;> simp [h]
    · rintro ((h | h) | h) <;> simp [h]
theorem rising_setS (l : List (List UInt8)) : Rising (setS l) := by
  suffices h : ∀ (l a : List (List UInt8)), Rising a → Rising (l.foldl (fun a x => ins x a) a) from h l [] List.Pairwise.nil
  intro l
  induction l with
  | nil => exact fun a h => h
  | cons x r ih => exact fun a h => ih _ (rising_ins x a h)
/-- Two rising rows of the same texts are one. -/
theorem rising_ext : ∀ {a b : List (List UInt8)}, Rising a → Rising b → (∀ z, z ∈ a ↔ z ∈ b) → a = b
  | [], [], _, _, _ => rfl
  | [], y :: r, _, _, h => absurd ((h y).2 (by simp)) (by simp)
  | x :: s, [], _, _, h => absurd ((h x).1 (by simp)) (by simp)
  | x :: s, y :: r, ha, hb, h => by
    obtain ⟨h1, h2⟩ := List.pairwise_cons.1 ha
    obtain ⟨h3, h4⟩ := List.pairwise_cons.1 hb
    have hxy : x = y := by
      rcases List.mem_cons.1 ((h x).1 (by simp)) with e | hx
      · exact e
      · rcases List.mem_cons.1 ((h y).2 (by simp)) with e | hy
        · exact e.symm
        · exact absurd (t_trans (h3 x hx) (h1 y hy)) (t_irrefl y)
    subst hxy
    rw [rising_ext h2 h4 fun z => ?_]
    constructor
    · intro hz
      rcases List.mem_cons.1 ((h z).1 (List.mem_cons_of_mem _ hz)) with e | hz2
      · subst e; exact absurd (h1 z hz) (t_irrefl z)
      · exact hz2
    · intro hz
      rcases List.mem_cons.1 ((h z).2 (List.mem_cons_of_mem _ hz)) with e | hz2
      · subst e; exact absurd (h3 z hz) (t_irrefl z)
      · exact hz2
theorem setS_ext {a b : List (List UInt8)} (h : ∀ z, z ∈ a ↔ z ∈ b) : setS a = setS b := rising_ext (rising_setS a) (rising_setS b) fun z => by rw [mem_setS, mem_setS, h]
theorem setS_of_rising {a : List (List UInt8)} (h : Rising a) : setS a = a := rising_ext (rising_setS a) h fun z => mem_setS z a
theorem setS_eq_iff (a b : List (List UInt8)) : setS a = setS b ↔ ∀ z, z ∈ a ↔ z ∈ b := ⟨fun h z => by rw [← mem_setS z a, h, mem_setS], setS_ext⟩
theorem rising_filter {a : List (List UInt8)} (h : Rising a) (p : List UInt8 → Bool) : Rising (a.filter p) := h.filter p

/-- Sorted, and each run cut to one: the set. -/
theorem compact_sorted (l : List (List UInt8)) : Lib.compact (l.mergeSort fun x y => decide (x ≤ y)) = setS l := by
  have hs : (l.mergeSort fun x y => decide (x ≤ y)).Pairwise (fun x y => x ≤ y) := by
    have := List.pairwise_mergeSort (le := fun (x y : List UInt8) => decide (x ≤ y)) (by
      intro a b c h1 h2
      simp only [decide_eq_true_eq] at *
      exact List.le_trans h1 h2) (by
      intro a b
      simp only [Bool.or_eq_true, decide_eq_true_eq]
      exact List.le_total a b) l
    exact this.imp (by simp)
  have hm : ∀ z, z ∈ (l.mergeSort fun x y => decide (x ≤ y)) ↔ z ∈ l := fun z => List.mem_mergeSort
  generalize (l.mergeSort fun x y => decide (x ≤ y)) = s at *
  have hget : ∀ i j, i ≤ j → j < s.length → s.toArray[i]! ≤ s.toArray[j]! := by
    intro i j hij hj
    rw [getElem!_pos s.toArray i (by simpa using (by omega : i < s.length)), getElem!_pos s.toArray j (by simpa using hj)]
    rcases Nat.lt_or_eq_of_le hij with h | h
    · exact List.pairwise_iff_getElem.1 hs i j (by omega) hj h
    · subst h; exact List.le_refl _
  refine rising_ext ?_ (rising_setS l) fun z => ?_
  · unfold Lib.compact Lib.compactUpTo Rising
    rw [List.pairwise_map]
    have hr : (List.range s.length).Pairwise (· < ·) := List.pairwise_lt_range
    refine (hr.filter _).imp_of_mem ?_
    intro i j hi hj hij
    obtain ⟨hi1, hi2⟩ := List.mem_filter.1 hi
    obtain ⟨hj1, hj2⟩ := List.mem_filter.1 hj
    have hjl := List.mem_range.1 hj1
    simp only [Lib.keeps, decide_eq_true_eq] at hj2
    have hne : s.toArray[j]! ≠ s.toArray[j - 1]! := by
      rcases hj2 with h | h
      · omega
      · exact h
    exact t_le_trans (hget i (j - 1) (by omega) (by omega)) (t_lt_of_le (hget (j - 1) j (by omega) hjl) (Ne.symm hne))
  · rw [mem_setS, ← hm z]
    unfold Lib.compact Lib.compactUpTo
    simp only [List.mem_map, List.mem_filter, List.mem_range]
    constructor
    · rintro ⟨i, ⟨hi, _⟩, rfl⟩
      rw [getElem!_pos s.toArray i (by simpa using hi)]
      simp
    · intro hz
      obtain ⟨i, hi, rfl⟩ := List.getElem_of_mem hz
      have : ∀ i, (h : i < s.length) → ∃ a, (a < s.length ∧ Lib.keeps s.toArray a = true) ∧ s.toArray[a]! = s[i] := by
        intro i
        induction i with
        | zero => exact fun h => ⟨0, ⟨h, by simp [Lib.keeps]⟩, by rw [getElem!_pos s.toArray 0 (by simpa using h)]; simp⟩
        | succ i ih =>
          intro h
          by_cases he : s[i + 1] = s[i]
          · rw [he]; exact ih (by omega)
          · refine ⟨i + 1, ⟨h, ?_⟩, by rw [getElem!_pos s.toArray (i + 1) (by simpa using h)]; simp⟩
            simp only [Lib.keeps, decide_eq_true_eq]
            refine .inr ?_
            rw [getElem!_pos s.toArray (i + 1) (by simpa using h), getElem!_pos s.toArray (i + 1 - 1) (by simp; omega)]
            simpa using he
      exact this i hi

/-- Where a text goes into a set: behind k texts below it. -/
theorem ins_at (x : List UInt8) : ∀ (l : List (List UInt8)) (k : Nat), k ≤ l.length → (∀ j (h : j < l.length), j < k → l[j] < x) →
    (∀ h : k < l.length, ¬ l[k] < x) → ins x l = if h : k < l.length then (if l[k] = x then l else l.take k ++ x :: l.drop k) else l ++ [x]
  | [], k, hk, _, _ => by simp at hk; subst hk; simp [ins]
  | y :: r, 0, _, _, h => by
    have h0 : ¬ y < x := h (by simp)
    simp only [ins, h0, if_false]
    simp
  | y :: r, k + 1, hk, h1, h2 => by
    have hy : y < x := h1 0 (by simp) (by omega)
    simp only [ins, hy, if_true]
    rw [ins_at x r k (by simpa using hk) (fun j h hj => h1 (j + 1) (by simpa using h) (by omega)) (fun h => h2 (by simpa using h))]
    by_cases hkl : k < r.length
    · simp only [hkl, dif_pos, List.length_cons, Nat.add_lt_add_iff_right, List.getElem_cons_succ]
      split <;> simp
    · simp [hkl]
theorem ins_found {x : List UInt8} {l : List (List UInt8)} {k : Nat} (hk : k < l.length) (h1 : ∀ j (h : j < l.length), j < k → l[j] < x) (h2 : l[k] = x) : ins x l = l := by
  rw [ins_at x l k (by omega) h1 (fun _ => by rw [h2]; exact t_irrefl x), dif_pos hk, if_pos h2]
theorem ins_new {x : List UInt8} {l : List (List UInt8)} {k : Nat} (hk : k ≤ l.length) (h1 : ∀ j (h : j < l.length), j < k → l[j] < x) (h2 : ∀ h : k < l.length, ¬ l[k] < x ∧ l[k] ≠ x) : ins x l = l.take k ++ x :: l.drop k := by
  rw [ins_at x l k hk h1 (fun h => (h2 h).1)]
  by_cases h : k < l.length
  · rw [dif_pos h, if_neg (h2 h).2]
  · rw [dif_neg h]
    obtain rfl : k = l.length := by omega
    simp
end Go.Proofs.YthenlajknoddcaaDoor
