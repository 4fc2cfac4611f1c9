
/- Names of what patches make, plainly: their order, sets of them. -/
import Derived.Test.YthenlajknoddcaaGreatDoorSetPlain
namespace Go.Proofs.YthenlajknoddcaaGreatDoor
set_option linter.unusedVariables false

/-- An id: the patch's name, the how manieth. -/
abbrev Ik := List UInt8 × Int
def ltI (x y : Ik) : Prop := x.1 < y.1 ∨ (x.1 = y.1 ∧ x.2 < y.2)
instance (x y : Ik) : Decidable (ltI x y) := by unfold ltI; exact inferInstance
theorem i_irrefl (x : Ik) : ¬ ltI x x := by
  rintro (h | ⟨_, h⟩)
  · exact t_irrefl _ h
  · omega
theorem i_trans {x y z : Ik} (h : ltI x y) (h2 : ltI y z) : ltI x z := by
  rcases h with h | ⟨e, h⟩ <;> rcases h2 with h2 | ⟨e2, h2⟩
  · exact .inl (t_trans h h2)
  · exact .inl (e2 ▸ h)
  · exact .inl (e ▸ h2)
  · exact .inr ⟨e.trans e2, by omega⟩
theorem i_tri {x y : Ik} (h : ¬ ltI x y) (h2 : x ≠ y) : ltI y x := by
  by_cases e : x.1 = y.1
  · refine .inr ⟨e.symm, ?_⟩
    have h3 : ¬ x.2 < y.2 := fun h4 => h (.inr ⟨e, h4⟩)
    have h4 : x.2 ≠ y.2 := fun h5 => h2 (Prod.ext e h5)
    omega
  · exact .inl (t_tri (fun h3 => h (.inl h3)) e)
theorem i_code (x y : Ik) : (if x.1 ≠ y.1 then decide (x.1 < y.1) else decide (x.2 < y.2)) = decide (ltI x y) := by
  unfold ltI
  by_cases e : x.1 = y.1
  · have h : ¬ x.1 < y.1 := by rw [e]; exact t_irrefl _
    simp [e, t_irrefl]
  · simp [e]

/-- An id put into a set; ids as a set. -/
def insI (x : Ik) : List Ik → List Ik
  | [] => [x]
  | y :: r => if ltI y x then y :: insI x r else if y = x then y :: r else x :: y :: r
def setI (l : List Ik) : List Ik := l.foldl (fun a x => insI x a) []
theorem mem_insI (z x : Ik) : ∀ l, z ∈ insI x l ↔ z = x ∨ z ∈ l
  | [] => by simp [insI]
  | y :: r => by
    unfold insI
    have ih := mem_insI z x r
    split
    · simp only [List.mem_cons, ih]
      constructor
      · rintro (h | h | h) <;> simp [h]
      · rintro (h | h | h) <;> simp [h]
    · split
      · rename_i h; subst h; simp
      · simp
def RiseI (l : List Ik) : Prop := l.Pairwise ltI
theorem rise_insI (x : Ik) : ∀ l, RiseI l → RiseI (insI x l)
  | [], _ => by simp [insI, RiseI]
  | y :: r, h => by
    unfold RiseI at h
    obtain ⟨h1, h2⟩ := List.pairwise_cons.1 h
    unfold insI
    split
    · rename_i hlt
      refine List.pairwise_cons.2 ⟨fun z hz => ?_, rise_insI x r h2⟩
      rcases (mem_insI z x r).1 hz with rfl | hz
      · exact hlt
      · exact h1 z hz
    · split
      · exact h
      · rename_i hn hne
        have hxy : ltI x y := i_tri hn hne
        refine List.pairwise_cons.2 ⟨fun z hz => ?_, h⟩
        rcases List.mem_cons.1 hz with rfl | hz
        · exact hxy
        · exact i_trans hxy (h1 z hz)
theorem setI_snoc (l : List Ik) (x : Ik) : setI (l ++ [x]) = insI x (setI l) := by simp [setI]
theorem mem_setI (z : Ik) (l : List Ik) : z ∈ setI l ↔ z ∈ l := by
  suffices h : ∀ (l a : List Ik), z ∈ l.foldl (fun a x => insI x a) a ↔ z ∈ l ∨ z ∈ a by simpa [setI] using h l []
  intro l
  induction l with
  | nil => simp
  | cons x r ih =>
    intro a
    simp only [List.foldl_cons, ih, mem_insI, List.mem_cons]
    constructor
    · rintro (h | h | h) <;> simp [h]
    · rintro ((h | h) | h) <;> simp [h]
theorem rise_setI (l : List Ik) : RiseI (setI l) := by
  suffices h : ∀ (l a : List Ik), RiseI a → RiseI (l.foldl (fun a x => insI x a) a) from h l [] List.Pairwise.nil
  intro l
  induction l with
  | nil => exact fun a h => h
  | cons x r ih => exact fun a h => ih _ (rise_insI x a h)
/-- Two rising rows of the same ids are one. -/
theorem rise_ext : ∀ {a b : List Ik}, RiseI a → RiseI b → (∀ z, z ∈ a ↔ z ∈ b) → a = b
  | [], [], _, _, _ => rfl
  | [], y :: r, _, _, h => absurd ((h y).2 (by simp)) (by simp)
  | x :: s, [], _, _, h => absurd ((h x).1 (by simp)) (by simp)
  | x :: s, y :: r, ha, hb, h => by
    obtain ⟨h1, h2⟩ := List.pairwise_cons.1 ha
    obtain ⟨h3, h4⟩ := List.pairwise_cons.1 hb
    have hxy : x = y := by
      rcases List.mem_cons.1 ((h x).1 (by simp)) with e | hx
      · exact e
      · rcases List.mem_cons.1 ((h y).2 (by simp)) with e | hy
        · exact e.symm
        · exact absurd (i_trans (h3 x hx) (h1 y hy)) (i_irrefl y)
    subst hxy
    rw [rise_ext h2 h4 fun z => ?_]
    constructor
    · intro hz
      rcases List.mem_cons.1 ((h z).1 (List.mem_cons_of_mem _ hz)) with e | hz2
      · subst e; exact absurd (h1 z hz) (i_irrefl z)
      · exact hz2
    · intro hz
      rcases List.mem_cons.1 ((h z).2 (List.mem_cons_of_mem _ hz)) with e | hz2
      · subst e; exact absurd (h3 z hz) (i_irrefl z)
      · exact hz2
theorem insI_in {x : Ik} {l : List Ik} (hr : RiseI l) (h : x ∈ l) : insI x l = l := rise_ext (rise_insI x l hr) hr fun z => by rw [mem_insI]; constructor; (rintro (rfl | h2); exact h; exact h2); exact fun h2 => .inr h2
/-- Where an id goes into a set: behind k ids below it. -/
theorem insI_at (x : Ik) : ∀ (l : List Ik) (k : Nat), k ≤ l.length → (∀ j (h : j < l.length), j < k → ltI l[j] x) →
    (∀ h : k < l.length, ¬ ltI l[k] x) → insI x l = if h : k < l.length then (if l[k] = x then l else l.take k ++ x :: l.drop k) else l ++ [x]
  | [], k, hk, _, _ => by simp at hk; subst hk; simp [insI]
  | y :: r, 0, _, _, h => by
    have h0 : ¬ ltI y x := h (by simp)
    simp only [insI, h0, if_false]
    simp
  | y :: r, k + 1, hk, h1, h2 => by
    have hy : ltI y x := h1 0 (by simp) (by omega)
    simp only [insI, hy, if_true]
    rw [insI_at x r k (by simpa using hk) (fun j h hj => h1 (j + 1) (by simpa using h) (by omega)) (fun h => h2 (by simpa using h))]
    by_cases hkl : k < r.length
    · simp only [hkl, dif_pos, List.length_cons, Nat.add_lt_add_iff_right, List.getElem_cons_succ]
      split <;> simp
    · simp [hkl]
theorem insI_new {x : Ik} {l : List Ik} {k : Nat} (hk : k ≤ l.length) (h1 : ∀ j (h : j < l.length), j < k → ltI l[j] x) (h2 : ∀ h : k < l.length, ¬ ltI l[k] x) (hn : x ∉ l) : insI x l = l.take k ++ x :: l.drop k := by
  rw [insI_at x l k hk h1 h2]
  by_cases h : k < l.length
  · rw [dif_pos h, if_neg fun (e : l[k] = x) => hn (by rw [← e]; exact List.getElem_mem h)]
  · rw [dif_neg h]
    obtain rfl : k = l.length := by omega
    simp
theorem insI_len (x : Ik) : ∀ l, (insI x l).length ≤ l.length + 1
  | [] => by simp [insI]
  | y :: r => by
    have := insI_len x r
    unfold insI
    split
    · simp; omega
    · split <;> simp
theorem setI_len (l : List Ik) : (setI l).length ≤ l.length := by
  suffices h : ∀ (l a : List Ik), (l.foldl (fun a x => insI x a) a).length ≤ l.length + a.length by simpa [setI] using h l []
  intro l
  induction l with
  | nil => simp
  | cons x r ih =>
    intro a
    have h1 := ih (insI x a)
    have h2 := insI_len x a
    simp only [List.foldl_cons, List.length_cons]
    omega
/-- Have two lists one in common? -/
def meetI (a b : List Ik) : Bool := a.any fun x => decide (x ∈ b)
/-- The patches of ids that have one. -/
def patchesI (l : List Ik) : List (List UInt8) := setS ((l.map Prod.fst).filter fun p => decide (p ≠ []))
/-- A patch's ids, one behind the other. -/
def rowI (p : List UInt8) (first n : Int) : List Ik := if 0 ≤ first ∧ 1 ≤ n ∧ n ≤ 2000 then (List.range n.toNat).map fun (i : Nat) => (p, first + (i : Int)) else []

/-- Decimal digits. -/
def digits (n : Nat) : List UInt8 := if h : n < 10 then [48 + UInt8.ofNat n] else digits (n / 10) ++ [48 + UInt8.ofNat (n % 10)]
termination_by n
decreasing_by omega
theorem digits_ne (n : Nat) : digits n ≠ [] := by
  unfold digits
  split <;> simp
/-- May it be? -/
def okI (right : List UInt8 → Bool) (x : Ik) : Bool := if x.1 = [] then decide (0 ≤ x.2 ∧ x.2 ≤ 2) else right x.1 && decide (0 ≤ x.2 ∧ x.2 ≤ 1048576)
def textI (right : List UInt8 → Bool) (x : Ik) : List UInt8 := if okI right x then x.1 ++ 35 :: digits x.2.toNat else []
end Go.Proofs.YthenlajknoddcaaGreatDoor
