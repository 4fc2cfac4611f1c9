
/- Paths, plainly: where a path is cut, what lies within it, how it is moved, within which it lies; for any test of names that no slash passes. -/
import Derived.Test.YtcjiipmageddhaaDoorPathPlain
namespace Go.Proofs.YtcjiipmageddhaaDoor
set_option linter.unusedVariables false
set_option linter.unusedSectionVars false

theorem pieces_app : ∀ (x r : List UInt8), pieces (x ++ 47 :: r) = pieces x ++ pieces r
  | [], r => by simp [pieces]
  | c :: x, r => by
    have ih := pieces_app x r
    rw [List.cons_append]
    by_cases h : c = 47
    · rw [pieces, if_pos h, ih, pieces, if_pos h]
      rfl
    · rw [pieces, if_neg h, ih, pieces, if_neg h]
      cases e : pieces x with
      | nil => exact absurd e (pieces_ne x)
      | cons a t => rfl
theorem join_app : ∀ (a b : List (List UInt8)), a ≠ [] → b ≠ [] → joinB (a ++ b) = joinB a ++ 47 :: joinB b
  | [], _, h, _ => absurd rfl h
  | [x], b, _, hb => by rw [List.singleton_append, join_cons x hb]; rfl
  | x :: y :: a, b, _, hb => by
    have ih := join_app (y :: a) b (by simp) hb
    rw [List.cons_append, join_cons x (by simp), ih, join_cons x (by simp), List.append_assoc]
    rfl
theorem pieces_len (p : List UInt8) : 1 ≤ (pieces p).length := by
  have := pieces_ne p
  cases e : pieces p with
  | nil => exact absurd e this
  | cons a t => simp
theorem take_len {a p r : List UInt8} (h : p = a ++ r) : a.length ≤ p.length := by rw [h]; simp

section
variable {nm : List UInt8 → Bool}
/-- What a path begins with, up to a slash, is a path. -/
theorem names_app {x r : List UInt8} (h : names nm (x ++ 47 :: r) ≠ []) : names nm (x ++ 47 :: r) = pieces x ++ pieces r ∧ names nm x = pieces x ∧ names nm x ≠ [] := by
  obtain ⟨h1, h2, h3, h4⟩ := names_pieces nm h
  have e := pieces_app x r
  have hx : names nm x = pieces x := by
    unfold names
    rw [if_pos]
    refine ⟨?_, ?_, ?_⟩
    · rw [List.length_append] at h2; omega
    · rw [e, List.all_append, Bool.and_eq_true] at h3; exact h3.1
    · rw [e, List.length_append] at h4; omega
  exact ⟨by rw [h1, e], hx, by rw [hx]; exact pieces_ne x⟩
theorem dir_no {p : List UInt8} (h : names nm p = []) : dirP nm p = [] ∧ baseP nm p = [] := by
  unfold dirP baseP
  rw [h]
  exact ⟨rfl, rfl⟩
theorem dir_one {p : List UInt8} (h : names nm p ≠ []) (hs : (47 : UInt8) ∉ p) : dirP nm p = [] ∧ baseP nm p = p := by
  unfold dirP baseP
  rw [(names_pieces nm h).1, pieces_one p hs]
  exact ⟨rfl, rfl⟩
theorem dir_cut {x r : List UInt8} (h : names nm (x ++ 47 :: r) ≠ []) (hs : (47 : UInt8) ∉ r) : dirP nm (x ++ 47 :: r) = x ∧ baseP nm (x ++ 47 :: r) = r := by
  unfold dirP baseP
  rw [(names_app h).1, pieces_one r hs]
  simp [join_pieces]
/-- Within the root lies each path. -/
theorem within_root (h0 : nm [] = false) (p : List UInt8) : withinP nm p [] = decide (names nm p ≠ []) := by
  have e : names nm [] = [] := by simp [names, pieces, h0]
  unfold withinP beginsP
  rw [e]
  by_cases hp : names nm p = []
  · simp [hp]
  · have := List.length_pos_iff.2 hp
    simp [hp, this]
theorem pre_of_prefix {d p : List UInt8} (h : (d ++ [47]).isPrefixOf p = true) : ∃ r, p = d ++ 47 :: r := by
  obtain ⟨r, e⟩ := List.isPrefixOf_iff_prefix.1 h
  exact ⟨r, by rw [← e]; simp⟩
theorem prefix_of_pre (d r : List UInt8) : (d ++ [47]).isPrefixOf (d ++ 47 :: r) = true := List.isPrefixOf_iff_prefix.2 ⟨r, by simp⟩
/-- Within another path lies what begins with it and a slash. -/
theorem within_dir {d : List UInt8} (hd : d ≠ []) (p : List UInt8) : withinP nm p d = ((d ++ [47]).isPrefixOf p && decide (names nm p ≠ [])) := by
  rw [Bool.eq_iff_iff]
  unfold withinP beginsP
  simp only [Bool.and_eq_true, Bool.or_eq_true, decide_eq_true_eq]
  constructor
  · rintro ⟨⟨⟨hp, hdn⟩, hl⟩, hb1, hb2⟩
    have hdn := hdn.resolve_left hd
    refine ⟨?_, hp⟩
    have e : names nm p = names nm d ++ (names nm p).drop (names nm d).length := by
      conv => lhs; rw [← List.take_append_drop (names nm d).length (names nm p), hb2]
    have hr : (names nm p).drop (names nm d).length ≠ [] := by
      intro k
      have := congrArg List.length k
      rw [List.length_drop, List.length_nil] at this
      omega
    have e2 := join_app _ _ hdn hr
    rw [← e, join_names nm hp, join_names nm hdn] at e2
    rw [e2]
    exact prefix_of_pre _ _
  · rintro ⟨hpre, hp⟩
    obtain ⟨r, rfl⟩ := pre_of_prefix hpre
    obtain ⟨h1, h2, h3⟩ := names_app hp
    rw [h1, h2]
    have hl := pieces_len r
    refine ⟨⟨⟨by simp [pieces_ne], .inr (pieces_ne d)⟩, by simp; omega⟩, by simp, by simp⟩
/-- What a path is moved to. -/
theorem move_no {p f : List UInt8} (t : List UInt8) (h : names nm f = [] ∨ (p ≠ f ∧ withinP nm p f = false)) (hf0 : f ≠ [] ∨ names nm f = []) : moveP nm p f t = p := by
  unfold moveP
  rw [if_neg]
  rintro ⟨h1, h2, h3, h4, h5⟩
  rcases h with h | ⟨hne, hw⟩
  · exact h2 h
  · have hfd : f ≠ [] := hf0.resolve_right h2
    unfold beginsP at h4
    simp only [Bool.and_eq_true, decide_eq_true_eq] at h4
    have : ¬ (names nm f).length < (names nm p).length := by
      intro hl
      have : withinP nm p f = true := by
        unfold withinP beginsP
        simp [h1, h2, hl, h4.1, h4.2]
      rw [hw] at this
      cases this
    have e : names nm p = names nm f := by
      rw [← h4.2, List.take_of_length_le (by omega)]
    exact hne (names_inj nm e h1)
theorem move_self {p : List UInt8} (t : List UInt8) (hp : names nm p ≠ []) : moveP nm p p t = if names nm t ≠ [] then t else p := by
  unfold moveP beginsP
  rw [List.drop_length, List.append_nil, List.take_length]
  by_cases h : names nm t = []
  · simp [h]
  · rw [join_names nm h]
    simp [h, hp]
theorem move_in {f r : List UInt8} (t : List UInt8) (hp : names nm (f ++ 47 :: r) ≠ []) : moveP nm (f ++ 47 :: r) f t = if names nm (t ++ 47 :: r) ≠ [] then t ++ 47 :: r else f ++ 47 :: r := by
  obtain ⟨h1, h2, h3⟩ := names_app hp
  unfold moveP beginsP
  rw [h1, h2]
  simp only [List.length_append, List.take_append_of_le_length (Nat.le_refl _), List.take_length, List.drop_left, List.length_pos_iff]
  by_cases ht : names nm t = []
  · have : names nm (t ++ 47 :: r) = [] := by
      by_cases k : names nm (t ++ 47 :: r) = []
      · exact k
      · exact absurd ht (names_app k).2.2
    simp [ht, this]
  · have e : joinB (names nm t ++ pieces r) = t ++ 47 :: r := by
      rw [join_app _ _ ht (pieces_ne r), join_names nm ht, join_pieces]
    rw [e]
    by_cases k : names nm (t ++ 47 :: r) = []
    · simp [k]
    · simp [k, ht, pieces_ne]
/-- How far a path is, as a number: by names, then by bytes. -/
theorem names_take (hs : ∀ x, nm x = true → (47 : UInt8) ∉ x) {p : List UInt8} {m : Nat} (h1 : 1 ≤ m) (hm : m ≤ (names nm p).length) : names nm (joinB ((names nm p).take m)) = (names nm p).take m := by
  have hp : names nm p ≠ [] := fun e => by rw [e] at hm; simp at hm; omega
  obtain ⟨e1, e2, e3, e4⟩ := names_pieces nm hp
  have hne : (names nm p).take m ≠ [] := fun e => by
    have := congrArg List.length e
    rw [List.length_take, List.length_nil] at this
    omega
  have hall : ((names nm p).take m).all nm = true := by
    rw [List.all_eq_true]
    intro x hx
    rw [e1] at hx
    exact List.all_eq_true.1 e3 x (List.mem_of_mem_take hx)
  rw [names_join nm hne hall hs, if_pos]
  refine ⟨?_, ?_⟩
  · by_cases hd : (names nm p).drop m = []
    · have := List.take_append_drop m (names nm p)
      rw [hd, List.append_nil] at this
      rw [this, join_names nm hp]
      exact e2
    · have := join_app _ _ hne hd
      rw [List.take_append_drop, join_names nm hp] at this
      have := congrArg List.length this
      rw [List.length_append] at this
      omega
  · rw [List.length_take, e1]
    omega
theorem dir_take (hs : ∀ x, nm x = true → (47 : UInt8) ∉ x) {p : List UInt8} {m : Nat} (h1 : 1 ≤ m) (hm : m ≤ (names nm p).length) : dirP nm (joinB ((names nm p).take m)) = joinB ((names nm p).take (m - 1)) := by
  unfold dirP
  rw [names_take hs h1 hm, List.dropLast_eq_take, List.length_take, List.take_take]
  congr 2
  omega
theorem join_take_ne (h0 : nm [] = false) {p : List UInt8} {m : Nat} (h1 : 1 ≤ m) (hm : m ≤ (names nm p).length) (hs : ∀ x, nm x = true → (47 : UInt8) ∉ x) : joinB ((names nm p).take m) ≠ [] := by
  intro e
  have := names_take hs h1 hm
  rw [e] at this
  have e0 : names nm [] = [] := by simp [names, pieces, h0]
  rw [e0] at this
  have := congrArg List.length this
  rw [List.length_take, List.length_nil] at this
  omega
/-- The paths within which it lies, the longest first: n of them. -/
def downs (l : List (List UInt8)) (n : Nat) : List (List UInt8) := (List.range n).map fun i => joinB (l.take (l.length - 1 - i))
theorem downs_succ (l : List (List UInt8)) (n : Nat) : downs l (n + 1) = downs l n ++ [joinB (l.take (l.length - 1 - n))] := by
  unfold downs
  rw [List.range_succ, List.map_append]
  rfl
theorem downs_len (l : List (List UInt8)) (n : Nat) : (downs l n).length = n := by simp [downs]
theorem downs_rev (p : List UInt8) : (downs (names nm p) ((names nm p).length - 1)).reverse = upsP nm p := by
  unfold downs upsP
  generalize names nm p = l
  apply List.ext_getElem
  · simp
  · intro i h1 h2
    simp only [List.length_reverse, List.length_map, List.length_range] at h1
    rw [List.getElem_reverse, List.getElem_map, List.getElem_map, List.getElem_range, List.getElem_range, List.length_map, List.length_range, show l.length - 1 - (l.length - 1 - 1 - i) = i + 1 by omega]
theorem dir_is (p : List UInt8) : dirP nm p = joinB ((names nm p).take ((names nm p).length - 1)) := by
  unfold dirP
  rw [List.dropLast_eq_take]

end
/-- Lists of texts, held against each other: below 0, 0, above 0. -/
def cmpL : List (List UInt8) → List (List UInt8) → Int
  | [], [] => 0
  | [], _ :: _ => -1
  | _ :: _, [] => 1
  | x :: a, y :: b => if x = y then cmpL a b else if x < y then -1 else 1
theorem cmpL_lt : ∀ (a b : List (List UInt8)), cmpL a b < 0 ↔ lessL a b = true
  | [], [] => by simp [cmpL, lessL]
  | [], _ :: _ => by simp [cmpL, lessL]
  | _ :: _, [] => by simp [cmpL, lessL]
  | x :: a, y :: b => by
    rw [cmpL, lessL]
    by_cases h : x = y
    · rw [if_pos h, if_pos h]; exact cmpL_lt a b
    · rw [if_neg h, if_neg h]
      by_cases k : x < y <;> simp [k]
theorem cmpL_eq : ∀ (a b : List (List UInt8)), cmpL a b = 0 ↔ a = b
  | [], [] => by simp [cmpL]
  | [], _ :: _ => by simp [cmpL]
  | _ :: _, [] => by simp [cmpL]
  | x :: a, y :: b => by
    rw [cmpL]
    by_cases h : x = y
    · rw [if_pos h, cmpL_eq a b]; simp [h]
    · rw [if_neg h]
      by_cases k : x < y <;> simp [k, h]
theorem cmpL_step {a b : List (List UInt8)} {i : Nat} (ha : i < a.length) (hb : i < b.length) : cmpL (a.drop i) (b.drop i) = if a[i] = b[i] then cmpL (a.drop (i + 1)) (b.drop (i + 1)) else if a[i] < b[i] then -1 else 1 := by
  rw [List.drop_eq_getElem_cons ha, List.drop_eq_getElem_cons hb, cmpL]
section
variable (nm : List UInt8 → Bool)
/-- First by names, then by bytes. -/
theorem less_or (a b : List UInt8) (c : Int) (hc : c < 0 ↔ a < b) : lessP nm a b = decide ((if cmpL (names nm a) (names nm b) = 0 then c else cmpL (names nm a) (names nm b)) < 0) := by
  rw [Bool.eq_iff_iff, decide_eq_true_eq]
  by_cases h : cmpL (names nm a) (names nm b) = 0
  · rw [if_pos h, hc]
    have e := (cmpL_eq _ _).1 h
    unfold lessP
    by_cases ha : names nm a = []
    · rw [if_pos ⟨ha, by rw [← e]; exact ha⟩, decide_eq_true_eq]
    · rw [if_neg (fun k => ha k.1), e, lessL_irrefl]
      have := names_inj nm e ha
      subst this
      simp [List.lt_irrefl]
  · rw [if_neg h, cmpL_lt]
    unfold lessP
    rw [if_neg]
    rintro ⟨k1, k2⟩
    rw [k1, k2] at h
    exact h rfl
end
end Go.Proofs.YtcjiipmageddhaaDoor
