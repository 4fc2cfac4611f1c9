
/- Paths, plainly: their names; names joined; one order of paths. -/
import Derived.Test.YtcjiipmageddhaaDoorSetPlain
namespace Go.Proofs.YtcjiipmageddhaaDoor
set_option linter.unusedVariables false
set_option linter.unusedSectionVars false

/-- What stands between slashes. -/
def pieces : List UInt8 → List (List UInt8)
  | [] => [[]]
  | c :: l => if c = 47 then [] :: pieces l else match pieces l with
    | [] => [[c]]
    | h :: t => (c :: h) :: t
/-- Names with slashes between. -/
def joinB : List (List UInt8) → List UInt8
  | [] => []
  | [x] => x
  | x :: y :: l => x ++ 47 :: joinB (y :: l)
theorem pieces_ne (p : List UInt8) : pieces p ≠ [] := by
  cases p with
  | nil => simp [pieces]
  | cons c l =>
    unfold pieces
    split
    · simp
    · split <;> simp
theorem join_cons (x : List UInt8) {l : List (List UInt8)} (h : l ≠ []) : joinB (x :: l) = x ++ 47 :: joinB l := by
  cases l with
  | nil => exact absurd rfl h
  | cons y l => rfl
theorem join_head (c : UInt8) (h : List UInt8) (t : List (List UInt8)) : joinB ((c :: h) :: t) = c :: joinB (h :: t) := by
  cases t <;> rfl
theorem join_pieces : ∀ p : List UInt8, joinB (pieces p) = p
  | [] => rfl
  | c :: l => by
    have ih := join_pieces l
    unfold pieces
    split
    · rename_i h
      rw [join_cons [] (pieces_ne l), ih, h]
      rfl
    · split
      · rename_i h
        exact absurd h (pieces_ne l)
      · rename_i h t e
        rw [join_head, ← e, ih]
theorem pieces_cut : ∀ (x r : List UInt8), (47 : UInt8) ∉ x → pieces (x ++ 47 :: r) = x :: pieces r
  | [], r, _ => by simp [pieces]
  | c :: x, r, h => by
    simp only [List.mem_cons, not_or] at h
    rw [List.cons_append, pieces, if_neg (fun e => h.1 e.symm), pieces_cut x r h.2]
theorem pieces_one : ∀ (x : List UInt8), (47 : UInt8) ∉ x → pieces x = [x]
  | [], _ => rfl
  | c :: x, h => by
    simp only [List.mem_cons, not_or] at h
    rw [pieces, if_neg (fun e => h.1 e.symm), pieces_one x h.2]
theorem pieces_join : ∀ (l : List (List UInt8)), l ≠ [] → (∀ x ∈ l, (47 : UInt8) ∉ x) → pieces (joinB l) = l
  | [], h, _ => absurd rfl h
  | [x], _, h => pieces_one x (h x (by simp))
  | x :: y :: l, _, h => by
    rw [join_cons x (by simp), pieces_cut x _ (h x (by simp)), pieces_join (y :: l) (by simp) fun z hz => h z (List.mem_cons_of_mem _ hz)]
theorem join_length : ∀ (l : List (List UInt8)), (joinB l).length = (l.map List.length).sum + (l.length - 1)
  | [] => rfl
  | [x] => by simp [joinB]
  | x :: y :: l => by
    rw [join_cons x (by simp), List.length_append, List.length_cons, join_length (y :: l)]
    simp only [List.map_cons, List.sum_cons, List.length_cons]
    omega

section
variable (nm : List UInt8 → Bool)
/-- A path's names; none: it is no path. -/
def names (p : List UInt8) : List (List UInt8) := if p.length ≤ 200 ∧ (pieces p).all nm = true ∧ (pieces p).length ≤ 16 then pieces p else []
theorem names_pieces {p : List UInt8} (h : names nm p ≠ []) : names nm p = pieces p ∧ p.length ≤ 200 ∧ (pieces p).all nm = true ∧ (pieces p).length ≤ 16 := by
  unfold names at h ⊢
  split at h
  · rename_i hc
    exact ⟨if_pos hc, hc⟩
  · exact absurd rfl h
theorem join_names {p : List UInt8} (h : names nm p ≠ []) : joinB (names nm p) = p := by rw [(names_pieces nm h).1, join_pieces]
theorem names_inj {p q : List UInt8} (h : names nm p = names nm q) (hp : names nm p ≠ []) : p = q := by
  rw [← join_names nm hp, h, join_names nm (h ▸ hp)]
/-- Names joined are a path's, or none's. -/
theorem names_join {l : List (List UInt8)} (hl : l ≠ []) (hn : l.all nm = true) (hs : ∀ x, nm x = true → (47 : UInt8) ∉ x) : names nm (joinB l) = if (joinB l).length ≤ 200 ∧ l.length ≤ 16 then l else [] := by
  have e := pieces_join l hl fun x hx => hs x (List.all_eq_true.1 hn x hx)
  unfold names
  rw [e, hn]
  by_cases h : (joinB l).length ≤ 200 ∧ l.length ≤ 16
  · rw [if_pos ⟨h.1, rfl, h.2⟩, if_pos h]
  · rw [if_neg (fun k => h ⟨k.1, k.2.2⟩), if_neg h]
/-- Join, as the document has it. -/
def joinP (l : List (List UInt8)) : List UInt8 := if names nm (joinB l) = l then joinB l else []
def dirP (p : List UInt8) : List UInt8 := joinB ((names nm p).dropLast)
def baseP (p : List UInt8) : List UInt8 := (names nm p).getLast?.getD []
def upsP (p : List UInt8) : List (List UInt8) := (List.range ((names nm p).length - 1)).map fun i => joinB ((names nm p).take (i + 1))
def beginsP (a b : List (List UInt8)) : Bool := decide (b.length ≤ a.length) && decide (a.take b.length = b)
def withinP (p d : List UInt8) : Bool := decide (names nm p ≠ []) && (decide (d = []) || decide (names nm d ≠ [])) && decide ((names nm d).length < (names nm p).length) && beginsP (names nm p) (names nm d)
def moveP (p f t : List UInt8) : List UInt8 :=
  if names nm p ≠ [] ∧ names nm f ≠ [] ∧ names nm t ≠ [] ∧ beginsP (names nm p) (names nm f) = true ∧ names nm (joinB (names nm t ++ (names nm p).drop (names nm f).length)) ≠ [] then joinB (names nm t ++ (names nm p).drop (names nm f).length) else p

/-- Lists of texts, in order: a beginning ahead of what it begins. -/
def lessL : List (List UInt8) → List (List UInt8) → Bool
  | [], [] => false
  | [], _ :: _ => true
  | _ :: _, [] => false
  | x :: a, y :: b => if x = y then lessL a b else decide (x < y)
def lessP (a b : List UInt8) : Bool := if names nm a = [] ∧ names nm b = [] then decide (a < b) else lessL (names nm a) (names nm b)
end
theorem tri (x y : List UInt8) : x < y ∨ x = y ∨ y < x := by
  by_cases h : x < y
  · exact .inl h
  · by_cases h2 : y < x
    · exact .inr (.inr h2)
    · exact .inr (.inl (List.le_antisymm (List.not_lt.1 h2) (List.not_lt.1 h)))
theorem lessL_irrefl : ∀ a : List (List UInt8), lessL a a = false
  | [] => rfl
  | x :: a => by rw [lessL, if_pos rfl, lessL_irrefl a]
theorem lessL_trans : ∀ {a b c : List (List UInt8)}, lessL a b = true → lessL b c = true → lessL a c = true
  | [], [], _, h, _ => by simp [lessL] at h
  | [], _ :: _, [], _, h => by simp [lessL] at h
  | [], _ :: _, _ :: _, _, _ => rfl
  | _ :: _, [], _, h, _ => by simp [lessL] at h
  | _ :: _, _ :: _, [], _, h => by simp [lessL] at h
  | x :: a, y :: b, z :: c, h1, h2 => by
    rw [lessL] at h1 h2 ⊢
    split at h1
    · rename_i e1
      subst e1
      split at h2
      · rename_i e2
        rw [if_pos e2]
        exact lessL_trans h1 h2
      · rename_i e2
        rw [if_neg e2]
        exact h2
    · rename_i e1
      split at h2
      · rename_i e2
        subst e2
        rw [if_neg e1]
        exact h1
      · rename_i e2
        have l1 : x < y := by simpa using h1
        have l2 : y < z := by simpa using h2
        have l3 := List.lt_trans l1 l2
        have l4 : x ≠ z := by rintro rfl; exact List.lt_irrefl x l3
        rw [if_neg l4]
        simpa using l3
theorem lessL_total : ∀ (a b : List (List UInt8)), lessL a b = true ∨ lessL b a = true ∨ a = b
  | [], [] => .inr (.inr rfl)
  | [], _ :: _ => .inl rfl
  | _ :: _, [] => .inr (.inl rfl)
  | x :: a, y :: b => by
    rw [lessL, lessL]
    by_cases e : x = y
    · subst e
      rw [if_pos rfl, if_pos rfl]
      rcases lessL_total a b with h | h | h
      · exact .inl h
      · exact .inr (.inl h)
      · exact .inr (.inr (by rw [h]))
    · rw [if_neg e, if_neg (fun k => e k.symm)]
      rcases tri x y with h | h | h
      · exact .inl (by simpa using h)
      · exact absurd h e
      · exact .inr (.inl (by simpa using h))
section
variable (nm : List UInt8 → Bool)
theorem lessP_irrefl (a : List UInt8) : lessP nm a a = false := by
  unfold lessP
  split
  · simp [List.lt_irrefl]
  · exact lessL_irrefl _
theorem lessP_trans {a b c : List UInt8} (h1 : lessP nm a b = true) (h2 : lessP nm b c = true) : lessP nm a c = true := by
  unfold lessP at h1 h2 ⊢
  by_cases ha : names nm a = [] <;> by_cases hb : names nm b = [] <;> by_cases hc : names nm c = []
  · rw [if_pos ⟨ha, hb⟩] at h1
    rw [if_pos ⟨hb, hc⟩] at h2
    rw [if_pos ⟨ha, hc⟩]
    simp only [decide_eq_true_eq] at *
    exact List.lt_trans h1 h2
  · rw [if_neg (fun k => hc k.2)]
    obtain ⟨x, l, e⟩ := List.exists_cons_of_ne_nil hc
    rw [ha, e]
    rfl
  · rw [if_neg (fun k => hb k.1), hc] at h2
    obtain ⟨x, l, e⟩ := List.exists_cons_of_ne_nil hb
    rw [e] at h2
    simp [lessL] at h2
  · rw [if_neg (fun k => hc k.2)]
    obtain ⟨x, l, e⟩ := List.exists_cons_of_ne_nil hc
    rw [ha, e]
    rfl
  · rw [if_neg (fun k => ha k.1), hb] at h1
    obtain ⟨x, l, e⟩ := List.exists_cons_of_ne_nil ha
    rw [e] at h1
    simp [lessL] at h1
  · rw [if_neg (fun k => ha k.1), hb] at h1
    obtain ⟨x, l, e⟩ := List.exists_cons_of_ne_nil ha
    rw [e] at h1
    simp [lessL] at h1
  · rw [if_neg (fun k => hb k.1), hc] at h2
    obtain ⟨x, l, e⟩ := List.exists_cons_of_ne_nil hb
    rw [e] at h2
    simp [lessL] at h2
  · rw [if_neg (fun k => ha k.1)] at h1 ⊢
    rw [if_neg (fun k => hb k.1)] at h2
    exact lessL_trans h1 h2
theorem lessP_asymm (a b : List UInt8) : ¬ (lessP nm a b = true ∧ lessP nm b a = true) := fun h => by
  have := lessP_trans nm h.1 h.2
  rw [lessP_irrefl] at this
  cases this
theorem lessP_total (a b : List UInt8) : lessP nm a b = true ∨ lessP nm b a = true ∨ a = b := by
  unfold lessP
  by_cases h : names nm a = [] ∧ names nm b = []
  · rw [if_pos h, if_pos ⟨h.2, h.1⟩]
    rcases tri a b with k | k | k
    · exact .inl (by simpa using k)
    · exact .inr (.inr k)
    · exact .inr (.inl (by simpa using k))
  · rw [if_neg h, if_neg (fun k => h ⟨k.2, k.1⟩)]
    rcases lessL_total (names nm a) (names nm b) with k | k | k
    · exact .inl k
    · exact .inr (.inl k)
    · refine .inr (.inr (names_inj nm k fun e => h ⟨e, by rw [← k]; exact e⟩))
end
/-- No slash from place a on, up to place i. -/
def NoSlash (p : List UInt8) (a i : Nat) : Prop := ∀ k, a ≤ k → k < i → p[k]? ≠ some 47
theorem not_mem_cut {p : List UInt8} {a i : Nat} (h : NoSlash p a i) : (47 : UInt8) ∉ (p.drop a).take (i - a) := by
  intro hm
  obtain ⟨j, hj, e⟩ := List.getElem_of_mem hm
  rw [List.length_take, List.length_drop] at hj
  rw [List.getElem_take, List.getElem_drop] at e
  refine h (a + j) (by omega) (by omega) ?_
  rw [List.getElem?_eq_getElem (by omega), e]
theorem pieces_at {p : List UInt8} {a i : Nat} (ha : a ≤ i) (hi : i < p.length) (h : NoSlash p a i) (hs : p[i]? = some 47) : pieces (p.drop a) = (p.drop a).take (i - a) :: pieces (p.drop (i + 1)) := by
  have e : p.drop a = (p.drop a).take (i - a) ++ 47 :: p.drop (i + 1) := by
    have e1 := (List.take_append_drop (i - a) (p.drop a)).symm
    rw [List.drop_drop, show a + (i - a) = i by omega, List.drop_eq_getElem_cons hi] at e1
    rw [List.getElem?_eq_getElem hi, Option.some.injEq] at hs
    rwa [hs] at e1
  have := pieces_cut ((p.drop a).take (i - a)) (p.drop (i + 1)) (not_mem_cut h)
  rwa [← e] at this
theorem pieces_last {p : List UInt8} {a : Nat} (h : NoSlash p a p.length) : pieces (p.drop a) = [p.drop a] := by
  have := not_mem_cut h
  rw [List.take_of_length_le (by rw [List.length_drop]; omega)] at this
  exact pieces_one _ this
theorem NoSlash.more {p : List UInt8} {a i : Nat} (h : NoSlash p a i) (hs : p[i]? ≠ some 47) : NoSlash p a (i + 1) := fun k h1 h2 => by
  by_cases e : k = i
  · subst e; exact hs
  · exact h k h1 (by omega)
theorem NoSlash.none (p : List UInt8) (a : Nat) : NoSlash p a a := fun k h1 h2 => by omega
theorem names_no {nm : List UInt8 → Bool} {p x : List UInt8} {l r : List (List UInt8)} (h : pieces p = l ++ x :: r) (hx : nm x = false) : names nm p = [] := by
  unfold names
  rw [if_neg]
  rintro ⟨_, h2, _⟩
  have := List.all_eq_true.1 h2 x (by rw [h]; simp)
  rw [hx] at this
  cases this
theorem join_snoc : ∀ (l : List (List UInt8)) (x : List UInt8), joinB (l ++ [x]) = if l = [] then x else joinB l ++ 47 :: x
  | [], x => rfl
  | [y], x => rfl
  | y :: z :: l, x => by
    have ih := join_snoc (z :: l) x
    rw [if_neg (by simp)] at ih ⊢
    rw [List.cons_append, join_cons y (by simp), ih, join_cons y (by simp), List.append_assoc]
    rfl
theorem lessL_skip : ∀ (i : Nat) (a b : List (List UInt8)), i ≤ a.length → i ≤ b.length → (∀ k (h : k < a.length) (h2 : k < b.length), k < i → a[k] = b[k]) → lessL a b = lessL (a.drop i) (b.drop i)
  | 0, a, b, _, _, _ => rfl
  | i + 1, [], b, h, _, _ => by simp at h
  | i + 1, x :: a, [], _, h, _ => by simp at h
  | i + 1, x :: a, y :: b, h1, h2, h => by
    have e := h 0 (by simp) (by simp) (by omega)
    simp only [List.getElem_cons_zero] at e
    rw [lessL, if_pos e, lessL_skip i a b (by simpa using h1) (by simpa using h2) fun k k1 k2 k3 => by
      have := h (k + 1) (by simpa using k1) (by simpa using k2) (by omega)
      simpa using this]
    rfl
theorem lessL_at {a b : List (List UInt8)} {i : Nat} (ha : i < a.length) (hb : i < b.length) (h : ∀ k (h : k < a.length) (h2 : k < b.length), k < i → a[k] = b[k]) (hne : a[i] ≠ b[i]) : lessL a b = decide (a[i] < b[i]) := by
  rw [lessL_skip i a b (by omega) (by omega) h, List.drop_eq_getElem_cons ha, List.drop_eq_getElem_cons hb, lessL, if_neg hne]
theorem lessL_end {a b : List (List UInt8)} (h : ∀ k (h : k < a.length) (h2 : k < b.length), a[k] = b[k]) : lessL a b = decide (a.length < b.length) := by
  have e := lessL_skip (min a.length b.length) a b (by omega) (by omega) fun k h1 h2 _ => h k h1 h2
  rw [e]
  by_cases hl : a.length < b.length
  · rw [Nat.min_eq_left (by omega), List.drop_length, List.drop_eq_getElem_cons hl, decide_eq_true hl]
    rfl
  · rw [Nat.min_eq_right (by omega), List.drop_length, decide_eq_false hl]
    cases a.drop b.length <;> rfl
end Go.Proofs.YtcjiipmageddhaaDoor
