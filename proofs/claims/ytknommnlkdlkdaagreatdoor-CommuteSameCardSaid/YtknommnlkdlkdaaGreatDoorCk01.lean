/- Sets of texts, plainly: rising byte by byte, each once. Paths, plainly: their names; names joined; one order of paths. Words for memory: strings that lie in a row; rows that a call made. -/
import Derived.Lib.SlicesCompact
import Derived.WalkKit
import Derived.Below
import Derived.Laws.AppendOwn
import Derived.Lib.OwnBridge
import Derived.Lib.Hide
import Derived.Sort.Walk0
import Derived.Shelf.GgClosure.Gives
import Derived.Test.YtknommnlkdlkdaaGreatDoorProg
namespace Go.Proofs.YtknommnlkdlkdaaGreatDoor
set_option linter.unusedVariables false

/-- A text put into a set. -/
def ins (x : List UInt8) : List (List UInt8) → List (List UInt8)
  | [] => [x]
  | y :: r => if y < x then y :: ins x r else if y = x then y :: r else x :: y :: r
/-- The texts as a set. -/
def setS (l : List (List UInt8)) : List (List UInt8) := l.foldl (fun a x => ins x a) []

theorem t_irrefl (x : List UInt8) : ¬ x < x := List.lt_irrefl x
theorem t_trans {x y z : List UInt8} (h : x < y) (h2 : y < z) : x < z := List.lt_trans h h2
theorem t_tri {x y : List UInt8} (h : ¬ x < y) (h2 : x ≠ y) : y < x := by
  rcases Decidable.em (y < x) with h3 | h3
  · exact h3
  · exact absurd (List.le_antisymm (List.not_lt.1 h3) (List.not_lt.1 h)) h2
theorem t_lt_of_le {x y : List UInt8} (h : x ≤ y) (h2 : x ≠ y) : x < y := by
  rcases Decidable.em (x < y) with h3 | h3
  · exact h3
  · exact absurd (List.le_antisymm h (List.not_lt.1 h3)) h2
theorem t_le_trans {x y z : List UInt8} (h : x ≤ y) (h2 : y < z) : x < z := List.lt_of_le_of_lt h h2

theorem mem_ins (z x : List UInt8) : ∀ l, z ∈ ins x l ↔ z = x ∨ z ∈ l
  | [] => by simp [ins]
  | y :: r => by
    unfold ins
    have ih := mem_ins z x r
    split
    · simp only [List.mem_cons, ih]
      constructor
      · rintro (h | h | h) <;> simp [h]
      · rintro (h | h | h) <;> simp [h]
    · split
      · rename_i h; subst h; simp
      · simp
def Rising (l : List (List UInt8)) : Prop := l.Pairwise (· < ·)
theorem rising_ins (x : List UInt8) : ∀ l, Rising l → Rising (ins x l)
  | [], _ => by simp [ins, Rising]
  | y :: r, h => by
    unfold Rising at h
    obtain ⟨h1, h2⟩ := List.pairwise_cons.1 h
    unfold ins
    split
    · rename_i hlt
      refine List.pairwise_cons.2 ⟨fun z hz => ?_, rising_ins x r h2⟩
      rcases (mem_ins z x r).1 hz with rfl | hz
      · exact hlt
      · exact h1 z hz
    · split
      · exact h
      · rename_i hn hne
        have hxy : x < y := t_tri hn hne
        refine List.pairwise_cons.2 ⟨fun z hz => ?_, h⟩
        rcases List.mem_cons.1 hz with rfl | hz
        · exact hxy
        · exact t_trans hxy (h1 z hz)
theorem setS_snoc (l : List (List UInt8)) (x : List UInt8) : setS (l ++ [x]) = ins x (setS l) := by simp [setS]
theorem mem_setS (z : List UInt8) (l : List (List UInt8)) : z ∈ setS l ↔ z ∈ l := by
  suffices h : ∀ (l a : List (List UInt8)), z ∈ l.foldl (fun a x => ins x a) a ↔ z ∈ l ∨ z ∈ a by simpa [setS] using h l []
  intro l
  induction l with
  | nil => simp
  | cons x r ih =>
    intro a
    simp only [List.foldl_cons, ih, mem_ins, List.mem_cons]
    constructor
    · rintro (h | h | h) <;> simp [h]
    · rintro ((h | h) | h) <;> simp [h]
theorem rising_setS (l : List (List UInt8)) : Rising (setS l) := by
  suffices h : ∀ (l a : List (List UInt8)), Rising a → Rising (l.foldl (fun a x => ins x a) a) from h l [] List.Pairwise.nil
  intro l
  induction l with
  | nil => exact fun a h => h
  | cons x r ih => exact fun a h => ih _ (rising_ins x a h)
/-- Two rising rows of the same texts are one. -/
theorem rising_ext : ∀ {a b : List (List UInt8)}, Rising a → Rising b → (∀ z, z ∈ a ↔ z ∈ b) → a = b
  | [], [], _, _, _ => rfl
  | [], y :: r, _, _, h => absurd ((h y).2 (by simp)) (by simp)
  | x :: s, [], _, _, h => absurd ((h x).1 (by simp)) (by simp)
  | x :: s, y :: r, ha, hb, h => by
    obtain ⟨h1, h2⟩ := List.pairwise_cons.1 ha
    obtain ⟨h3, h4⟩ := List.pairwise_cons.1 hb
    have hxy : x = y := by
      rcases List.mem_cons.1 ((h x).1 (by simp)) with e | hx
      · exact e
      · rcases List.mem_cons.1 ((h y).2 (by simp)) with e | hy
        · exact e.symm
        · exact absurd (t_trans (h3 x hx) (h1 y hy)) (t_irrefl y)
    subst hxy
    rw [rising_ext h2 h4 fun z => ?_]
    constructor
    · intro hz
      rcases List.mem_cons.1 ((h z).1 (List.mem_cons_of_mem _ hz)) with e | hz2
      · subst e; exact absurd (h1 z hz) (t_irrefl z)
      · exact hz2
    · intro hz
      rcases List.mem_cons.1 ((h z).2 (List.mem_cons_of_mem _ hz)) with e | hz2
      · subst e; exact absurd (h3 z hz) (t_irrefl z)
      · exact hz2
theorem setS_ext {a b : List (List UInt8)} (h : ∀ z, z ∈ a ↔ z ∈ b) : setS a = setS b := rising_ext (rising_setS a) (rising_setS b) fun z => by rw [mem_setS, mem_setS, h]
theorem setS_of_rising {a : List (List UInt8)} (h : Rising a) : setS a = a := rising_ext (rising_setS a) h fun z => mem_setS z a
theorem setS_eq_iff (a b : List (List UInt8)) : setS a = setS b ↔ ∀ z, z ∈ a ↔ z ∈ b := ⟨fun h z => by rw [← mem_setS z a, h, mem_setS], setS_ext⟩
theorem rising_filter {a : List (List UInt8)} (h : Rising a) (p : List UInt8 → Bool) : Rising (a.filter p) := h.filter p

/-- Sorted, and each run cut to one: the set. -/
theorem compact_sorted (l : List (List UInt8)) : Lib.compact (l.mergeSort fun x y => decide (x ≤ y)) = setS l := by
  have hs : (l.mergeSort fun x y => decide (x ≤ y)).Pairwise (fun x y => x ≤ y) := by
    have := List.pairwise_mergeSort (le := fun (x y : List UInt8) => decide (x ≤ y)) (by
      intro a b c h1 h2
      simp only [decide_eq_true_eq] at *
      exact List.le_trans h1 h2) (by
      intro a b
      simp only [Bool.or_eq_true, decide_eq_true_eq]
      exact List.le_total a b) l
    exact this.imp (by simp)
  have hm : ∀ z, z ∈ (l.mergeSort fun x y => decide (x ≤ y)) ↔ z ∈ l := fun z => List.mem_mergeSort
  generalize (l.mergeSort fun x y => decide (x ≤ y)) = s at *
  have hget : ∀ i j, i ≤ j → j < s.length → s.toArray[i]! ≤ s.toArray[j]! := by
    intro i j hij hj
    rw [getElem!_pos s.toArray i (by simpa using (by omega : i < s.length)), getElem!_pos s.toArray j (by simpa using hj)]
    rcases Nat.lt_or_eq_of_le hij with h | h
    · exact List.pairwise_iff_getElem.1 hs i j (by omega) hj h
    · subst h; exact List.le_refl _
  refine rising_ext ?_ (rising_setS l) fun z => ?_
  · unfold Lib.compact Lib.compactUpTo Rising
    rw [List.pairwise_map]
    have hr : (List.range s.length).Pairwise (· < ·) := List.pairwise_lt_range
    refine (hr.filter _).imp_of_mem ?_
    intro i j hi hj hij
    obtain ⟨hi1, hi2⟩ := List.mem_filter.1 hi
    obtain ⟨hj1, hj2⟩ := List.mem_filter.1 hj
    have hjl := List.mem_range.1 hj1
    simp only [Lib.keeps, decide_eq_true_eq] at hj2
    have hne : s.toArray[j]! ≠ s.toArray[j - 1]! := by
      rcases hj2 with h | h
      · omega
      · exact h
    exact t_le_trans (hget i (j - 1) (by omega) (by omega)) (t_lt_of_le (hget (j - 1) j (by omega) hjl) (Ne.symm hne))
  · rw [mem_setS, ← hm z]
    unfold Lib.compact Lib.compactUpTo
    simp only [List.mem_map, List.mem_filter, List.mem_range]
    constructor
    · rintro ⟨i, ⟨hi, _⟩, rfl⟩
      rw [getElem!_pos s.toArray i (by simpa using hi)]
      simp
    · intro hz
      obtain ⟨i, hi, rfl⟩ := List.getElem_of_mem hz
      have : ∀ i, (h : i < s.length) → ∃ a, (a < s.length ∧ Lib.keeps s.toArray a = true) ∧ s.toArray[a]! = s[i] := by
        intro i
        induction i with
        | zero => exact fun h => ⟨0, ⟨h, by simp [Lib.keeps]⟩, by rw [getElem!_pos s.toArray 0 (by simpa using h)]; simp⟩
        | succ i ih =>
          intro h
          by_cases he : s[i + 1] = s[i]
          · rw [he]; exact ih (by omega)
          · refine ⟨i + 1, ⟨h, ?_⟩, by rw [getElem!_pos s.toArray (i + 1) (by simpa using h)]; simp⟩
            simp only [Lib.keeps, decide_eq_true_eq]
            refine .inr ?_
            rw [getElem!_pos s.toArray (i + 1) (by simpa using h), getElem!_pos s.toArray (i + 1 - 1) (by simp; omega)]
            simpa using he
      exact this i hi

/-- Where a text goes into a set: behind k texts below it. -/
theorem ins_at (x : List UInt8) : ∀ (l : List (List UInt8)) (k : Nat), k ≤ l.length → (∀ j (h : j < l.length), j < k → l[j] < x) →
    (∀ h : k < l.length, ¬ l[k] < x) → ins x l = if h : k < l.length then (if l[k] = x then l else l.take k ++ x :: l.drop k) else l ++ [x]
  | [], k, hk, _, _ => by simp at hk; subst hk; simp [ins]
  | y :: r, 0, _, _, h => by
    have h0 : ¬ y < x := h (by simp)
    simp only [ins, h0, if_false]
    simp
  | y :: r, k + 1, hk, h1, h2 => by
    have hy : y < x := h1 0 (by simp) (by omega)
    simp only [ins, hy, if_true]
    rw [ins_at x r k (by simpa using hk) (fun j h hj => h1 (j + 1) (by simpa using h) (by omega)) (fun h => h2 (by simpa using h))]
    by_cases hkl : k < r.length
    · simp only [hkl, dif_pos, List.length_cons, Nat.add_lt_add_iff_right, List.getElem_cons_succ]
      split <;> simp
    · simp [hkl]
theorem ins_found {x : List UInt8} {l : List (List UInt8)} {k : Nat} (hk : k < l.length) (h1 : ∀ j (h : j < l.length), j < k → l[j] < x) (h2 : l[k] = x) : ins x l = l := by
  rw [ins_at x l k (by omega) h1 (fun _ => by rw [h2]; exact t_irrefl x), dif_pos hk, if_pos h2]
theorem ins_new {x : List UInt8} {l : List (List UInt8)} {k : Nat} (hk : k ≤ l.length) (h1 : ∀ j (h : j < l.length), j < k → l[j] < x) (h2 : ∀ h : k < l.length, ¬ l[k] < x ∧ l[k] ≠ x) : ins x l = l.take k ++ x :: l.drop k := by
  rw [ins_at x l k hk h1 (fun h => (h2 h).1)]
  by_cases h : k < l.length
  · rw [dif_pos h, if_neg (h2 h).2]
  · rw [dif_neg h]
    obtain rfl : k = l.length := by omega
    simp
end Go.Proofs.YtknommnlkdlkdaaGreatDoor
namespace Go.Proofs.YtknommnlkdlkdaaGreatDoor
set_option linter.unusedVariables false
set_option linter.unusedSectionVars false

/-- What stands between slashes. -/
def pieces : List UInt8 → List (List UInt8)
  | [] => [[]]
  | c :: l => if c = 47 then [] :: pieces l else match pieces l with
    | [] => [[c]]
    | h :: t => (c :: h) :: t
/-- Names with slashes between. -/
def joinB : List (List UInt8) → List UInt8
  | [] => []
  | [x] => x
  | x :: y :: l => x ++ 47 :: joinB (y :: l)
theorem pieces_ne (p : List UInt8) : pieces p ≠ [] := by
  cases p with
  | nil => simp [pieces]
  | cons c l =>
    unfold pieces
    split
    · simp
    · split <;> simp
theorem join_cons (x : List UInt8) {l : List (List UInt8)} (h : l ≠ []) : joinB (x :: l) = x ++ 47 :: joinB l := by
  cases l with
  | nil => exact absurd rfl h
  | cons y l => rfl
theorem join_head (c : UInt8) (h : List UInt8) (t : List (List UInt8)) : joinB ((c :: h) :: t) = c :: joinB (h :: t) := by
  cases t <;> rfl
theorem join_pieces : ∀ p : List UInt8, joinB (pieces p) = p
  | [] => rfl
  | c :: l => by
    have ih := join_pieces l
    unfold pieces
    split
    · rename_i h
      rw [join_cons [] (pieces_ne l), ih, h]
      rfl
    · split
      · rename_i h
        exact absurd h (pieces_ne l)
      · rename_i h t e
        rw [join_head, ← e, ih]
theorem pieces_cut : ∀ (x r : List UInt8), (47 : UInt8) ∉ x → pieces (x ++ 47 :: r) = x :: pieces r
  | [], r, _ => by simp [pieces]
  | c :: x, r, h => by
    simp only [List.mem_cons, not_or] at h
    rw [List.cons_append, pieces, if_neg (fun e => h.1 e.symm), pieces_cut x r h.2]
theorem pieces_one : ∀ (x : List UInt8), (47 : UInt8) ∉ x → pieces x = [x]
  | [], _ => rfl
  | c :: x, h => by
    simp only [List.mem_cons, not_or] at h
    rw [pieces, if_neg (fun e => h.1 e.symm), pieces_one x h.2]
theorem pieces_join : ∀ (l : List (List UInt8)), l ≠ [] → (∀ x ∈ l, (47 : UInt8) ∉ x) → pieces (joinB l) = l
  | [], h, _ => absurd rfl h
  | [x], _, h => pieces_one x (h x (by simp))
  | x :: y :: l, _, h => by
    rw [join_cons x (by simp), pieces_cut x _ (h x (by simp)), pieces_join (y :: l) (by simp) fun z hz => h z (List.mem_cons_of_mem _ hz)]
theorem join_length : ∀ (l : List (List UInt8)), (joinB l).length = (l.map List.length).sum + (l.length - 1)
  | [] => rfl
  | [x] => by simp [joinB]
  | x :: y :: l => by
    rw [join_cons x (by simp), List.length_append, List.length_cons, join_length (y :: l)]
    simp only [List.map_cons, List.sum_cons, List.length_cons]
    omega

section
variable (nm : List UInt8 → Bool)
/-- A path's names; none: it is no path. -/
def names (p : List UInt8) : List (List UInt8) := if p.length ≤ 200 ∧ (pieces p).all nm = true ∧ (pieces p).length ≤ 16 then pieces p else []
theorem names_pieces {p : List UInt8} (h : names nm p ≠ []) : names nm p = pieces p ∧ p.length ≤ 200 ∧ (pieces p).all nm = true ∧ (pieces p).length ≤ 16 := by
  unfold names at h ⊢
  split at h
  · rename_i hc
    exact ⟨if_pos hc, hc⟩
  · exact absurd rfl h
theorem join_names {p : List UInt8} (h : names nm p ≠ []) : joinB (names nm p) = p := by rw [(names_pieces nm h).1, join_pieces]
theorem names_inj {p q : List UInt8} (h : names nm p = names nm q) (hp : names nm p ≠ []) : p = q := by
  rw [← join_names nm hp, h, join_names nm (h ▸ hp)]
/-- Names joined are a path's, or none's. -/
theorem names_join {l : List (List UInt8)} (hl : l ≠ []) (hn : l.all nm = true) (hs : ∀ x, nm x = true → (47 : UInt8) ∉ x) : names nm (joinB l) = if (joinB l).length ≤ 200 ∧ l.length ≤ 16 then l else [] := by
  have e := pieces_join l hl fun x hx => hs x (List.all_eq_true.1 hn x hx)
  unfold names
  rw [e, hn]
  by_cases h : (joinB l).length ≤ 200 ∧ l.length ≤ 16
  · rw [if_pos ⟨h.1, rfl, h.2⟩, if_pos h]
  · rw [if_neg (fun k => h ⟨k.1, k.2.2⟩), if_neg h]
/-- Join, as the document has it. -/
def joinP (l : List (List UInt8)) : List UInt8 := if names nm (joinB l) = l then joinB l else []
def dirP (p : List UInt8) : List UInt8 := joinB ((names nm p).dropLast)
def baseP (p : List UInt8) : List UInt8 := (names nm p).getLast?.getD []
def upsP (p : List UInt8) : List (List UInt8) := (List.range ((names nm p).length - 1)).map fun i => joinB ((names nm p).take (i + 1))
def beginsP (a b : List (List UInt8)) : Bool := decide (b.length ≤ a.length) && decide (a.take b.length = b)
def withinP (p d : List UInt8) : Bool := decide (names nm p ≠ []) && (decide (d = []) || decide (names nm d ≠ [])) && decide ((names nm d).length < (names nm p).length) && beginsP (names nm p) (names nm d)
def moveP (p f t : List UInt8) : List UInt8 :=
  if names nm p ≠ [] ∧ names nm f ≠ [] ∧ names nm t ≠ [] ∧ beginsP (names nm p) (names nm f) = true ∧ names nm (joinB (names nm t ++ (names nm p).drop (names nm f).length)) ≠ [] then joinB (names nm t ++ (names nm p).drop (names nm f).length) else p

/-- Lists of texts, in order: a beginning ahead of what it begins. -/
def lessL : List (List UInt8) → List (List UInt8) → Bool
  | [], [] => false
  | [], _ :: _ => true
  | _ :: _, [] => false
  | x :: a, y :: b => if x = y then lessL a b else decide (x < y)
def lessP (a b : List UInt8) : Bool := if names nm a = [] ∧ names nm b = [] then decide (a < b) else lessL (names nm a) (names nm b)
end
theorem tri (x y : List UInt8) : x < y ∨ x = y ∨ y < x := by
  by_cases h : x < y
  · exact .inl h
  · by_cases h2 : y < x
    · exact .inr (.inr h2)
    · exact .inr (.inl (List.le_antisymm (List.not_lt.1 h2) (List.not_lt.1 h)))
theorem lessL_irrefl : ∀ a : List (List UInt8), lessL a a = false
  | [] => rfl
  | x :: a => by rw [lessL, if_pos rfl, lessL_irrefl a]
theorem lessL_trans : ∀ {a b c : List (List UInt8)}, lessL a b = true → lessL b c = true → lessL a c = true
  | [], [], _, h, _ => by simp [lessL] at h
  | [], _ :: _, [], _, h => by simp [lessL] at h
  | [], _ :: _, _ :: _, _, _ => rfl
  | _ :: _, [], _, h, _ => by simp [lessL] at h
  | _ :: _, _ :: _, [], _, h => by simp [lessL] at h
  | x :: a, y :: b, z :: c, h1, h2 => by
    rw [lessL] at h1 h2 ⊢
    split at h1
    · rename_i e1
      subst e1
      split at h2
      · rename_i e2
        rw [if_pos e2]
        exact lessL_trans h1 h2
      · rename_i e2
        rw [if_neg e2]
        exact h2
    · rename_i e1
      split at h2
      · rename_i e2
        subst e2
        rw [if_neg e1]
        exact h1
      · rename_i e2
        have l1 : x < y := by simpa using h1
        have l2 : y < z := by simpa using h2
        have l3 := List.lt_trans l1 l2
        have l4 : x ≠ z := by rintro rfl; exact List.lt_irrefl x l3
        rw [if_neg l4]
        simpa using l3
theorem lessL_total : ∀ (a b : List (List UInt8)), lessL a b = true ∨ lessL b a = true ∨ a = b
  | [], [] => .inr (.inr rfl)
  | [], _ :: _ => .inl rfl
  | _ :: _, [] => .inr (.inl rfl)
  | x :: a, y :: b => by
    rw [lessL, lessL]
    by_cases e : x = y
    · subst e
      rw [if_pos rfl, if_pos rfl]
      rcases lessL_total a b with h | h | h
      · exact .inl h
      · exact .inr (.inl h)
      · exact .inr (.inr (by rw [h]))
    · rw [if_neg e, if_neg (fun k => e k.symm)]
      rcases tri x y with h | h | h
      · exact .inl (by simpa using h)
      · exact absurd h e
      · exact .inr (.inl (by simpa using h))
section
variable (nm : List UInt8 → Bool)
theorem lessP_irrefl (a : List UInt8) : lessP nm a a = false := by
  unfold lessP
  split
  · simp [List.lt_irrefl]
  · exact lessL_irrefl _
theorem lessP_trans {a b c : List UInt8} (h1 : lessP nm a b = true) (h2 : lessP nm b c = true) : lessP nm a c = true := by
  unfold lessP at h1 h2 ⊢
  by_cases ha : names nm a = [] <;> by_cases hb : names nm b = [] <;> by_cases hc : names nm c = []
  · rw [if_pos ⟨ha, hb⟩] at h1
    rw [if_pos ⟨hb, hc⟩] at h2
    rw [if_pos ⟨ha, hc⟩]
    simp only [decide_eq_true_eq] at *
    exact List.lt_trans h1 h2
  · rw [if_neg (fun k => hc k.2)]
    obtain ⟨x, l, e⟩ := List.exists_cons_of_ne_nil hc
    rw [ha, e]
    rfl
  · rw [if_neg (fun k => hb k.1), hc] at h2
    obtain ⟨x, l, e⟩ := List.exists_cons_of_ne_nil hb
    rw [e] at h2
    simp [lessL] at h2
  · rw [if_neg (fun k => hc k.2)]
    obtain ⟨x, l, e⟩ := List.exists_cons_of_ne_nil hc
    rw [ha, e]
    rfl
  · rw [if_neg (fun k => ha k.1), hb] at h1
    obtain ⟨x, l, e⟩ := List.exists_cons_of_ne_nil ha
    rw [e] at h1
    simp [lessL] at h1
  · rw [if_neg (fun k => ha k.1), hb] at h1
    obtain ⟨x, l, e⟩ := List.exists_cons_of_ne_nil ha
    rw [e] at h1
    simp [lessL] at h1
  · rw [if_neg (fun k => hb k.1), hc] at h2
    obtain ⟨x, l, e⟩ := List.exists_cons_of_ne_nil hb
    rw [e] at h2
    simp [lessL] at h2
  · rw [if_neg (fun k => ha k.1)] at h1 ⊢
    rw [if_neg (fun k => hb k.1)] at h2
    exact lessL_trans h1 h2
theorem lessP_asymm (a b : List UInt8) : ¬ (lessP nm a b = true ∧ lessP nm b a = true) := fun h => by
  have := lessP_trans nm h.1 h.2
  rw [lessP_irrefl] at this
  cases this
theorem lessP_total (a b : List UInt8) : lessP nm a b = true ∨ lessP nm b a = true ∨ a = b := by
  unfold lessP
  by_cases h : names nm a = [] ∧ names nm b = []
  · rw [if_pos h, if_pos ⟨h.2, h.1⟩]
    rcases tri a b with k | k | k
    · exact .inl (by simpa using k)
    · exact .inr (.inr k)
    · exact .inr (.inl (by simpa using k))
  · rw [if_neg h, if_neg (fun k => h ⟨k.2, k.1⟩)]
    rcases lessL_total (names nm a) (names nm b) with k | k | k
    · exact .inl k
    · exact .inr (.inl k)
    · refine .inr (.inr (names_inj nm k fun e => h ⟨e, by rw [← k]; exact e⟩))
end
/-- No slash from place a on, up to place i. -/
def NoSlash (p : List UInt8) (a i : Nat) : Prop := ∀ k, a ≤ k → k < i → p[k]? ≠ some 47
theorem not_mem_cut {p : List UInt8} {a i : Nat} (h : NoSlash p a i) : (47 : UInt8) ∉ (p.drop a).take (i - a) := by
  intro hm
  obtain ⟨j, hj, e⟩ := List.getElem_of_mem hm
  rw [List.length_take, List.length_drop] at hj
  rw [List.getElem_take, List.getElem_drop] at e
  refine h (a + j) (by omega) (by omega) ?_
  rw [List.getElem?_eq_getElem (by omega), e]
theorem pieces_at {p : List UInt8} {a i : Nat} (ha : a ≤ i) (hi : i < p.length) (h : NoSlash p a i) (hs : p[i]? = some 47) : pieces (p.drop a) = (p.drop a).take (i - a) :: pieces (p.drop (i + 1)) := by
  have e : p.drop a = (p.drop a).take (i - a) ++ 47 :: p.drop (i + 1) := by
    have e1 := (List.take_append_drop (i - a) (p.drop a)).symm
    rw [List.drop_drop, show a + (i - a) = i by omega, List.drop_eq_getElem_cons hi] at e1
    rw [List.getElem?_eq_getElem hi, Option.some.injEq] at hs
    rwa [hs] at e1
  have := pieces_cut ((p.drop a).take (i - a)) (p.drop (i + 1)) (not_mem_cut h)
  rwa [← e] at this
theorem pieces_last {p : List UInt8} {a : Nat} (h : NoSlash p a p.length) : pieces (p.drop a) = [p.drop a] := by
  have := not_mem_cut h
  rw [List.take_of_length_le (by rw [List.length_drop]; omega)] at this
  exact pieces_one _ this
theorem NoSlash.more {p : List UInt8} {a i : Nat} (h : NoSlash p a i) (hs : p[i]? ≠ some 47) : NoSlash p a (i + 1) := fun k h1 h2 => by
  by_cases e : k = i
  · subst e; exact hs
  · exact h k h1 (by omega)
theorem NoSlash.none (p : List UInt8) (a : Nat) : NoSlash p a a := fun k h1 h2 => by omega
theorem names_no {nm : List UInt8 → Bool} {p x : List UInt8} {l r : List (List UInt8)} (h : pieces p = l ++ x :: r) (hx : nm x = false) : names nm p = [] := by
  unfold names
  rw [if_neg]
  rintro ⟨_, h2, _⟩
  have := List.all_eq_true.1 h2 x (by rw [h]; simp)
  rw [hx] at this
  cases this
theorem join_snoc : ∀ (l : List (List UInt8)) (x : List UInt8), joinB (l ++ [x]) = if l = [] then x else joinB l ++ 47 :: x
  | [], x => rfl
  | [y], x => rfl
  | y :: z :: l, x => by
    have ih := join_snoc (z :: l) x
    rw [if_neg (by simp)] at ih ⊢
    rw [List.cons_append, join_cons y (by simp), ih, join_cons y (by simp), List.append_assoc]
    rfl
theorem lessL_skip : ∀ (i : Nat) (a b : List (List UInt8)), i ≤ a.length → i ≤ b.length → (∀ k (h : k < a.length) (h2 : k < b.length), k < i → a[k] = b[k]) → lessL a b = lessL (a.drop i) (b.drop i)
  | 0, a, b, _, _, _ => rfl
  | i + 1, [], b, h, _, _ => by simp at h
  | i + 1, x :: a, [], _, h, _ => by simp at h
  | i + 1, x :: a, y :: b, h1, h2, h => by
    have e := h 0 (by simp) (by simp) (by omega)
    simp only [List.getElem_cons_zero] at e
    rw [lessL, if_pos e, lessL_skip i a b (by simpa using h1) (by simpa using h2) fun k k1 k2 k3 => by
      have := h (k + 1) (by simpa using k1) (by simpa using k2) (by omega)
      simpa using this]
    rfl
theorem lessL_at {a b : List (List UInt8)} {i : Nat} (ha : i < a.length) (hb : i < b.length) (h : ∀ k (h : k < a.length) (h2 : k < b.length), k < i → a[k] = b[k]) (hne : a[i] ≠ b[i]) : lessL a b = decide (a[i] < b[i]) := by
  rw [lessL_skip i a b (by omega) (by omega) h, List.drop_eq_getElem_cons ha, List.drop_eq_getElem_cons hb, lessL, if_neg hne]
theorem lessL_end {a b : List (List UInt8)} (h : ∀ k (h : k < a.length) (h2 : k < b.length), a[k] = b[k]) : lessL a b = decide (a.length < b.length) := by
  have e := lessL_skip (min a.length b.length) a b (by omega) (by omega) fun k h1 h2 _ => h k h1 h2
  rw [e]
  by_cases hl : a.length < b.length
  · rw [Nat.min_eq_left (by omega), List.drop_length, List.drop_eq_getElem_cons hl, decide_eq_true hl]
    rfl
  · rw [Nat.min_eq_right (by omega), List.drop_length, decide_eq_false hl]
    cases a.drop b.length <;> rfl
end Go.Proofs.YtknommnlkdlkdaaGreatDoor
namespace Go.Proofs.YtknommnlkdlkdaaGreatDoor
open Go.RowKit
set_option linter.unusedVariables false

/-- Strings lie at A, one a cell, in a block below B. -/
def Strs (w : World) (B : Nat) (A : Option Addr) (ss : List ByteArray) : Prop :=
  0 < ss.length → ∃ b off, A = some ⟨b, off, none⟩ ∧ b < B ∧ ∀ j (h : j < ss.length), w.cell? ⟨b, off + j, none⟩ = some (.string ss[j])
/-- The bytes of strings. -/
def lists (ss : List ByteArray) : List (List UInt8) := ss.map (·.data.toList)
def toB (l : List UInt8) : ByteArray := ⟨l.toArray⟩
def toBs (l : List (List UInt8)) : List ByteArray := l.map toB

theorem toList_eq (bs : ByteArray) : bs.toList = bs.data.toList := ByteArray.toList_eq bs
theorem toB_of (s : ByteArray) : toB s.data.toList = s := by cases s; simp [toB]
theorem of_toB (l : List UInt8) : (toB l).data.toList = l := by simp [toB]
theorem toB_inj {l m : List UInt8} (h : toB l = toB m) : l = m := by rw [← of_toB l, h, of_toB]
theorem bytes_inj {s t : ByteArray} (h : s.data.toList = t.data.toList) : s = t := by rw [← toB_of s, h, toB_of]
theorem toBs_lists (ss : List ByteArray) : toBs (lists ss) = ss := by
  unfold toBs lists
  rw [List.map_map]
  exact (List.map_congr_left fun s _ => toB_of s).trans (List.map_id _)
theorem lists_toBs (ls : List (List UInt8)) : lists (toBs ls) = ls := by
  unfold toBs lists
  rw [List.map_map]
  exact (List.map_congr_left fun s _ => of_toB s).trans (List.map_id _)
theorem lists_len (ss : List ByteArray) : (lists ss).length = ss.length := by simp [lists]
theorem toBs_len (ls : List (List UInt8)) : (toBs ls).length = ls.length := by simp [toBs]
theorem lists_inj {ss tt : List ByteArray} (h : lists ss = lists tt) : ss = tt := by rw [← toBs_lists ss, h, toBs_lists]
theorem encStr_eq (l : List UInt8) : encStr l = .string (toB l) := rfl
theorem map_enc (ss : List ByteArray) : (lists ss).map encStr = ss.map Value.string := Lib.map_encStr ss

section
variable {w w' : World} {B B' : Nat} {A : Option Addr} {ss : List ByteArray}
theorem Strs.none_ : Strs w B A [] := fun h => absurd h (by simp)
theorem Strs.at_ {k : Nat} (h : Strs w B A ss) (hk : k < ss.length) : ∃ b off, A = some ⟨b, off, none⟩ ∧ b < B ∧ w.cell? ⟨b, off + k, none⟩ = some (.string ss[k]) := by
  obtain ⟨b, off, e, hb, hc⟩ := h (by omega)
  exact ⟨b, off, e, hb, hc k hk⟩
theorem Strs.below (h : Strs w B A ss) (hb : Below B w w') : Strs w' B A ss := fun hp => by
  obtain ⟨b, off, e, hlt, hc⟩ := h hp
  exact ⟨b, off, e, hlt, fun j hj => (hb.cell (p := ⟨b, off + j, none⟩) hlt).trans (hc j hj)⟩
theorem Strs.more (h : Strs w B A ss) (hB : B ≤ B') : Strs w B' A ss := fun hp => by
  obtain ⟨b, off, e, hlt, hc⟩ := h hp
  exact ⟨b, off, e, by omega, hc⟩
/-- Behind a call that made new blocks alone. -/
theorem Strs.on (h : Strs w w.heap.size A ss) (hb : Below w.heap.size w w') : Strs w' w'.heap.size A ss := (h.below hb).more hb.size
end

theorem below_drewN {B : Nat} {a w : World} (h : Below B a w) (n : Nat) : Below B a (w.drewN n) := ⟨h.os, h.tape, h.output, h.size, h.block⟩
/-- Cells of a row that is written out. -/
theorem strs_new (w : World) (ss : List ByteArray) : Strs (w.alloc (.cells (ss.map Value.string).toArray 9)) (w.heap.size + 1) (some ⟨w.heap.size, 0, none⟩) ss := fun _ =>
  ⟨w.heap.size, 0, rfl, by omega, fun j hj => by rw [World.cell?_alloc_new]; simp [hj]⟩

/-- A slice's room: nil has none, its length fits. -/
def Room (A : Option Addr) (n cap : Nat) : Prop := (A = none → cap = 0) ∧ n ≤ cap
/-- A slice of strings that the call made: its row begins a block at or above B, no other slice shares it. -/
def OwnS (w : World) (B : Nat) (v : Value) (ls : List (List UInt8)) : Prop := w.ownsRow B 9 1 v ls.length (ls.map encStr)
theorem OwnS.nil (w : World) (B : Nat) : OwnS w B (.slice none 0 0) [] := w.ownsRow_nil B 9 1
theorem OwnS.strs {w : World} {B : Nat} {v : Value} {ls : List (List UInt8)} (h : OwnS w B v ls) : ∃ A cap, v = .slice A ls.length cap ∧ Strs w w.heap.size A (toBs ls) ∧ cap ≤ maxLen ∧ (A = none → ls = []) := by
  rcases h.2 with ⟨rfl, h0⟩ | ⟨g, cap, cur, rfl, hb, hg, hn, hm, hsz, ht⟩
  · exact ⟨none, 0, by rw [h0], fun hp => by rw [toBs_len] at hp; omega, by simp, fun _ => List.length_eq_zero_iff.1 h0⟩
  · refine ⟨some ⟨g, 0, none⟩, cap, rfl, fun hp => ⟨g, 0, rfl, (Array.getElem?_eq_some_iff.1 hg).1, fun j hj => ?_⟩, hm, fun e => by cases e⟩
    have hj2 : j < ls.length := by rw [toBs_len] at hj; exact hj
    have e1 : (cur.toList.take (ls.length * 1))[j]? = (ls.map encStr)[j]? := by rw [ht]
    rw [List.getElem?_take, if_pos (by omega), Array.getElem?_toList, List.getElem?_map, List.getElem?_eq_getElem hj2] at e1
    simp only [World.cell?, hg, Nat.zero_add, Option.isSome_none, Bool.false_eq_true, if_false]
    rw [e1]
    simp [toBs, encStr_eq]
theorem OwnS.at_ {w : World} {B n cap : Nat} {A : Option Addr} {ls : List (List UInt8)} (h : OwnS w B (.slice A n cap) ls) : Strs w w.heap.size A (toBs ls) ∧ Room A n cap ∧ n = ls.length := by
  obtain ⟨A2, cap2, he, hs, _, _⟩ := h.strs
  simp only [Value.slice.injEq] at he
  obtain ⟨rfl, rfl, rfl⟩ := he
  refine ⟨hs, ⟨fun hA => ?_, ?_⟩, rfl⟩
  · rcases h.2 with ⟨he, _⟩ | ⟨g, c, cur, he, _⟩
    · simp only [Value.slice.injEq] at he; exact he.2.2
    · simp only [Value.slice.injEq] at he
      rw [hA] at he
      cases he.1
  · rcases h.2 with ⟨he, hn⟩ | ⟨g, c, cur, he, _, _, hn, _⟩
    · omega
    · simp only [Value.slice.injEq] at he
      omega
theorem OwnS.ne {w : World} {B g : Nat} {v : Value} {ls : List (List UInt8)} (h : OwnS w B v ls) (hg : g < B) : v.ownBlock ≠ some g := fun he => by
  have := (World.ownsRow.lt h g he).1
  omega
theorem below_grown {w0 w w' : World} {g : Nat} (h : Below w0.heap.size w0 w) (hg : w.grownBy w' (some g)) (hB : w0.heap.size ≤ g) : Below w0.heap.size w0 w' :=
  h.grown hg h.size (fun k hk => by simp only [Option.some.injEq] at hk; omega)
theorem OwnS.kept {w w' : World} {B : Nat} {v : Value} {ls : List (List UInt8)} (h : OwnS w B v ls) (hb : Below w.heap.size w w') : OwnS w' B v ls :=
  World.ownsRow.kept h (row := none) ⟨hb.os, hb.tape, hb.output, hb.size, fun i hi _ => hb.block i hi⟩ (by cases v.ownBlock <;> simp)
theorem OwnS.more {w : World} {B B' : Nat} {v : Value} {ls : List (List UInt8)} (h : OwnS w B v ls) (hB : B' ≤ B) : OwnS w B' v ls := by
  refine ⟨h.1, h.2.imp id ?_⟩
  rintro ⟨g, cap, cur, e, hb, r⟩
  exact ⟨g, cap, cur, e, by omega, r⟩
end Go.Proofs.YtknommnlkdlkdaaGreatDoor
