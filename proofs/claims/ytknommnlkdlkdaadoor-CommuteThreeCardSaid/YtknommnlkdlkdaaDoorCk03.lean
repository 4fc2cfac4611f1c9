/- What a step says, and what is wrong with it. How lists differ, plainly: most alike, the walk, hunks done and taken back. Words for memory: rows of hunks. -/
import Derived.Test.YtknommnlkdlkdaaDoorCk02
import Derived.BigQuiet
import Derived.Deep.QuietTactic
import Derived.Handy
namespace Go.Proofs.YtknommnlkdlkdaaDoor
open Go.RowKit
set_option linter.unusedVariables false

/-- Lines that are not far too long. -/
def LightK (ls : List (List UInt8)) : Prop := ls.length ≤ 60 ∧ ∀ x ∈ ls, x.length ≤ 300
/-- Lines of which no machine has too many. -/
def WideK (ls : List (List UInt8)) : Prop := ls.length ≤ 100000 ∧ ∀ x ∈ ls, x.length ≤ 100000
theorem LightK.wide {ls : List (List UInt8)} (h : LightK ls) : WideK ls := ⟨Nat.le_trans h.1 (by decide), fun x hx => Nat.le_trans (h.2 x hx) (by decide)⟩
/-- What a step says. -/
structure Pk where
  kind : Int
  path : List UInt8
  dst : List UInt8
  at_ : Int
  old : List (List UInt8)
  new : List (List UInt8)
instance : DecidableEq Pk := fun a b => if h : a.kind = b.kind ∧ a.path = b.path ∧ a.dst = b.dst ∧ a.at_ = b.at_ ∧ a.old = b.old ∧ a.new = b.new then isTrue (by
    cases a; cases b
    simp_all) else isFalse (fun e => h (by subst e; exact ⟨rfl, rfl, rfl, rfl, rfl, rfl⟩))
/-- What is wrong with a step. -/
def ckP (p : Pk) : Int :=
  if p.kind < 1 ∨ 6 < p.kind ∨ (p.kind ≠ 5 ∧ p.dst ≠ []) ∨ (p.kind ≠ 6 ∧ (p.at_ ≠ 0 ∨ 0 < p.old.length + p.new.length)) then 2
  else if names nameP p.path = [] ∨ (p.kind = 5 ∧ (names nameP p.dst = [] ∨ p.path = p.dst)) then 8
  else if p.kind = 6 ∧ (p.at_ < 0 ∨ p.old.length + p.new.length = 0 ∨ checkN (toBs p.old) ≠ 0 ∨ checkN (toBs p.new) ≠ 0) then 6
  else 0
theorem ck_facts {p : Pk} (h : ckP p = 0) : 1 ≤ p.kind ∧ p.kind ≤ 6 ∧ (p.kind ≠ 5 → p.dst = []) ∧ (p.kind ≠ 6 → p.at_ = 0 ∧ p.old = [] ∧ p.new = []) ∧ names nameP p.path ≠ [] ∧ (p.kind = 5 → names nameP p.dst ≠ [] ∧ p.path ≠ p.dst) ∧ (p.kind = 6 → 0 ≤ p.at_ ∧ checkN (toBs p.old) = 0 ∧ checkN (toBs p.new) = 0) := by
  unfold ckP at h
  split at h
  · omega
  rename_i h1
  split at h
  · omega
  rename_i h2
  split at h
  · omega
  rename_i h3
  simp only [not_or, not_and] at h1 h2 h3
  obtain ⟨a1, a2, a3, a4⟩ := h1
  obtain ⟨b1, b2⟩ := h2
  refine ⟨by omega, by omega, fun e => by simpa using a3 e, fun e => ?_, b1, fun e => ?_, fun e => ?_⟩
  · obtain ⟨c1, c2⟩ := a4 e
    exact ⟨by simpa using c1, List.length_eq_zero_iff.1 (by omega), List.length_eq_zero_iff.1 (by omega)⟩
  · exact b2 e
  · obtain ⟨c1, c2, c3, c4⟩ := h3 e
    exact ⟨by omega, by simpa using c3, by simpa using c4⟩
/-- Lines that may be. -/
theorem check_iff {ls : List (List UInt8)} : checkN (toBs ls) = 0 ↔ ls.length ≤ 2000 ∧ ∀ x ∈ ls, lineB (toB x) = true := by
  unfold checkN
  rw [toBs_len]
  by_cases h : 2000 < ls.length
  · rw [if_pos h]
    constructor
    · intro e; omega
    · rintro ⟨h1, _⟩; omega
  · rw [if_neg h]
    have e : (toBs ls).all lineB = ls.all fun x => lineB (toB x) := by
      unfold toBs
      rw [List.all_map]
      rfl
    rw [e]
    by_cases ha : (ls.all fun x => lineB (toB x)) = true
    · rw [if_pos ha]
      refine ⟨fun _ => ⟨by omega, fun x hx => List.all_eq_true.1 ha x hx⟩, fun _ => rfl⟩
    · rw [if_neg ha]
      constructor
      · intro e2; omega
      · rintro ⟨_, h2⟩
        exact absurd (List.all_eq_true.2 h2) ha
end Go.Proofs.YtknommnlkdlkdaaDoor
namespace Go.Proofs.YtknommnlkdlkdaaDoor
set_option linter.unusedVariables false
set_option linter.unusedSectionVars false

/-- A hunk: its place, what goes, what comes. -/
structure Hk (α : Type) where
  at_ : Nat
  old : List α
  new : List α

section
variable {α : Type} [DecidableEq α]

/-- How much is alike: one line of the first list more. -/
def lcsStep (x : α) (f : List α → Nat) : List α → Nat
  | [] => 0
  | y :: b => if x = y then f b + 1 else max (f (y :: b)) (lcsStep x f b)
def lcs : List α → List α → Nat
  | [], _ => 0
  | x :: a, b => lcsStep x (lcs a) b
theorem lcs_nil (a : List α) : lcs a [] = 0 := by cases a <;> rfl
theorem lcs_nil' (b : List α) : lcs [] b = 0 := rfl
theorem lcs_cons (x y : α) (a b : List α) : lcs (x :: a) (y :: b) = if x = y then lcs a b + 1 else max (lcs a (y :: b)) (lcs (x :: a) b) := rfl
theorem lcs_le : ∀ (a b : List α), lcs a b ≤ a.length ∧ lcs a b ≤ b.length
  | [], b => by simp [lcs]
  | x :: a, [] => by simp [lcs_nil]
  | x :: a, y :: b => by
    have h1 := lcs_le a b
    have h2 := lcs_le a (y :: b)
    have h3 := lcs_le (x :: a) b
    rw [lcs_cons]
    simp only [List.length_cons] at *
    split <;> omega

/-- A hunk that is something comes ahead. -/
def flush (h : Hk α) (l : List (Hk α)) : List (Hk α) := if h.old = [] ∧ h.new = [] then l else h :: l
/-- The walk through both lists from place i of the first one on; h: the hunk that is open. -/
def walk : Nat → Nat → List α → List α → Hk α → List (Hk α)
  | 0, _, _, _, h => flush h []
  | f + 1, i, x :: a, y :: b, h =>
    if x = y then flush h (walk f (i + 1) a b ⟨i + 1, [], []⟩)
    else if lcs (x :: a) b ≤ lcs a (y :: b) then walk f (i + 1) a (y :: b) ⟨h.at_, h.old ++ [x], h.new⟩
    else walk f i (x :: a) b ⟨h.at_, h.old, h.new ++ [y]⟩
  | f + 1, i, x :: a, [], h => walk f (i + 1) a [] ⟨h.at_, h.old ++ [x], h.new⟩
  | f + 1, i, [], y :: b, h => walk f i [] b ⟨h.at_, h.old, h.new ++ [y]⟩
  | f + 1, i, [], [], h => flush h []
/-- The hunks by which two lists differ. -/
def hunks (a b : List α) : List (Hk α) := walk (a.length + b.length) 0 a b ⟨0, [], []⟩

/-- Hunks take a list (from place i on) to another one. -/
def Done : Nat → List (Hk α) → List α → List α → Prop
  | _, [], a, b => a = b
  | i, h :: l, a, b => ∃ c a' b', a = c ++ (h.old ++ a') ∧ b = c ++ (h.new ++ b') ∧ h.at_ = i + c.length ∧ Done (h.at_ + h.old.length) l a' b'
/-- The first hunk is not below place e. -/
def From (e : Nat) : List (Hk α) → Prop
  | [] => True
  | h :: _ => e ≤ h.at_
/-- May hunks be? -/
def May : List (Hk α) → Prop
  | [] => True
  | h :: l => (h.old ≠ [] ∨ h.new ≠ []) ∧ From (h.at_ + h.old.length + 1) l ∧ May l
def sumOld (l : List (Hk α)) : Nat := (l.map fun h => h.old.length).sum
def sumNew (l : List (Hk α)) : Nat := (l.map fun h => h.new.length).sum

theorem Done.shift {i : Nat} {x : α} : ∀ {l : List (Hk α)} {a b : List α}, Done (i + 1) l a b → Done i l (x :: a) (x :: b)
  | [], a, b, h => by simp only [Done] at h ⊢; rw [h]
  | g :: l, a, b, h => by
    obtain ⟨c, a', b', rfl, rfl, h3, h4⟩ := h
    exact ⟨x :: c, a', b', rfl, rfl, by rw [h3]; simp only [List.length_cons]; omega, h4⟩
theorem From.mono {e e' : Nat} {l : List (Hk α)} (h : From e l) (he : e' ≤ e) : From e' l := by
  cases l with
  | nil => trivial
  | cons g l => exact Nat.le_trans he h
theorem flush_done {h : Hk α} {l : List (Hk α)} {a b : List α} (hd : Done (h.at_ + h.old.length) l a b) : Done h.at_ (flush h l) (h.old ++ a) (h.new ++ b) := by
  unfold flush
  split
  · rename_i h0
    obtain ⟨h1, h2⟩ := h0
    rw [h1] at hd ⊢
    rw [h2]
    exact hd
  · exact ⟨[], a, b, rfl, rfl, by simp, hd⟩
theorem flush_may {h : Hk α} {l : List (Hk α)} (hm : May l) (hf : From (h.at_ + h.old.length + 1) l) : May (flush h l) ∧ From h.at_ (flush h l) := by
  unfold flush
  split
  · exact ⟨hm, hf.mono (by omega)⟩
  · rename_i h0
    refine ⟨⟨?_, hf, hm⟩, Nat.le_refl _⟩
    by_cases h1 : h.old = []
    · exact .inr fun h2 => h0 ⟨h1, h2⟩
    · exact .inl h1
theorem flush_sum (h : Hk α) (l : List (Hk α)) : sumOld (flush h l) = h.old.length + sumOld l ∧ sumNew (flush h l) = h.new.length + sumNew l := by
  unfold flush
  split
  · rename_i h0
    rw [h0.1, h0.2]
    simp
  · simp [sumOld, sumNew]

theorem walk_facts : ∀ (f i : Nat) (a b : List α) (h : Hk α), a.length + b.length ≤ f → h.at_ + h.old.length = i →
    Done h.at_ (walk f i a b h) (h.old ++ a) (h.new ++ b) ∧ (May (walk f i a b h) ∧ From h.at_ (walk f i a b h)) ∧
      sumOld (walk f i a b h) + lcs a b = h.old.length + a.length ∧ sumNew (walk f i a b h) + lcs a b = h.new.length + b.length
  | 0, i, a, b, h, hf, hi => by
    have h1 : a = [] := List.length_eq_zero_iff.1 (by omega)
    have h2 : b = [] := List.length_eq_zero_iff.1 (by omega)
    subst h1 h2
    have hs := flush_sum h []
    refine ⟨flush_done rfl, flush_may trivial trivial, ?_, ?_⟩
    · rw [walk, hs.1]; simp [sumOld, lcs]
    · rw [walk, hs.2]; simp [sumNew, lcs]
  | f + 1, i, [], [], h, hf, hi => by
    have hs := flush_sum h []
    refine ⟨flush_done rfl, flush_may trivial trivial, ?_, ?_⟩
    · rw [walk, hs.1]; simp [sumOld, lcs]
    · rw [walk, hs.2]; simp [sumNew, lcs]
  | f + 1, i, x :: a, [], h, hf, hi => by
    have ih := walk_facts f (i + 1) a [] ⟨h.at_, h.old ++ [x], h.new⟩ (by simp at hf ⊢; omega) (by simp; omega)
    rw [walk]
    simp only [List.append_assoc, List.singleton_append, List.length_append, List.length_cons, List.length_nil, lcs_nil] at ih ⊢
    exact ⟨ih.1, ih.2.1, by omega, by omega⟩
  | f + 1, i, [], y :: b, h, hf, hi => by
    have ih := walk_facts f i [] b ⟨h.at_, h.old, h.new ++ [y]⟩ (by simp at hf ⊢; omega) (by simp; omega)
    rw [walk]
    simp only [List.append_assoc, List.singleton_append, List.length_append, List.length_cons, List.length_nil, lcs_nil'] at ih ⊢
    exact ⟨ih.1, ih.2.1, by omega, by omega⟩
  | f + 1, i, x :: a, y :: b, h, hf, hi => by
    rw [walk]
    by_cases hxy : x = y
    · subst hxy
      rw [if_pos rfl, lcs_cons, if_pos rfl]
      have ih := walk_facts f (i + 1) a b ⟨i + 1, [], []⟩ (by simp at hf ⊢; omega) (by simp)
      have hs := flush_sum h (walk f (i + 1) a b ⟨i + 1, [], []⟩)
      obtain ⟨h1, ⟨h2, h3⟩, h4, h5⟩ := ih
      refine ⟨flush_done ?_, flush_may h2 ?_, ?_, ?_⟩
      · rw [hi]; exact Done.shift h1
      · rw [hi]; exact h3
      · rw [hs.1]; simp only [List.length_nil, List.length_cons] at *; omega
      · rw [hs.2]; simp only [List.length_nil, List.length_cons] at *; omega
    · rw [if_neg hxy, lcs_cons, if_neg hxy]
      split
      · rename_i hle
        have ih := walk_facts f (i + 1) a (y :: b) ⟨h.at_, h.old ++ [x], h.new⟩ (by simp at hf ⊢; omega) (by simp; omega)
        simp only [List.append_assoc, List.singleton_append, List.length_append, List.length_cons, List.length_nil] at ih ⊢
        exact ⟨ih.1, ih.2.1, by omega, by omega⟩
      · rename_i hle
        have ih := walk_facts f i (x :: a) b ⟨h.at_, h.old, h.new ++ [y]⟩ (by simp at hf ⊢; omega) (by simp; omega)
        simp only [List.append_assoc, List.singleton_append, List.length_append, List.length_cons, List.length_nil] at ih ⊢
        exact ⟨ih.1, ih.2.1, by omega, by omega⟩
theorem hunks_facts (a b : List α) : Done 0 (hunks a b) a b ∧ May (hunks a b) ∧ sumOld (hunks a b) + lcs a b = a.length ∧ sumNew (hunks a b) + lcs a b = b.length := by
  have h := walk_facts (a.length + b.length) 0 a b ⟨0, [], []⟩ (Nat.le_refl _) rfl
  simp only [List.nil_append, List.length_nil, Nat.zero_add] at h
  exact ⟨h.1, h.2.1.1, h.2.2⟩

/-- Hunks done, the last one first. -/
def refApp (a : List α) : List (Hk α) → List α
  | [] => a
  | h :: l => (refApp a l).take h.at_ ++ (h.new ++ (refApp a l).drop (h.at_ + h.old.length))
/-- Old stands at its place. -/
def Stands (a : List α) (h : Hk α) : Prop := h.at_ + h.old.length ≤ a.length ∧ (a.drop h.at_).take h.old.length = h.old
theorem done_app : ∀ {l : List (Hk α)} {i : Nat} {p a b : List α}, p.length = i → Done i l a b → refApp (p ++ a) l = p ++ b
  | [], i, p, a, b, hp, h => by simp only [Done] at h; rw [h]; rfl
  | g :: l, i, p, a, b, hp, h => by
    obtain ⟨c, a', b', rfl, rfl, h3, h4⟩ := h
    have e : p ++ (c ++ (g.old ++ a')) = (p ++ c ++ g.old) ++ a' := by simp
    have ih := done_app (p := p ++ c ++ g.old) (by simp; omega) h4
    have e1 : (p ++ c).length = g.at_ := by simp; omega
    have e2 : (p ++ c ++ g.old).length = g.at_ + g.old.length := by simp; omega
    unfold refApp
    rw [e, ih, ← e2, List.drop_append_of_le_length (Nat.le_refl _), List.drop_length, List.nil_append]
    rw [← e1, List.append_assoc (p ++ c) g.old b', List.take_append_of_le_length (Nat.le_refl _), List.take_length]
    simp
theorem done_stands : ∀ {l : List (Hk α)} {i : Nat} {p a b : List α}, p.length = i → Done i l a b → ∀ h ∈ l, Stands (p ++ a) h
  | g :: l, i, p, a, b, hp, h, k, hk => by
    obtain ⟨c, a', b', rfl, rfl, h3, h4⟩ := h
    have e : p ++ (c ++ (g.old ++ a')) = (p ++ c ++ g.old) ++ a' := by simp
    rcases List.mem_cons.1 hk with rfl | hk
    · have e1 : (p ++ c).length = k.at_ := by simp; omega
      refine ⟨by simp; omega, ?_⟩
      have e3 : p ++ (c ++ (k.old ++ a')) = (p ++ c) ++ (k.old ++ a') := by simp
      rw [e3, ← e1, List.drop_append_of_le_length (Nat.le_refl _), List.drop_length, List.nil_append, List.take_append_of_le_length (Nat.le_refl _), List.take_length]
    · rw [e]
      exact done_stands (by simp; omega) h4 k hk
theorem stands_done (a : List α) : ∀ (l : List (Hk α)) (i : Nat), i ≤ a.length → From i l → May l → (∀ h ∈ l, Stands a h) → ∃ b, Done i l (a.drop i) b
  | [], i, _, _, _, _ => ⟨_, rfl⟩
  | g :: l, i, hia, hf, hm, hs => by
    obtain ⟨h1, h2⟩ := hs g (by simp)
    obtain ⟨b, hb⟩ := stands_done a l (g.at_ + g.old.length) h1 (hm.2.1.mono (by omega)) hm.2.2 fun k hk => hs k (List.mem_cons_of_mem _ hk)
    have hf' : i ≤ g.at_ := hf
    refine ⟨(a.drop i).take (g.at_ - i) ++ (g.new ++ b), (a.drop i).take (g.at_ - i), _, b, ?_, rfl, ?_, hb⟩
    · have e1 : (a.drop i) = (a.drop i).take (g.at_ - i) ++ a.drop g.at_ := by
        have := (List.take_append_drop (g.at_ - i) (a.drop i)).symm
        rwa [List.drop_drop, show i + (g.at_ - i) = g.at_ by omega] at this
      have e2 : a.drop g.at_ = g.old ++ a.drop (g.at_ + g.old.length) := by
        have := (List.take_append_drop g.old.length (a.drop g.at_)).symm
        rwa [h2, List.drop_drop] at this
      rw [← e2]
      exact e1
    · rw [List.length_take, List.length_drop]; omega

/-- What takes hunks back; i, j: places in the list ahead of them and behind them. -/
def inv : Nat → Nat → List (Hk α) → List (Hk α)
  | _, _, [] => []
  | i, j, h :: l => ⟨j + (h.at_ - i), h.new, h.old⟩ :: inv (h.at_ + h.old.length) (j + (h.at_ - i) + h.new.length) l
theorem inv_done : ∀ {l : List (Hk α)} {i j : Nat} {a b : List α}, Done i l a b → Done j (inv i j l) b a
  | [], i, j, a, b, h => by simp only [Done, inv] at h ⊢; exact h.symm
  | g :: l, i, j, a, b, h => by
    obtain ⟨c, a', b', rfl, rfl, h3, h4⟩ := h
    exact ⟨c, b', a', rfl, rfl, by simp; omega, inv_done h4⟩
theorem inv_may : ∀ {l : List (Hk α)} {i j : Nat}, May l → From i l → May (inv i j l) ∧ From j (inv i j l) ∧ (From (i + 1) l → From (j + 1) (inv i j l))
  | [], i, j, _, _ => ⟨trivial, trivial, fun _ => trivial⟩
  | g :: l, i, j, hm, hf => by
    have hf' : i ≤ g.at_ := hf
    have ih := inv_may (i := g.at_ + g.old.length) (j := j + (g.at_ - i) + g.new.length) hm.2.2 (hm.2.1.mono (by omega))
    refine ⟨⟨hm.1.symm, ?_, ih.1⟩, ?_, fun h => ?_⟩
    · exact ih.2.2 hm.2.1
    · show j ≤ j + (g.at_ - i); omega
    · have h' : i + 1 ≤ g.at_ := h
      show j + 1 ≤ j + (g.at_ - i); omega
theorem inv_inv : ∀ {l : List (Hk α)} {i j : Nat}, May l → From i l → inv j i (inv i j l) = l
  | [], i, j, _, _ => rfl
  | g :: l, i, j, hm, hf => by
    have hf' : i ≤ g.at_ := hf
    have ih := inv_inv (i := g.at_ + g.old.length) (j := j + (g.at_ - i) + g.new.length) hm.2.2 (hm.2.1.mono (by omega))
    have e : i + (j + (g.at_ - i) - j) = g.at_ := by omega
    simp only [inv]
    rw [e, ih]
theorem inv_sum : ∀ (l : List (Hk α)) (i j : Nat), sumOld (inv i j l) = sumNew l ∧ sumNew (inv i j l) = sumOld l
  | [], _, _ => ⟨rfl, rfl⟩
  | g :: l, i, j => by
    have ih := inv_sum l (g.at_ + g.old.length) (j + (g.at_ - i) + g.new.length)
    simp only [sumOld, sumNew, inv, List.map_cons, List.sum_cons] at ih ⊢
    exact ⟨by rw [ih.1], by rw [ih.2]⟩

/-- There and back. -/
theorem there_back {a : List α} {l : List (Hk α)} (hm : May l) (hs : ∀ h ∈ l, Stands a h) :
    May (inv 0 0 l) ∧ (∀ h ∈ inv 0 0 l, Stands (refApp a l) h) ∧ refApp (refApp a l) (inv 0 0 l) = a ∧ inv 0 0 (inv 0 0 l) = l := by
  have hf : From 0 l := by cases l <;> simp [From]
  obtain ⟨b, hb⟩ := stands_done a l 0 (Nat.zero_le _) hf hm hs
  rw [List.drop_zero] at hb
  have e := done_app (p := []) rfl hb
  rw [List.nil_append, List.nil_append] at e
  have hi := inv_done (j := 0) hb
  have e2 := done_app (p := []) rfl hi
  have s2 := done_stands (p := []) rfl hi
  rw [List.nil_append] at e2
  rw [e]
  exact ⟨(inv_may hm hf).1, by simpa using s2, by simpa using e2, inv_inv hm hf⟩
theorem hunks_app (a b : List α) : refApp a (hunks a b) = b ∧ (∀ h ∈ hunks a b, Stands a h) := by
  have h := (hunks_facts a b).1
  have e := done_app (p := []) rfl h
  have s := done_stands (p := []) rfl h
  simp only [List.nil_append] at e s
  exact ⟨e, s⟩
end
end Go.Proofs.YtknommnlkdlkdaaDoor
namespace Go.Proofs.YtknommnlkdlkdaaDoor
open Go.RowKit
set_option linter.unusedVariables false

/-- A hunk as it lies: its place, and both slices, with the lines that they hold. -/
structure Hm where
  at_ : Int
  a1 : Option Addr
  c1 : Nat
  old : List (List UInt8)
  a2 : Option Addr
  c2 : Nat
  new : List (List UInt8)
def Hm.cells (h : Hm) : List Value := [.int .i64 h.at_, .slice h.a1 h.old.length h.c1, .slice h.a2 h.new.length h.c2]
/-- Both slices' lines lie below B. -/
structure Hm.Ok (h : Hm) (w : World) (B : Nat) : Prop where
  old : Strs w B h.a1 (toBs h.old)
  new : Strs w B h.a2 (toBs h.new)
  r1 : Room h.a1 h.old.length h.c1
  r2 : Room h.a2 h.new.length h.c2
  lo : -9223372036854775808 ≤ h.at_
  hi : h.at_ ≤ 9223372036854775807
  n1 : h.old.length ≤ 9223372036854775807
  n2 : h.new.length ≤ 9223372036854775807
def Hm.plain (h : Hm) : Hk (List UInt8) := ⟨h.at_.toNat, h.old, h.new⟩
/-- Hunks lie at A, three cells each, in a block below B. -/
structure Hks (w : World) (B : Nat) (A : Option Addr) (hs : List Hm) : Prop where
  at_ : 0 < hs.length → ∃ b off, A = some ⟨b, off, none⟩ ∧ b < B ∧ ∀ j (h : j < hs.length), w.cell? ⟨b, off + j * 3, none⟩ = some (.int .i64 hs[j].at_) ∧
    w.cell? ⟨b, off + j * 3 + 1, none⟩ = some (.slice hs[j].a1 hs[j].old.length hs[j].c1) ∧ w.cell? ⟨b, off + j * 3 + 2, none⟩ = some (.slice hs[j].a2 hs[j].new.length hs[j].c2)
  ok : ∀ h ∈ hs, h.Ok w B

section
variable {w w' : World} {B B' : Nat} {A : Option Addr} {hs : List Hm} {h : Hm}
theorem Hm.Ok.below (k : h.Ok w B) (hb : Below B w w') : h.Ok w' B := ⟨k.old.below hb, k.new.below hb, k.r1, k.r2, k.lo, k.hi, k.n1, k.n2⟩
theorem Hm.Ok.more (k : h.Ok w B) (hB : B ≤ B') : h.Ok w B' := ⟨k.old.more hB, k.new.more hB, k.r1, k.r2, k.lo, k.hi, k.n1, k.n2⟩
theorem Hm.Ok.on (k : h.Ok w w.heap.size) (hb : Below w.heap.size w w') : h.Ok w' w'.heap.size := (k.below hb).more hb.size
theorem Hks.below (k : Hks w B A hs) (hb : Below B w w') : Hks w' B A hs :=
  ⟨fun hp => by
    obtain ⟨b, off, e, hlt, hc⟩ := k.at_ hp
    refine ⟨b, off, e, hlt, fun j hj => ?_⟩
    obtain ⟨h1, h2, h3⟩ := hc j hj
    exact ⟨(hb.cell (p := ⟨b, _, none⟩) hlt).trans h1, (hb.cell (p := ⟨b, _, none⟩) hlt).trans h2, (hb.cell (p := ⟨b, _, none⟩) hlt).trans h3⟩, fun h hh => (k.ok h hh).below hb⟩
theorem Hks.more (k : Hks w B A hs) (hB : B ≤ B') : Hks w B' A hs :=
  ⟨fun hp => by
    obtain ⟨b, off, e, hlt, hc⟩ := k.at_ hp
    exact ⟨b, off, e, by omega, hc⟩, fun h hh => (k.ok h hh).more hB⟩
theorem Hks.on (k : Hks w w.heap.size A hs) (hb : Below w.heap.size w w') : Hks w' w'.heap.size A hs := (k.below hb).more hb.size
theorem Hks.nil : Hks w B A [] := ⟨fun h => absurd h (by simp), fun h hh => by cases hh⟩
theorem Hks.get (k : Hks w B A hs) {j : Nat} (hj : j < hs.length) : ∃ b off, A = some ⟨b, off, none⟩ ∧ b < B ∧ w.cell? ⟨b, off + j * 3, none⟩ = some (.int .i64 hs[j].at_) ∧
    w.cell? ⟨b, off + j * 3 + 1, none⟩ = some (.slice hs[j].a1 hs[j].old.length hs[j].c1) ∧ w.cell? ⟨b, off + j * 3 + 2, none⟩ = some (.slice hs[j].a2 hs[j].new.length hs[j].c2) := by
  obtain ⟨b, off, e, hlt, hc⟩ := k.at_ (by omega)
  exact ⟨b, off, e, hlt, hc j hj⟩
end

/-- A hunk of its own lies in block g. -/
def HunkAt (w : World) (g : Nat) (h : Hm) : Prop := w.heap[g]? = some (.cells h.cells.toArray 63 (0, 0))
section
variable {w w' : World} {g : Nat} {h : Hm}
theorem HunkAt.c0 (k : HunkAt w g h) : w.cell? ⟨g, 0, none⟩ = some (.int .i64 h.at_) := by simp [World.cell?, show w.heap[g]? = _ from k, Hm.cells]
theorem HunkAt.c1 (k : HunkAt w g h) : w.cell? ⟨g, 1, none⟩ = some (.slice h.a1 h.old.length h.c1) := by simp [World.cell?, show w.heap[g]? = _ from k, Hm.cells]
theorem HunkAt.c2 (k : HunkAt w g h) : w.cell? ⟨g, 2, none⟩ = some (.slice h.a2 h.new.length h.c2) := by simp [World.cell?, show w.heap[g]? = _ from k, Hm.cells]
theorem HunkAt.f (k : HunkAt w g h) (i : Nat) : w.frozen? ⟨g, i, none⟩ = false := by simp [World.frozen?, show w.heap[g]? = _ from k]
theorem HunkAt.lt (k : HunkAt w g h) : g < w.heap.size := (Array.getElem?_eq_some_iff.1 k).1
theorem HunkAt.on (k : HunkAt w g h) (hb : Below w.heap.size w w') : HunkAt w' g h := (hb.block g k.lt).trans k
theorem HunkAt.grown {row : Option Nat} (k : HunkAt w g h) (hg : w.grownBy w' row) (hr : row ≠ some g) : HunkAt w' g h := (hg.block g k.lt (fun e => hr e.symm)).trans k
theorem HunkAt.new_ (w : World) (h : Hm) : HunkAt (w.alloc (.cells h.cells.toArray 63)) w.heap.size h := heap_alloc_new w _
end

/-- May a hunk be? e: the end of the hunk ahead. -/
def okAt (e : Option Int) (h : Hm) : Bool := decide (0 ≤ h.at_ ∧ ¬ (h.old.length = 0 ∧ h.new.length = 0) ∧ ∀ x ∈ e, x < h.at_)
def mayF : Option Int → List Hm → Bool
  | _, [] => true
  | e, h :: l => okAt e h && mayF (some (h.at_ + h.old.length)) l
def mayB (hs : List Hm) : Bool := mayF none hs
/-- The end of the hunk ahead of place k. -/
def endOf (hs : List Hm) (k : Nat) : Option Int := if h : 0 < k ∧ k ≤ hs.length then some (hs[k - 1].at_ + hs[k - 1].old.length) else none
theorem endOf_zero (hs : List Hm) : endOf hs 0 = none := by simp [endOf]
theorem endOf_succ (hs : List Hm) (k : Nat) (h : k < hs.length) : endOf hs (k + 1) = some (hs[k].at_ + hs[k].old.length) := by
  unfold endOf
  rw [dif_pos ⟨by omega, by omega⟩]
  rfl
theorem hk_drop (hs : List Hm) (k : Nat) (h : k < hs.length) : hs.drop k = hs[k] :: hs.drop (k + 1) := List.drop_eq_getElem_cons h
theorem mayF_step {hs : List Hm} {e : Option Int} {k : Nat} (h : k < hs.length) : mayF e (hs.drop k) = (okAt e hs[k] && mayF (some (hs[k].at_ + hs[k].old.length)) (hs.drop (k + 1))) := by
  rw [hk_drop hs k h]; rfl
theorem mayF_neg {hs : List Hm} {e : Option Int} {k : Nat} (h : k < hs.length) (h0 : hs[k].at_ < 0) : mayF e (hs.drop k) = false := by
  have : okAt e hs[k] = false := by unfold okAt; rw [decide_eq_false_iff_not]; intro h; omega
  rw [mayF_step h, this]; rfl
theorem mayF_none {hs : List Hm} {e : Option Int} {k : Nat} (h : k < hs.length) (h0 : hs[k].old.length = 0) (h1 : hs[k].new.length = 0) : mayF e (hs.drop k) = false := by
  have : okAt e hs[k] = false := by unfold okAt; rw [decide_eq_false_iff_not]; exact fun h => h.2.1 ⟨h0, h1⟩
  rw [mayF_step h, this]; rfl
theorem mayF_near {hs : List Hm} {k : Nat} (h : k + 1 < hs.length) (h0 : hs[k + 1].at_ ≤ hs[k].at_ + hs[k].old.length) : mayF (endOf hs (k + 1)) (hs.drop (k + 1)) = false := by
  have : okAt (endOf hs (k + 1)) hs[k + 1] = false := by
    rw [endOf_succ hs k (by omega)]
    unfold okAt; rw [decide_eq_false_iff_not]
    intro h
    have := h.2.2 _ rfl
    omega
  rw [mayF_step h, this]; rfl
theorem mayF_first {hs : List Hm} (h : 0 < hs.length) (h0 : 0 ≤ hs[0].at_) (h1 : ¬ (hs[0].old.length = 0 ∧ hs[0].new.length = 0)) : mayF (endOf hs 0) (hs.drop 0) = mayF (endOf hs 1) (hs.drop 1) := by
  have : okAt (endOf hs 0) hs[0] = true := by
    rw [endOf_zero]
    unfold okAt; rw [decide_eq_true_eq]
    exact ⟨h0, h1, fun x hx => by cases hx⟩
  rw [mayF_step h, this, endOf_succ hs 0 h]; rfl
theorem mayF_next {hs : List Hm} {k : Nat} (h : k + 1 < hs.length) (h0 : 0 ≤ hs[k + 1].at_) (h1 : ¬ (hs[k + 1].old.length = 0 ∧ hs[k + 1].new.length = 0)) (h2 : hs[k].at_ + hs[k].old.length < hs[k + 1].at_) :
    mayF (endOf hs (k + 1)) (hs.drop (k + 1)) = mayF (endOf hs (k + 2)) (hs.drop (k + 2)) := by
  have : okAt (endOf hs (k + 1)) hs[k + 1] = true := by
    rw [endOf_succ hs k (by omega)]
    unfold okAt; rw [decide_eq_true_eq]
    exact ⟨h0, h1, fun x hx => by cases hx; exact h2⟩
  rw [mayF_step h, this, endOf_succ hs (k + 1) h]; rfl
theorem mayF_plain : ∀ (hs : List Hm) (e : Option Int), mayF e hs = true → (∀ h ∈ hs, 0 ≤ h.at_) ∧ May (hs.map Hm.plain) ∧ (∀ e', e = some e' → -1 ≤ e' → From (e' + 1).toNat (hs.map Hm.plain))
  | [], e, _ => ⟨by simp, trivial, fun _ _ _ => trivial⟩
  | h :: l, e, hm => by
    rw [mayF, Bool.and_eq_true] at hm
    obtain ⟨hm, h4⟩ := hm
    unfold okAt at hm
    rw [decide_eq_true_eq] at hm
    obtain ⟨h1, h2, h3⟩ := hm
    obtain ⟨i1, i2, i3⟩ := mayF_plain l _ h4
    refine ⟨fun g hg => ?_, ⟨?_, ?_, i2⟩, fun e' he hle => ?_⟩
    · rcases List.mem_cons.1 hg with rfl | hg
      · exact h1
      · exact i1 g hg
    · by_cases h0 : h.old = []
      · right
        intro hn
        have hn' : h.new = [] := hn
        exact h2 ⟨by rw [h0]; rfl, by rw [hn']; rfl⟩
      · exact .inl h0
    · have := i3 _ rfl (by omega)
      show From (h.at_.toNat + h.old.length + 1) _
      rwa [show (h.at_ + (h.old.length : Int) + 1).toNat = h.at_.toNat + h.old.length + 1 by omega] at this
    · subst he
      have h3 := h3 e' rfl
      show (e' + 1).toNat ≤ h.at_.toNat
      omega
end Go.Proofs.YtknommnlkdlkdaaDoor
