/- Lines, plainly: which texts are lines; the text of lines; the lines of a text; where lines stand. What a step says, and what is wrong with it. How lists differ, plainly: most alike, the walk, hunks done and taken back. -/
import Derived.Shelf.Spec.BytesIndexFunc
import Derived.Test.YtknommnlkdlkdaaGreatDoorCk02
namespace Go.Proofs.YtknommnlkdlkdaaGreatDoor
set_option linter.unusedVariables false

/-- A rune that no line has (r, of n bytes). -/
def badRune (x : Nat × Nat) : Bool := (x.1 == 65533 && x.2 == 1) || (decide (x.1 < 32) && !(x.1 == 9))
def runesOk (s : ByteArray) : Nat → Nat → Bool
  | 0, _ => true
  | f + 1, i => if i < s.size then (if badRune (Utf8.decode s i) then false else runesOk s f (i + (Utf8.decode s i).2)) else true
/-- Are the runes from byte i on a line's? -/
def runes (s : ByteArray) (i : Nat) : Bool := runesOk s (s.size - i) i
theorem decode_pos (s : ByteArray) (i : Nat) : 1 ≤ (Utf8.decode s i).2 := by
  unfold Utf8.decode
  dsimp only
  repeat' split
  all_goals simp
theorem decode_le (s : ByteArray) (i : Nat) : (Utf8.decode s i).2 ≤ 4 := by
  unfold Utf8.decode
  dsimp only
  repeat' split
  all_goals simp
theorem decode_rune (s : ByteArray) (i : Nat) : (Utf8.decode s i).1 ≤ 2097151 := by
  unfold Utf8.decode
  dsimp only
  have h : ∀ k, (s.get! (i + k)).toNat < 256 := fun k => UInt8.toNat_lt _
  have h0 := h 0
  rw [Nat.add_zero] at h0
  have h1 := h 1
  have h2 := h 2
  have h3 := h 3
  repeat' split
  all_goals simp [Utf8.runeError]
  all_goals omega
theorem runesOk_fuel (s : ByteArray) : ∀ (f g i : Nat), s.size - i ≤ f → s.size - i ≤ g → runesOk s f i = runesOk s g i
  | 0, 0, _, _, _ => rfl
  | 0, g + 1, i, hf, _ => by simp [runesOk, show ¬ i < s.size by omega]
  | f + 1, 0, i, _, hg => by simp [runesOk, show ¬ i < s.size by omega]
  | f + 1, g + 1, i, hf, hg => by
    unfold runesOk
    by_cases h : i < s.size
    · have hp := decode_pos s i
      rw [if_pos h, if_pos h, runesOk_fuel s f g _ (by omega) (by omega)]
    · rw [if_neg h, if_neg h]
theorem runes_end {s : ByteArray} {i : Nat} (h : ¬ i < s.size) : runes s i = true := by
  unfold runes
  rw [show s.size - i = 0 by omega]; rfl
theorem runes_bad {s : ByteArray} {i : Nat} (h : i < s.size) (hb : badRune (Utf8.decode s i) = true) : runes s i = false := by
  unfold runes
  obtain ⟨f, hf⟩ : ∃ f, s.size - i = f + 1 := ⟨s.size - i - 1, by omega⟩
  rw [hf]
  unfold runesOk
  rw [if_pos h, if_pos hb]
theorem runes_good {s : ByteArray} {i : Nat} (h : i < s.size) (hb : badRune (Utf8.decode s i) = false) : runes s i = runes s (i + (Utf8.decode s i).2) := by
  have hp := decode_pos s i
  have e : runes s i = runesOk s ((s.size - i - 1) + 1) i := by unfold runes; congr 1; omega
  rw [e]
  unfold runesOk
  rw [if_pos h, if_neg (by rw [hb]; simp)]
  exact runesOk_fuel s _ _ _ (by omega) (by omega)
/-- Is a text a line? -/
def lineB (s : ByteArray) : Bool := decide (s.size ≤ 200) && runes s 0
/-- The error of lines that may not be a file's: 4, too many; 6, one is none; 0. -/
def checkN (ss : List ByteArray) : Int := if 2000 < ss.length then 4 else if ss.all lineB then 0 else 6
theorem checkN_big {ss : List ByteArray} (h : 2000 < ss.length) : checkN ss = 4 := by simp [checkN, h]
theorem checkN_bad {ss : List ByteArray} {k : Nat} (hn : ¬ 2000 < ss.length) (hk : k < ss.length) (h : lineB ss[k] = false) : checkN ss = 6 := by
  have : ss.all lineB = false := by
    rw [List.all_eq_false]
    exact ⟨ss[k], List.getElem_mem _, by rw [h]; simp⟩
  simp [checkN, hn, this]
theorem checkN_ok {ss : List ByteArray} (hn : ¬ 2000 < ss.length) (h : ∀ k (hk : k < ss.length), lineB ss[k] = true) : checkN ss = 0 := by
  have : ss.all lineB = true := by
    rw [List.all_eq_true]
    intro s hs
    obtain ⟨k, hk, rfl⟩ := List.getElem_of_mem hs
    exact h k hk
  simp [checkN, hn, this]
/-- The text of lines. -/
def textL (ls : List (List UInt8)) : List UInt8 := (ls.map fun l => l ++ [10]).flatten
theorem textL_snoc (ls : List (List UInt8)) (l : List UInt8) : textL (ls ++ [l]) = textL ls ++ l ++ [10] := by simp [textL]
/-- The lines of a text, and whether it ends so; 'cur' is what a line has so far. -/
def splitGo : List UInt8 → List UInt8 → List (List UInt8) × Bool
  | cur, [] => ([], cur.isEmpty)
  | cur, b :: r => if b = 10 then (cur :: (splitGo [] r).1, (splitGo [] r).2) else splitGo (cur ++ [b]) r
/-- Lines ahead of what is split yet. -/
def aheadS (ls : List (List UInt8)) (x : List (List UInt8) × Bool) : List (List UInt8) × Bool := (ls ++ x.1, x.2)
theorem splitGo_end (ls : List (List UInt8)) (cur r : List UInt8) : aheadS ls (splitGo cur (10 :: r)) = aheadS (ls ++ [cur]) (splitGo [] r) := by simp [splitGo, aheadS]
theorem splitGo_more (ls : List (List UInt8)) (cur r : List UInt8) (b : UInt8) (h : b ≠ 10) : aheadS ls (splitGo cur (b :: r)) = aheadS ls (splitGo (cur ++ [b]) r) := by simp [splitGo, h]
/-- Do lines stand at a place? -/
def atB (ls part : List (List UInt8)) (k : Int) : Bool := decide (0 ≤ k) && decide ((part.length : Int) ≤ ls.length - k) && decide ((ls.drop k.toNat).take part.length = part)
end Go.Proofs.YtknommnlkdlkdaaGreatDoor
namespace Go.Proofs.YtknommnlkdlkdaaGreatDoor
open Go.RowKit
set_option linter.unusedVariables false

/-- Lines that are not far too long. -/
def LightK (ls : List (List UInt8)) : Prop := ls.length ≤ 60 ∧ ∀ x ∈ ls, x.length ≤ 300
/-- Lines of which no machine has too many. -/
def WideK (ls : List (List UInt8)) : Prop := ls.length ≤ 100000 ∧ ∀ x ∈ ls, x.length ≤ 100000
theorem LightK.wide {ls : List (List UInt8)} (h : LightK ls) : WideK ls := ⟨Nat.le_trans h.1 (by decide), fun x hx => Nat.le_trans (h.2 x hx) (by decide)⟩
/-- What a step says. -/
structure Pk where
  kind : Int
  path : List UInt8
  dst : List UInt8
  at_ : Int
  old : List (List UInt8)
  new : List (List UInt8)
instance : DecidableEq Pk := fun a b => if h : a.kind = b.kind ∧ a.path = b.path ∧ a.dst = b.dst ∧ a.at_ = b.at_ ∧ a.old = b.old ∧ a.new = b.new then isTrue (by
    cases a; cases b
    simp_all) else isFalse (fun e => h (by subst e; exact ⟨rfl, rfl, rfl, rfl, rfl, rfl⟩))
/-- What is wrong with a step. -/
def ckP (p : Pk) : Int :=
  if p.kind < 1 ∨ 6 < p.kind ∨ (p.kind ≠ 5 ∧ p.dst ≠ []) ∨ (p.kind ≠ 6 ∧ (p.at_ ≠ 0 ∨ 0 < p.old.length + p.new.length)) then 2
  else if names nameP p.path = [] ∨ (p.kind = 5 ∧ (names nameP p.dst = [] ∨ p.path = p.dst)) then 8
  else if p.kind = 6 ∧ (p.at_ < 0 ∨ p.old.length + p.new.length = 0 ∨ checkN (toBs p.old) ≠ 0 ∨ checkN (toBs p.new) ≠ 0) then 6
  else 0
theorem ck_facts {p : Pk} (h : ckP p = 0) : 1 ≤ p.kind ∧ p.kind ≤ 6 ∧ (p.kind ≠ 5 → p.dst = []) ∧ (p.kind ≠ 6 → p.at_ = 0 ∧ p.old = [] ∧ p.new = []) ∧ names nameP p.path ≠ [] ∧ (p.kind = 5 → names nameP p.dst ≠ [] ∧ p.path ≠ p.dst) ∧ (p.kind = 6 → 0 ≤ p.at_ ∧ checkN (toBs p.old) = 0 ∧ checkN (toBs p.new) = 0) := by
  unfold ckP at h
  split at h
  · omega
  rename_i h1
  split at h
  · omega
  rename_i h2
  split at h
  · omega
  rename_i h3
  simp only [not_or, not_and] at h1 h2 h3
  obtain ⟨a1, a2, a3, a4⟩ := h1
  obtain ⟨b1, b2⟩ := h2
  refine ⟨by omega, by omega, fun e => by simpa using a3 e, fun e => ?_, b1, fun e => ?_, fun e => ?_⟩
  · obtain ⟨c1, c2⟩ := a4 e
    exact ⟨by simpa using c1, List.length_eq_zero_iff.1 (by omega), List.length_eq_zero_iff.1 (by omega)⟩
  · exact b2 e
  · obtain ⟨c1, c2, c3, c4⟩ := h3 e
    exact ⟨by omega, by simpa using c3, by simpa using c4⟩
/-- Lines that may be. -/
theorem check_iff {ls : List (List UInt8)} : checkN (toBs ls) = 0 ↔ ls.length ≤ 2000 ∧ ∀ x ∈ ls, lineB (toB x) = true := by
  unfold checkN
  rw [toBs_len]
  by_cases h : 2000 < ls.length
  · rw [if_pos h]
    constructor
    · intro e; omega
    · rintro ⟨h1, _⟩; omega
  · rw [if_neg h]
    have e : (toBs ls).all lineB = ls.all fun x => lineB (toB x) := by
      unfold toBs
      rw [List.all_map]
      rfl
    rw [e]
    by_cases ha : (ls.all fun x => lineB (toB x)) = true
    · rw [if_pos ha]
      refine ⟨fun _ => ⟨by omega, fun x hx => List.all_eq_true.1 ha x hx⟩, fun _ => rfl⟩
    · rw [if_neg ha]
      constructor
      · intro e2; omega
      · rintro ⟨_, h2⟩
        exact absurd (List.all_eq_true.2 h2) ha
end Go.Proofs.YtknommnlkdlkdaaGreatDoor
namespace Go.Proofs.YtknommnlkdlkdaaGreatDoor
set_option linter.unusedVariables false
set_option linter.unusedSectionVars false

/-- A hunk: its place, what goes, what comes. -/
structure Hk (α : Type) where
  at_ : Nat
  old : List α
  new : List α

section
variable {α : Type} [DecidableEq α]

/-- How much is alike: one line of the first list more. -/
def lcsStep (x : α) (f : List α → Nat) : List α → Nat
  | [] => 0
  | y :: b => if x = y then f b + 1 else max (f (y :: b)) (lcsStep x f b)
def lcs : List α → List α → Nat
  | [], _ => 0
  | x :: a, b => lcsStep x (lcs a) b
theorem lcs_nil (a : List α) : lcs a [] = 0 := by cases a <;> rfl
theorem lcs_nil' (b : List α) : lcs [] b = 0 := rfl
theorem lcs_cons (x y : α) (a b : List α) : lcs (x :: a) (y :: b) = if x = y then lcs a b + 1 else max (lcs a (y :: b)) (lcs (x :: a) b) := rfl
theorem lcs_le : ∀ (a b : List α), lcs a b ≤ a.length ∧ lcs a b ≤ b.length
  | [], b => by simp [lcs]
  | x :: a, [] => by simp [lcs_nil]
  | x :: a, y :: b => by
    have h1 := lcs_le a b
    have h2 := lcs_le a (y :: b)
    have h3 := lcs_le (x :: a) b
    rw [lcs_cons]
    simp only [List.length_cons] at *
    split <;> omega

/-- A hunk that is something comes ahead. -/
def flush (h : Hk α) (l : List (Hk α)) : List (Hk α) := if h.old = [] ∧ h.new = [] then l else h :: l
/-- The walk through both lists from place i of the first one on; h: the hunk that is open. -/
def walk : Nat → Nat → List α → List α → Hk α → List (Hk α)
  | 0, _, _, _, h => flush h []
  | f + 1, i, x :: a, y :: b, h =>
    if x = y then flush h (walk f (i + 1) a b ⟨i + 1, [], []⟩)
    else if lcs (x :: a) b ≤ lcs a (y :: b) then walk f (i + 1) a (y :: b) ⟨h.at_, h.old ++ [x], h.new⟩
    else walk f i (x :: a) b ⟨h.at_, h.old, h.new ++ [y]⟩
  | f + 1, i, x :: a, [], h => walk f (i + 1) a [] ⟨h.at_, h.old ++ [x], h.new⟩
  | f + 1, i, [], y :: b, h => walk f i [] b ⟨h.at_, h.old, h.new ++ [y]⟩
  | f + 1, i, [], [], h => flush h []
/-- The hunks by which two lists differ. -/
def hunks (a b : List α) : List (Hk α) := walk (a.length + b.length) 0 a b ⟨0, [], []⟩

/-- Hunks take a list (from place i on) to another one. -/
def Done : Nat → List (Hk α) → List α → List α → Prop
  | _, [], a, b => a = b
  | i, h :: l, a, b => ∃ c a' b', a = c ++ (h.old ++ a') ∧ b = c ++ (h.new ++ b') ∧ h.at_ = i + c.length ∧ Done (h.at_ + h.old.length) l a' b'
/-- The first hunk is not below place e. -/
def From (e : Nat) : List (Hk α) → Prop
  | [] => True
  | h :: _ => e ≤ h.at_
/-- May hunks be? -/
def May : List (Hk α) → Prop
  | [] => True
  | h :: l => (h.old ≠ [] ∨ h.new ≠ []) ∧ From (h.at_ + h.old.length + 1) l ∧ May l
def sumOld (l : List (Hk α)) : Nat := (l.map fun h => h.old.length).sum
def sumNew (l : List (Hk α)) : Nat := (l.map fun h => h.new.length).sum

theorem Done.shift {i : Nat} {x : α} : ∀ {l : List (Hk α)} {a b : List α}, Done (i + 1) l a b → Done i l (x :: a) (x :: b)
  | [], a, b, h => by simp only [Done] at h ⊢; rw [h]
  | g :: l, a, b, h => by
    obtain ⟨c, a', b', rfl, rfl, h3, h4⟩ := h
    exact ⟨x :: c, a', b', rfl, rfl, by rw [h3]; simp only [List.length_cons]; omega, h4⟩
theorem From.mono {e e' : Nat} {l : List (Hk α)} (h : From e l) (he : e' ≤ e) : From e' l := by
  cases l with
  | nil => trivial
  | cons g l => exact Nat.le_trans he h
theorem flush_done {h : Hk α} {l : List (Hk α)} {a b : List α} (hd : Done (h.at_ + h.old.length) l a b) : Done h.at_ (flush h l) (h.old ++ a) (h.new ++ b) := by
  unfold flush
  split
  · rename_i h0
    obtain ⟨h1, h2⟩ := h0
    rw [h1] at hd ⊢
    rw [h2]
    exact hd
  · exact ⟨[], a, b, rfl, rfl, by simp, hd⟩
theorem flush_may {h : Hk α} {l : List (Hk α)} (hm : May l) (hf : From (h.at_ + h.old.length + 1) l) : May (flush h l) ∧ From h.at_ (flush h l) := by
  unfold flush
  split
  · exact ⟨hm, hf.mono (by omega)⟩
  · rename_i h0
    refine ⟨⟨?_, hf, hm⟩, Nat.le_refl _⟩
    by_cases h1 : h.old = []
    · exact .inr fun h2 => h0 ⟨h1, h2⟩
    · exact .inl h1
theorem flush_sum (h : Hk α) (l : List (Hk α)) : sumOld (flush h l) = h.old.length + sumOld l ∧ sumNew (flush h l) = h.new.length + sumNew l := by
  unfold flush
  split
  · rename_i h0
    rw [h0.1, h0.2]
    simp
  · simp [sumOld, sumNew]

theorem walk_facts : ∀ (f i : Nat) (a b : List α) (h : Hk α), a.length + b.length ≤ f → h.at_ + h.old.length = i →
    Done h.at_ (walk f i a b h) (h.old ++ a) (h.new ++ b) ∧ (May (walk f i a b h) ∧ From h.at_ (walk f i a b h)) ∧
      sumOld (walk f i a b h) + lcs a b = h.old.length + a.length ∧ sumNew (walk f i a b h) + lcs a b = h.new.length + b.length
  | 0, i, a, b, h, hf, hi => by
    have h1 : a = [] := List.length_eq_zero_iff.1 (by omega)
    have h2 : b = [] := List.length_eq_zero_iff.1 (by omega)
    subst h1 h2
    have hs := flush_sum h []
    refine ⟨flush_done rfl, flush_may trivial trivial, ?_, ?_⟩
    · rw [walk, hs.1]; simp [sumOld, lcs]
    · rw [walk, hs.2]; simp [sumNew, lcs]
  | f + 1, i, [], [], h, hf, hi => by
    have hs := flush_sum h []
    refine ⟨flush_done rfl, flush_may trivial trivial, ?_, ?_⟩
    · rw [walk, hs.1]; simp [sumOld, lcs]
    · rw [walk, hs.2]; simp [sumNew, lcs]
  | f + 1, i, x :: a, [], h, hf, hi => by
    have ih := walk_facts f (i + 1) a [] ⟨h.at_, h.old ++ [x], h.new⟩ (by simp at hf ⊢; omega) (by simp; omega)
    rw [walk]
    simp only [List.append_assoc, List.singleton_append, List.length_append, List.length_cons, List.length_nil, lcs_nil] at ih ⊢
    exact ⟨ih.1, ih.2.1, by omega, by omega⟩
  | f + 1, i, [], y :: b, h, hf, hi => by
    have ih := walk_facts f i [] b ⟨h.at_, h.old, h.new ++ [y]⟩ (by simp at hf ⊢; omega) (by simp; omega)
    rw [walk]
    simp only [List.append_assoc, List.singleton_append, List.length_append, List.length_cons, List.length_nil, lcs_nil'] at ih ⊢
    exact ⟨ih.1, ih.2.1, by omega, by omega⟩
  | f + 1, i, x :: a, y :: b, h, hf, hi => by
    rw [walk]
    by_cases hxy : x = y
    · subst hxy
      rw [if_pos rfl, lcs_cons, if_pos rfl]
      have ih := walk_facts f (i + 1) a b ⟨i + 1, [], []⟩ (by simp at hf ⊢; omega) (by simp)
      have hs := flush_sum h (walk f (i + 1) a b ⟨i + 1, [], []⟩)
      obtain ⟨h1, ⟨h2, h3⟩, h4, h5⟩ := ih
      refine ⟨flush_done ?_, flush_may h2 ?_, ?_, ?_⟩
      · rw [hi]; exact Done.shift h1
      · rw [hi]; exact h3
      · rw [hs.1]; simp only [List.length_nil, List.length_cons] at *; omega
      · rw [hs.2]; simp only [List.length_nil, List.length_cons] at *; omega
    · rw [if_neg hxy, lcs_cons, if_neg hxy]
      split
      · rename_i hle
        have ih := walk_facts f (i + 1) a (y :: b) ⟨h.at_, h.old ++ [x], h.new⟩ (by simp at hf ⊢; omega) (by simp; omega)
        simp only [List.append_assoc, List.singleton_append, List.length_append, List.length_cons, List.length_nil] at ih ⊢
        exact ⟨ih.1, ih.2.1, by omega, by omega⟩
      · rename_i hle
        have ih := walk_facts f i (x :: a) b ⟨h.at_, h.old, h.new ++ [y]⟩ (by simp at hf ⊢; omega) (by simp; omega)
        simp only [List.append_assoc, List.singleton_append, List.length_append, List.length_cons, List.length_nil] at ih ⊢
        exact ⟨ih.1, ih.2.1, by omega, by omega⟩
theorem hunks_facts (a b : List α) : Done 0 (hunks a b) a b ∧ May (hunks a b) ∧ sumOld (hunks a b) + lcs a b = a.length ∧ sumNew (hunks a b) + lcs a b = b.length := by
  have h := walk_facts (a.length + b.length) 0 a b ⟨0, [], []⟩ (Nat.le_refl _) rfl
  simp only [List.nil_append, List.length_nil, Nat.zero_add] at h
  exact ⟨h.1, h.2.1.1, h.2.2⟩

/-- Hunks done, the last one first. -/
def refApp (a : List α) : List (Hk α) → List α
  | [] => a
  | h :: l => (refApp a l).take h.at_ ++ (h.new ++ (refApp a l).drop (h.at_ + h.old.length))
/-- Old stands at its place. -/
def Stands (a : List α) (h : Hk α) : Prop := h.at_ + h.old.length ≤ a.length ∧ (a.drop h.at_).take h.old.length = h.old
theorem done_app : ∀ {l : List (Hk α)} {i : Nat} {p a b : List α}, p.length = i → Done i l a b → refApp (p ++ a) l = p ++ b
  | [], i, p, a, b, hp, h => by simp only [Done] at h; rw [h]; rfl
  | g :: l, i, p, a, b, hp, h => by
    obtain ⟨c, a', b', rfl, rfl, h3, h4⟩ := h
    have e : p ++ (c ++ (g.old ++ a')) = (p ++ c ++ g.old) ++ a' := by simp
    have ih := done_app (p := p ++ c ++ g.old) (by simp; omega) h4
    have e1 : (p ++ c).length = g.at_ := by simp; omega
    have e2 : (p ++ c ++ g.old).length = g.at_ + g.old.length := by simp; omega
    unfold refApp
    rw [e, ih, ← e2, List.drop_append_of_le_length (Nat.le_refl _), List.drop_length, List.nil_append]
    rw [← e1, List.append_assoc (p ++ c) g.old b', List.take_append_of_le_length (Nat.le_refl _), List.take_length]
    simp
theorem done_stands : ∀ {l : List (Hk α)} {i : Nat} {p a b : List α}, p.length = i → Done i l a b → ∀ h ∈ l, Stands (p ++ a) h
  | g :: l, i, p, a, b, hp, h, k, hk => by
    obtain ⟨c, a', b', rfl, rfl, h3, h4⟩ := h
    have e : p ++ (c ++ (g.old ++ a')) = (p ++ c ++ g.old) ++ a' := by simp
    rcases List.mem_cons.1 hk with rfl | hk
    · have e1 : (p ++ c).length = k.at_ := by simp; omega
      refine ⟨by simp; omega, ?_⟩
      have e3 : p ++ (c ++ (k.old ++ a')) = (p ++ c) ++ (k.old ++ a') := by simp
      rw [e3, ← e1, List.drop_append_of_le_length (Nat.le_refl _), List.drop_length, List.nil_append, List.take_append_of_le_length (Nat.le_refl _), List.take_length]
    · rw [e]
      exact done_stands (by simp; omega) h4 k hk
theorem stands_done (a : List α) : ∀ (l : List (Hk α)) (i : Nat), i ≤ a.length → From i l → May l → (∀ h ∈ l, Stands a h) → ∃ b, Done i l (a.drop i) b
  | [], i, _, _, _, _ => ⟨_, rfl⟩
  | g :: l, i, hia, hf, hm, hs => by
    obtain ⟨h1, h2⟩ := hs g (by simp)
    obtain ⟨b, hb⟩ := stands_done a l (g.at_ + g.old.length) h1 (hm.2.1.mono (by omega)) hm.2.2 fun k hk => hs k (List.mem_cons_of_mem _ hk)
    have hf' : i ≤ g.at_ := hf
    refine ⟨(a.drop i).take (g.at_ - i) ++ (g.new ++ b), (a.drop i).take (g.at_ - i), _, b, ?_, rfl, ?_, hb⟩
    · have e1 : (a.drop i) = (a.drop i).take (g.at_ - i) ++ a.drop g.at_ := by
        have := (List.take_append_drop (g.at_ - i) (a.drop i)).symm
        rwa [List.drop_drop, show i + (g.at_ - i) = g.at_ by omega] at this
      have e2 : a.drop g.at_ = g.old ++ a.drop (g.at_ + g.old.length) := by
        have := (List.take_append_drop g.old.length (a.drop g.at_)).symm
        rwa [h2, List.drop_drop] at this
      rw [← e2]
      exact e1
    · rw [List.length_take, List.length_drop]; omega

/-- What takes hunks back; i, j: places in the list ahead of them and behind them. -/
def inv : Nat → Nat → List (Hk α) → List (Hk α)
  | _, _, [] => []
  | i, j, h :: l => ⟨j + (h.at_ - i), h.new, h.old⟩ :: inv (h.at_ + h.old.length) (j + (h.at_ - i) + h.new.length) l
theorem inv_done : ∀ {l : List (Hk α)} {i j : Nat} {a b : List α}, Done i l a b → Done j (inv i j l) b a
  | [], i, j, a, b, h => by simp only [Done, inv] at h ⊢; exact h.symm
  | g :: l, i, j, a, b, h => by
    obtain ⟨c, a', b', rfl, rfl, h3, h4⟩ := h
    exact ⟨c, b', a', rfl, rfl, by simp; omega, inv_done h4⟩
theorem inv_may : ∀ {l : List (Hk α)} {i j : Nat}, May l → From i l → May (inv i j l) ∧ From j (inv i j l) ∧ (From (i + 1) l → From (j + 1) (inv i j l))
  | [], i, j, _, _ => ⟨trivial, trivial, fun _ => trivial⟩
  | g :: l, i, j, hm, hf => by
    have hf' : i ≤ g.at_ := hf
    have ih := inv_may (i := g.at_ + g.old.length) (j := j + (g.at_ - i) + g.new.length) hm.2.2 (hm.2.1.mono (by omega))
    refine ⟨⟨hm.1.symm, ?_, ih.1⟩, ?_, fun h => ?_⟩
    · exact ih.2.2 hm.2.1
    · show j ≤ j + (g.at_ - i); omega
    · have h' : i + 1 ≤ g.at_ := h
      show j + 1 ≤ j + (g.at_ - i); omega
theorem inv_inv : ∀ {l : List (Hk α)} {i j : Nat}, May l → From i l → inv j i (inv i j l) = l
  | [], i, j, _, _ => rfl
  | g :: l, i, j, hm, hf => by
    have hf' : i ≤ g.at_ := hf
    have ih := inv_inv (i := g.at_ + g.old.length) (j := j + (g.at_ - i) + g.new.length) hm.2.2 (hm.2.1.mono (by omega))
    have e : i + (j + (g.at_ - i) - j) = g.at_ := by omega
    simp only [inv]
    rw [e, ih]
theorem inv_sum : ∀ (l : List (Hk α)) (i j : Nat), sumOld (inv i j l) = sumNew l ∧ sumNew (inv i j l) = sumOld l
  | [], _, _ => ⟨rfl, rfl⟩
  | g :: l, i, j => by
    have ih := inv_sum l (g.at_ + g.old.length) (j + (g.at_ - i) + g.new.length)
    simp only [sumOld, sumNew, inv, List.map_cons, List.sum_cons] at ih ⊢
    exact ⟨by rw [ih.1], by rw [ih.2]⟩

/-- There and back. -/
theorem there_back {a : List α} {l : List (Hk α)} (hm : May l) (hs : ∀ h ∈ l, Stands a h) :
    May (inv 0 0 l) ∧ (∀ h ∈ inv 0 0 l, Stands (refApp a l) h) ∧ refApp (refApp a l) (inv 0 0 l) = a ∧ inv 0 0 (inv 0 0 l) = l := by
  have hf : From 0 l := by cases l <;> simp [From]
  obtain ⟨b, hb⟩ := stands_done a l 0 (Nat.zero_le _) hf hm hs
  rw [List.drop_zero] at hb
  have e := done_app (p := []) rfl hb
  rw [List.nil_append, List.nil_append] at e
  have hi := inv_done (j := 0) hb
  have e2 := done_app (p := []) rfl hi
  have s2 := done_stands (p := []) rfl hi
  rw [List.nil_append] at e2
  rw [e]
  exact ⟨(inv_may hm hf).1, by simpa using s2, by simpa using e2, inv_inv hm hf⟩
theorem hunks_app (a b : List α) : refApp a (hunks a b) = b ∧ (∀ h ∈ hunks a b, Stands a h) := by
  have h := (hunks_facts a b).1
  have e := done_app (p := []) rfl h
  have s := done_stands (p := []) rfl h
  simp only [List.nil_append] at e s
  exact ⟨e, s⟩
end
end Go.Proofs.YtknommnlkdlkdaaGreatDoor
