/- Pairs of steps, plainly: what they touch, whether they are apart, the other way round. What two steps become, plainly; from the left on. The reference's way to make one hunk of two, line by line, plainly. Steps that become one, plainly, in the words of the code and of the reference. How lists differ, plainly: most alike, the walk, hunks done and taken back. -/
import Derived.Test.YtempamboacbgiaaGreatDoorCk02
namespace Go.Proofs.YtempamboacbgiaaGreatDoor
open Go.RowKit
set_option linter.unusedVariables false

/-- What a step touches. -/
def touches (p : Pk) : List (List UInt8) := if p.kind = 5 then [p.path, p.dst] else [p.path]
/-- A path lies within a directory (by their names alone). -/
def inDir (x d : List UInt8) : Bool := decide ((names nameP d).length < (names nameP x).length) && beginsP (names nameP x) (names nameP d)
def zeroP : Pk := ⟨0, [], [], 0, [], []⟩
theorem ck_nums {p : Pk} (h : ckP p = 0) (e : p.kind = 6) : 0 ≤ p.at_ ∧ p.old.length ≤ 2000 ∧ p.new.length ≤ 2000 := by
  obtain ⟨_, _, _, _, _, _, fh⟩ := ck_facts h
  obtain ⟨a, b, c⟩ := fh e
  exact ⟨a, (check_iff.1 b).1, (check_iff.1 c).1⟩
end Go.Proofs.YtempamboacbgiaaGreatDoor
namespace Go.Proofs.YtempamboacbgiaaGreatDoor
open Go.RowKit
set_option linter.unusedVariables false

/-- What goes, and what comes, of two hunks that touch, as one. -/
def fuseOld (p q : Pk) : List (List UInt8) := q.old.take (p.at_ - q.at_).toNat ++ p.old ++ q.old.drop (p.at_ + p.new.length - q.at_).toNat
def fuseNew (p q : Pk) : List (List UInt8) := p.new.take (q.at_ - p.at_).toNat ++ q.new ++ p.new.drop (q.at_ + q.old.length - p.at_).toNat
def fuseH (p q : Pk) : Pk := ⟨6, p.path, [], min p.at_ q.at_, fuseOld p q, fuseNew p q⟩
/-- Do two hunks of one file touch (that may be, both)? -/
def touchP (p q : Pk) : Bool := decide (ckP p = 0 ∧ ckP q = 0 ∧ p.kind = 6 ∧ q.kind = 6 ∧ p.path = q.path ∧ q.at_ ≤ p.at_ + p.new.length ∧ p.at_ ≤ q.at_ + q.old.length)
/-- Where the second one's old lines lie over the first one's new ones, they are the same. -/
def agreeP (p q : Pk) : Bool := decide (∀ i < p.new.length, p.at_ + (i : Int) - q.at_ < q.old.length → 0 ≤ p.at_ + (i : Int) - q.at_ → p.new[i]? = q.old[(p.at_ + (i : Int) - q.at_).toNat]?)
def hunksP (p q : Pk) : Option Pk := if touchP p q = true ∧ agreeP p q = true then some (fuseH p q) else none
/-- What two steps become, or that they stay. -/
def fuseP (p q : Pk) : Option (List Pk) :=
  if ckP p ≠ 0 ∨ ckP q ≠ 0 then none
  else if p.kind ≠ 2 ∧ p.kind ≠ 4 ∧ p.kind ≠ 6 ∧ invP p = q then some []
  else if p.kind = 5 ∧ q.kind = 5 ∧ q.path = p.dst then some [⟨5, p.path, q.dst, 0, [], []⟩]
  else match hunksP p q with
  | none => none
  | some h => if h.old = h.new then some [] else some [h]
theorem fuse_one {p q : Pk} {l : List Pk} (hf : fuseP p q = some l) : l = [] ∨ ∃ z, l = [z] := by
  unfold fuseP at hf
  split at hf
  · cases hf
  split at hf
  · cases hf; exact .inl rfl
  split at hf
  · cases hf; exact .inr ⟨_, rfl⟩
  · cases hh : hunksP p q with
    | none => rw [hh] at hf; cases hf
    | some u =>
      rw [hh] at hf
      simp only at hf
      split at hf
      · cases hf; exact .inl rfl
      · cases hf; exact .inr ⟨_, rfl⟩
/-- One step more, behind those that are left (the last one first). -/
def pushP : List Pk → Pk → List Pk
  | [], x => [x]
  | y :: st, x => match fuseP y x with
    | none => x :: y :: st
    | some [] => st
    | some (z :: _) => pushP st z
/-- From the left on. -/
def fuseAllP (s : List Pk) : List Pk := (s.foldl pushP []).reverse
/-- No two neighbours become one (the last one first). -/
def ApartL : List Pk → Prop
  | x :: y :: st => fuseP y x = none ∧ ApartL (y :: st)
  | _ => True
theorem apart_tail {y : Pk} {st : List Pk} (h : ApartL (y :: st)) : ApartL st := by
  cases st with
  | nil => trivial
  | cons z st => exact h.2
theorem push_apart : ∀ (st : List Pk) (x : Pk), ApartL st → ApartL (pushP st x)
  | [], x, h => trivial
  | y :: st, x, h => by
    unfold pushP
    cases hf : fuseP y x with
    | none => exact ⟨hf, h⟩
    | some l =>
      rcases fuse_one hf with rfl | ⟨z, rfl⟩
      · exact apart_tail h
      · exact push_apart st z (apart_tail h)
theorem fold_apart : ∀ (s st : List Pk), ApartL st → ApartL (s.foldl pushP st)
  | [], st, h => h
  | x :: s, st, h => fold_apart s (pushP st x) (push_apart st x h)
theorem push_len : ∀ (st : List Pk) (x : Pk), (pushP st x).length ≤ st.length + 1
  | [], x => by simp [pushP]
  | y :: st, x => by
    unfold pushP
    cases hf : fuseP y x with
    | none => simp
    | some l =>
      rcases fuse_one hf with rfl | ⟨z, rfl⟩
      · simp
        omega
      · have := push_len st z
        simp only [List.length_cons]
        omega
theorem fold_len : ∀ (s st : List Pk), (s.foldl pushP st).length ≤ st.length + s.length
  | [], st => by simp
  | x :: s, st => by
    have h1 := fold_len s (pushP st x)
    have h2 := push_len st x
    simp only [List.foldl_cons, List.length_cons]
    omega
theorem fuseall_len (s : List Pk) : (fuseAllP s).length ≤ s.length := by
  unfold fuseAllP
  rw [List.length_reverse]
  simpa using fold_len s []
theorem fuseall_apart (s : List Pk) : ApartL (fuseAllP s).reverse := by
  unfold fuseAllP
  rw [List.reverse_reverse]
  exact fold_apart s [] trivial
end Go.Proofs.YtempamboacbgiaaGreatDoor
namespace Go.Proofs.YtempamboacbgiaaGreatDoor
open Go.RowKit
set_option linter.unusedVariables false

/-- What goes, of the places ahead of i: the hunk at a has n new lines, and takes po away; the other one, at b, takes Q away. (What comes is told likewise, the roles turned.) -/
def goA (a n b : Nat) (po Q : List (List UInt8)) (i : Nat) : List (List UInt8) := Q.take (min i a - b) ++ (if a < i then po else []) ++ (Q.drop (a + n - b)).take (i - max b (a + n))
theorem take_next (Q : List (List UInt8)) (k : Nat) : Q.take (k + 1) = Q.take k ++ (if h : k < Q.length then [Q[k]] else []) := by
  split
  · rename_i h
    exact List.take_succ_eq_append_getElem h
  · rename_i h
    rw [List.append_nil, List.take_of_length_le (by omega), List.take_of_length_le (by omega)]
/-- The line at a place, where only the other one has one. -/
def lineA (a n b : Nat) (Q : List (List UInt8)) (i : Nat) : List (List UInt8) := if h : (b ≤ i ∧ i - b < Q.length) ∧ ¬ (a ≤ i ∧ i < a + n) then [Q[i - b]'h.1.2] else []
theorem goA_next (a n b : Nat) (po Q : List (List UInt8)) (i : Nat) : goA a n b po Q (i + 1) = goA a n b po Q i ++ (if i = a then po else []) ++ lineA a n b Q i := by
  unfold goA lineA
  rcases Nat.lt_trichotomy i a with h | h | h
  · rw [if_neg (by omega), if_neg (by omega), if_neg (by omega), show min (i + 1) a = i + 1 by omega, show min i a = i by omega, show i + 1 - max b (a + n) = 0 by omega, show i - max b (a + n) = 0 by omega]
    simp only [List.take_zero, List.append_nil]
    by_cases hb : b ≤ i
    · rw [show i + 1 - b = (i - b) + 1 by omega, take_next]
      congr 1
      by_cases hq : i - b < Q.length
      · rw [dif_pos hq, dif_pos ⟨⟨hb, hq⟩, by omega⟩]
      · rw [dif_neg hq, dif_neg (fun h => hq h.1.2)]
    · rw [dif_neg (fun h => hb h.1.1), show i + 1 - b = 0 by omega, show i - b = 0 by omega]
      simp
  · subst h
    rw [if_pos (by omega), if_neg (by omega), if_pos rfl, show min (i + 1) i = i by omega, show min i i = i by omega]
    by_cases hn : n = 0 ∧ b ≤ i
    · obtain ⟨rfl, hb⟩ := hn
      rw [show i + 1 - max b (i + 0) = 0 + 1 by omega, show i - max b (i + 0) = 0 by omega, take_next]
      simp only [List.take_zero, List.append_nil, List.nil_append, List.append_assoc, Nat.add_zero]
      congr 2
      by_cases hq : i - b < Q.length
      · rw [dif_pos (by rw [List.length_drop]; omega), dif_pos ⟨⟨hb, hq⟩, by omega⟩, List.getElem_drop]
        simp only [Nat.add_zero]
      · rw [dif_neg (by rw [List.length_drop]; omega), dif_neg (fun h => hq h.1.2)]
    · rw [show i + 1 - max b (i + n) = 0 by omega, show i - max b (i + n) = 0 by omega, dif_neg (fun h => by omega)]
      simp only [List.take_zero, List.append_nil]
  · rw [if_pos (by omega), if_pos (by omega), if_neg (by omega), show min (i + 1) a = a by omega, show min i a = a by omega]
    by_cases hm : max b (a + n) ≤ i
    · rw [show i + 1 - max b (a + n) = (i - max b (a + n)) + 1 by omega, take_next]
      simp only [List.append_nil, List.append_assoc]
      congr 3
      by_cases hq : i - b < Q.length
      · rw [dif_pos (by rw [List.length_drop]; omega), dif_pos ⟨⟨by omega, hq⟩, by omega⟩, List.getElem_drop]
        congr 2
        omega
      · rw [dif_neg (by rw [List.length_drop]; omega), dif_neg (fun h => hq h.1.2)]
    · rw [show i + 1 - max b (a + n) = 0 by omega, show i - max b (a + n) = 0 by omega, dif_neg (fun h => by omega)]
      simp only [List.append_nil]
theorem goA_start (a n b : Nat) (po Q : List (List UInt8)) : goA a n b po Q (min a b) = [] := by
  unfold goA
  rw [if_neg (by omega), show min (min a b) a - b = 0 by omega, show min a b - max b (a + n) = 0 by omega]
  simp
theorem goA_end (a n b : Nat) (po Q : List (List UInt8)) : goA a n b po Q (max (a + n) (b + Q.length) + 1) = Q.take (a - b) ++ po ++ Q.drop (a + n - b) := by
  unfold goA
  rw [if_pos (by omega), show min (max (a + n) (b + Q.length) + 1) a = a by omega, List.take_of_length_le (l := Q.drop (a + n - b)) (by rw [List.length_drop]; omega)]
/-- The end is what the two hunks become. -/
theorem goA_fuse {p q : Pk} (h1 : 0 ≤ p.at_) (h2 : 0 ≤ q.at_) : goA p.at_.toNat p.new.length q.at_.toNat p.old q.old (max (p.at_.toNat + p.new.length) (q.at_.toNat + q.old.length) + 1) = fuseOld p q ∧
    goA q.at_.toNat q.old.length p.at_.toNat q.new p.new (max (p.at_.toNat + p.new.length) (q.at_.toNat + q.old.length) + 1) = fuseNew p q := by
  constructor
  · rw [goA_end]
    unfold fuseOld
    rw [show p.at_.toNat - q.at_.toNat = (p.at_ - q.at_).toNat by omega, show p.at_.toNat + p.new.length - q.at_.toNat = (p.at_ + p.new.length - q.at_).toNat by omega]
  · rw [Nat.max_comm, goA_end]
    unfold fuseNew
    rw [show q.at_.toNat - p.at_.toNat = (q.at_ - p.at_).toNat by omega, show q.at_.toNat + q.old.length - p.at_.toNat = (q.at_ + q.old.length - p.at_).toNat by omega]
end Go.Proofs.YtempamboacbgiaaGreatDoor
namespace Go.Proofs.YtempamboacbgiaaGreatDoor
open Go.RowKit
set_option linter.unusedVariables false

theorem agree_no {p q : Pk} {i j : Nat} (hi : i < p.new.length) (hj : j < q.old.length) (e : p.at_ + (i : Int) = q.at_ + (j : Int)) (hne : p.new[i] ≠ q.old[j]) : agreeP p q = false := by
  unfold agreeP
  rw [decide_eq_false_iff_not]
  intro h
  have h1 := h i hi (by omega) (by omega)
  rw [show (p.at_ + (i : Int) - q.at_).toNat = j by omega, List.getElem?_eq_getElem hi, List.getElem?_eq_getElem hj, Option.some.injEq] at h1
  exact hne h1
theorem agree_yes {p q : Pk} (h : ∀ (i j : Nat) (hi : i < p.new.length) (hj : j < q.old.length), p.at_ + (i : Int) = q.at_ + (j : Int) → p.new[i] = q.old[j]) : agreeP p q = true := by
  unfold agreeP
  rw [decide_eq_true_eq]
  intro i hi h1 h2
  have hj : (p.at_ + (i : Int) - q.at_).toNat < q.old.length := by omega
  rw [List.getElem?_eq_getElem hi, List.getElem?_eq_getElem hj, Option.some.injEq]
  exact h i _ hi hj (by omega)
/-- Where both lie over one another, as the code has it: from nf to nt of the first one's new lines, from mf to mt of the second one's old ones. -/
structure Over (p q : Pk) (nf nt mf mt : Nat) : Prop where
  n : nf ≤ nt
  nl : nt ≤ p.new.length
  m : mf ≤ mt
  ml : mt ≤ q.old.length
  agree : agreeP p q = decide ((p.new.drop nf).take (nt - nf) = (q.old.drop mf).take (mt - mf))
  old : q.old.take mf ++ p.old ++ q.old.drop mt = fuseOld p q
  new : p.new.take nf ++ q.new ++ p.new.drop nt = fuseNew p q
theorem over_of {p q : Pk} (h1 : 0 ≤ p.at_) (h2 : 0 ≤ q.at_) (t1 : q.at_ ≤ p.at_ + p.new.length) (t2 : p.at_ ≤ q.at_ + q.old.length) (b f : Int) (hb : b = max p.at_ q.at_) (hf : f = min (p.at_ - b + p.new.length) (q.at_ - b + q.old.length)) :
    Over p q (b - p.at_).toNat (b - p.at_ + f).toNat (b - q.at_).toNat (b - q.at_ + f).toNat := by
  have hf0 : 0 ≤ f := by omega
  refine ⟨by omega, by omega, by omega, by omega, ?_, ?_, ?_⟩
  · have hl1 : ((p.new.drop (b - p.at_).toNat).take ((b - p.at_ + f).toNat - (b - p.at_).toNat)).length = f.toNat := by rw [List.length_take, List.length_drop]; omega
    have hl2 : ((q.old.drop (b - q.at_).toNat).take ((b - q.at_ + f).toNat - (b - q.at_).toNat)).length = f.toNat := by rw [List.length_take, List.length_drop]; omega
    by_cases he : (p.new.drop (b - p.at_).toNat).take ((b - p.at_ + f).toNat - (b - p.at_).toNat) = (q.old.drop (b - q.at_).toNat).take ((b - q.at_ + f).toNat - (b - q.at_).toNat)
    · rw [decide_eq_true he]
      refine agree_yes fun i j hi hj e => ?_
      have h3 := congrArg (fun l => l[i - (b - p.at_).toNat]?) he
      simp only [List.getElem?_take, List.getElem?_drop] at h3
      rw [if_pos (by omega), if_pos (by omega), show (b - p.at_).toNat + (i - (b - p.at_).toNat) = i by omega, show (b - q.at_).toNat + (i - (b - p.at_).toNat) = j by omega, List.getElem?_eq_getElem hi, List.getElem?_eq_getElem hj, Option.some.injEq] at h3
      exact h3
    · rw [decide_eq_false he]
      have : ∃ k, k < f.toNat ∧ p.new[(b - p.at_).toNat + k]? ≠ q.old[(b - q.at_).toNat + k]? := by
        refine Classical.byContradiction fun hn => he ?_
        refine List.ext_getElem? fun k => ?_
        simp only [List.getElem?_take, List.getElem?_drop]
        by_cases hk : k < f.toNat
        · rw [if_pos (by omega), if_pos (by omega)]
          exact Classical.byContradiction fun h4 => hn ⟨k, hk, h4⟩
        · rw [if_neg (by omega), if_neg (by omega)]
      obtain ⟨k, hk, hne⟩ := this
      refine agree_no (i := (b - p.at_).toNat + k) (j := (b - q.at_).toNat + k) (by omega) (by omega) (by omega) fun h5 => hne ?_
      rw [List.getElem?_eq_getElem (by omega), List.getElem?_eq_getElem (by omega), h5]
  · unfold fuseOld
    rw [show (b - q.at_).toNat = (p.at_ - q.at_).toNat by omega]
    congr 1
    by_cases hc : p.at_ - b + p.new.length ≤ q.at_ - b + q.old.length
    · rw [show (b - q.at_ + f).toNat = (p.at_ + p.new.length - q.at_).toNat by omega]
    · rw [List.drop_eq_nil_of_le (by omega), List.drop_eq_nil_of_le (by omega)]
  · unfold fuseNew
    rw [show (b - p.at_).toNat = (q.at_ - p.at_).toNat by omega]
    congr 1
    by_cases hc : q.at_ - b + q.old.length ≤ p.at_ - b + p.new.length
    · rw [show (b - p.at_ + f).toNat = (q.at_ + q.old.length - p.at_).toNat by omega]
    · rw [List.drop_eq_nil_of_le (by omega), List.drop_eq_nil_of_le (by omega)]
theorem touch_iff {p q : Pk} (hp : ckP p = 0) (hq : ckP q = 0) (h6 : p.kind = 6) (k6 : q.kind = 6) (e : p.path = q.path) : touchP p q = decide (q.at_ ≤ p.at_ + p.new.length ∧ p.at_ ≤ q.at_ + q.old.length) := by
  unfold touchP
  simp [hp, hq, h6, k6, e]
theorem touch_far {p q : Pk} (b f : Int) (hb : b = max p.at_ q.at_) (hf : f = min (p.at_ - b + p.new.length) (q.at_ - b + q.old.length)) : 0 ≤ f ↔ q.at_ ≤ p.at_ + p.new.length ∧ p.at_ ≤ q.at_ + q.old.length := by omega
theorem touch_not {p q : Pk} (h : ¬ (p.kind = 6 ∧ q.kind = 6 ∧ p.path = q.path)) : touchP p q = false := by
  unfold touchP
  rw [decide_eq_false_iff_not]
  rintro ⟨_, _, a, b, c, _⟩
  exact h ⟨a, b, c⟩
theorem touch_wrong {p q : Pk} (h : ¬ (ckP p = 0 ∧ ckP q = 0)) : touchP p q = false := by
  unfold touchP
  rw [decide_eq_false_iff_not]
  rintro ⟨a, b, _⟩
  exact h ⟨a, b⟩
theorem hunks_no {p q : Pk} (h : touchP p q = false) : hunksP p q = none := by
  unfold hunksP
  rw [if_neg (by simp [h])]
theorem hunks_apart {p q : Pk} (h : agreeP p q = false) : hunksP p q = none := by
  unfold hunksP
  rw [if_neg (by simp [h])]
theorem hunks_yes {p q : Pk} (h : touchP p q = true) (h2 : agreeP p q = true) : hunksP p q = some (fuseH p q) := by
  unfold hunksP
  rw [if_pos ⟨h, h2⟩]
/-- What hunks become. -/
def sixP (p q : Pk) : Option (List Pk) := match hunksP p q with
  | none => none
  | some h => if h.old = h.new then some [] else some [h]
/-- What two steps become, told in the code's order. -/
theorem fuse_code {p q : Pk} (hp : ckP p = 0) (hq : ckP q = 0) : fuseP p q =
    if p.kind = 6 ∧ q.kind = 6 ∧ p.path = q.path then sixP p q
    else if (p.kind = 1 ∨ p.kind = 3 ∨ p.kind = 5) ∧ invP p = q then some []
    else if p.kind = 5 ∧ q.kind = 5 ∧ q.path = p.dst then some [⟨5, p.path, q.dst, 0, [], []⟩] else none := by
  have hk := ck_facts hp
  unfold fuseP
  rw [if_neg (by simp [hp, hq])]
  by_cases h6 : p.kind = 6 ∧ q.kind = 6 ∧ p.path = q.path
  · rw [if_pos h6, if_neg (by omega), if_neg (by omega)]
    rfl
  · rw [if_neg h6, hunks_no (touch_not h6)]
    have e : (p.kind ≠ 2 ∧ p.kind ≠ 4 ∧ p.kind ≠ 6 ∧ invP p = q) ↔ ((p.kind = 1 ∨ p.kind = 3 ∨ p.kind = 5) ∧ invP p = q) := by
      constructor
      · rintro ⟨a, b, c, d⟩
        exact ⟨by omega, d⟩
      · rintro ⟨a, d⟩
        exact ⟨by omega, by omega, by omega, d⟩
    by_cases hi : (p.kind = 1 ∨ p.kind = 3 ∨ p.kind = 5) ∧ invP p = q
    · rw [if_pos (e.2 hi), if_pos hi]
    · rw [if_neg (fun h => hi (e.1 h)), if_neg hi]
theorem fuse_wrong {p q : Pk} (h : ¬ (ckP p = 0 ∧ ckP q = 0)) : fuseP p q = none := by
  unfold fuseP
  rw [if_pos (by
    rcases Classical.em (ckP p = 0) with h1 | h1
    · exact .inr fun h2 => h ⟨h1, h2⟩
    · exact .inl h1)]

/-- A step that comes of light ones. -/
structure FzK (k : Pk) : Prop where
  p : k.path.length ≤ 300
  q : k.dst.length ≤ 300
  old : MidK k.old
  new : MidK k.new
  hi : k.at_ ≤ 1099511627776
theorem fuse_old_len (p q : Pk) : (fuseOld p q).length ≤ q.old.length + p.old.length + q.old.length ∧ (fuseNew p q).length ≤ p.new.length + q.new.length + p.new.length := by
  unfold fuseOld fuseNew
  simp only [List.length_append, List.length_take, List.length_drop]
  omega
theorem mem_parts {α : Type} {a b c : List α} {n m : Nat} {x : α} (h : x ∈ a.take n ++ b ++ c.drop m) : x ∈ a ∨ x ∈ b ∨ x ∈ c := by
  rw [List.mem_append, List.mem_append] at h
  rcases h with (h | h) | h
  · exact .inl (List.mem_of_mem_take h)
  · exact .inr (.inl h)
  · exact .inr (.inr (List.mem_of_mem_drop h))
theorem parts_len {α : Type} (a b : List α) (n m : Nat) (h : n ≤ m) : (a.take n ++ b ++ a.drop m).length ≤ a.length + b.length := by
  simp only [List.length_append, List.length_take, List.length_drop]
  omega
theorem fuse_h_mid {p q : Pk} (hp : FzK p) (hq : FzK q) (ht : touchP p q = true) : FzK (fuseH p q) := by
  unfold touchP at ht
  rw [decide_eq_true_eq] at ht
  obtain ⟨cp, cq, h6, k6, e, t1, t2⟩ := ht
  obtain ⟨a1, a2, a3⟩ := ck_nums cp h6
  obtain ⟨b1, b2, b3⟩ := ck_nums cq k6
  have hh := hp.hi
  refine ⟨hp.p, Nat.zero_le _, ⟨?_, fun x hx => ?_⟩, ⟨?_, fun x hx => ?_⟩, by show min _ _ ≤ _; omega⟩
  · have := parts_len q.old p.old (p.at_ - q.at_).toNat (p.at_ + p.new.length - q.at_).toNat (by omega)
    show (q.old.take (p.at_ - q.at_).toNat ++ p.old ++ q.old.drop (p.at_ + p.new.length - q.at_).toNat).length ≤ _
    omega
  · rcases mem_parts (show x ∈ q.old.take _ ++ p.old ++ q.old.drop _ from hx) with h | h | h
    · exact hq.old.2 x h
    · exact hp.old.2 x h
    · exact hq.old.2 x h
  · have := parts_len p.new q.new (q.at_ - p.at_).toNat (q.at_ + q.old.length - p.at_).toNat (by omega)
    show (p.new.take (q.at_ - p.at_).toNat ++ q.new ++ p.new.drop (q.at_ + q.old.length - p.at_).toNat).length ≤ _
    omega
  · rcases mem_parts (show x ∈ p.new.take _ ++ q.new ++ p.new.drop _ from hx) with h | h | h
    · exact hp.new.2 x h
    · exact hq.new.2 x h
    · exact hp.new.2 x h
theorem fuse_mid {p q : Pk} {l : List Pk} (hp : FzK p) (hq : FzK q) (h : fuseP p q = some l) : ∀ z ∈ l, FzK z := by
  unfold fuseP at h
  split at h
  · cases h
  split at h
  · cases h
    intro z hz
    cases hz
  split at h
  · cases h
    intro z hz
    simp only [List.mem_cons, List.not_mem_nil, or_false] at hz
    subst hz
    exact ⟨hp.p, hq.q, MidK.nil, MidK.nil, by show (0 : Int) ≤ _; decide⟩
  · cases hh : hunksP p q with
    | none => rw [hh] at h; cases h
    | some u =>
      rw [hh] at h
      have hu : FzK u := by
        unfold hunksP at hh
        split at hh
        · rename_i ht
          cases hh
          exact fuse_h_mid hp hq ht.1
        · cases hh
      simp only at h
      split at h
      · cases h
        intro z hz
        cases hz
      · cases h
        intro z hz
        simp only [List.mem_cons, List.not_mem_nil, or_false] at hz
        subst hz
        exact hu
/-- No two neighbours become one, by their places. -/
theorem apart_get : ∀ {st : List Pk}, ApartL st → ∀ i (h : i + 1 < st.length), fuseP st[i + 1] st[i] = none
  | x :: y :: st, h, 0, _ => h.1
  | x :: y :: st, h, i + 1, hi => apart_get (st := y :: st) h.2 i (by simpa using hi)
theorem fuseall_pair (s : List Pk) (i : Nat) (h : i + 1 < (fuseAllP s).length) : fuseP (fuseAllP s)[i] (fuseAllP s)[i + 1] = none := by
  have ha := fuseall_apart s
  have hl : (fuseAllP s).length - 1 - (i + 1) + 1 < (fuseAllP s).reverse.length := by rw [List.length_reverse]; omega
  have := apart_get ha ((fuseAllP s).length - 1 - (i + 1)) hl
  rw [List.getElem_reverse, List.getElem_reverse] at this
  simp only [show (fuseAllP s).length - 1 - ((fuseAllP s).length - 1 - (i + 1) + 1) = i by omega, show (fuseAllP s).length - 1 - ((fuseAllP s).length - 1 - (i + 1)) = i + 1 by omega] at this
  exact this
end Go.Proofs.YtempamboacbgiaaGreatDoor
namespace Go.Proofs.YtempamboacbgiaaGreatDoor
set_option linter.unusedVariables false
set_option linter.unusedSectionVars false

/-- A hunk: its place, what goes, what comes. -/
structure Hk (α : Type) where
  at_ : Nat
  old : List α
  new : List α

section
variable {α : Type} [DecidableEq α]

/-- How much is alike: one line of the first list more. -/
def lcsStep (x : α) (f : List α → Nat) : List α → Nat
  | [] => 0
  | y :: b => if x = y then f b + 1 else max (f (y :: b)) (lcsStep x f b)
def lcs : List α → List α → Nat
  | [], _ => 0
  | x :: a, b => lcsStep x (lcs a) b
/-- A hunk that is something comes ahead. -/
def flush (h : Hk α) (l : List (Hk α)) : List (Hk α) := if h.old = [] ∧ h.new = [] then l else h :: l
/-- The walk through both lists from place i of the first one on; h: the hunk that is open. -/
def walk : Nat → Nat → List α → List α → Hk α → List (Hk α)
  | 0, _, _, _, h => flush h []
  | f + 1, i, x :: a, y :: b, h =>
    if x = y then flush h (walk f (i + 1) a b ⟨i + 1, [], []⟩)
    else if lcs (x :: a) b ≤ lcs a (y :: b) then walk f (i + 1) a (y :: b) ⟨h.at_, h.old ++ [x], h.new⟩
    else walk f i (x :: a) b ⟨h.at_, h.old, h.new ++ [y]⟩
  | f + 1, i, x :: a, [], h => walk f (i + 1) a [] ⟨h.at_, h.old ++ [x], h.new⟩
  | f + 1, i, [], y :: b, h => walk f i [] b ⟨h.at_, h.old, h.new ++ [y]⟩
  | f + 1, i, [], [], h => flush h []
/-- The hunks by which two lists differ. -/
def hunks (a b : List α) : List (Hk α) := walk (a.length + b.length) 0 a b ⟨0, [], []⟩

/-- Hunks take a list (from place i on) to another one. -/
def Done : Nat → List (Hk α) → List α → List α → Prop
  | _, [], a, b => a = b
  | i, h :: l, a, b => ∃ c a' b', a = c ++ (h.old ++ a') ∧ b = c ++ (h.new ++ b') ∧ h.at_ = i + c.length ∧ Done (h.at_ + h.old.length) l a' b'
/-- The first hunk is not below place e. -/
def From (e : Nat) : List (Hk α) → Prop
  | [] => True
  | h :: _ => e ≤ h.at_
/-- May hunks be? -/
def May : List (Hk α) → Prop
  | [] => True
  | h :: l => (h.old ≠ [] ∨ h.new ≠ []) ∧ From (h.at_ + h.old.length + 1) l ∧ May l
def sumNew (l : List (Hk α)) : Nat := (l.map fun h => h.new.length).sum

theorem From.mono {e e' : Nat} {l : List (Hk α)} (h : From e l) (he : e' ≤ e) : From e' l := by
  cases l with
  | nil => trivial
  | cons g l => exact Nat.le_trans he h
/-- Hunks done, the last one first. -/
def refApp (a : List α) : List (Hk α) → List α
  | [] => a
  | h :: l => (refApp a l).take h.at_ ++ (h.new ++ (refApp a l).drop (h.at_ + h.old.length))
/-- Old stands at its place. -/
def Stands (a : List α) (h : Hk α) : Prop := h.at_ + h.old.length ≤ a.length ∧ (a.drop h.at_).take h.old.length = h.old
theorem done_app : ∀ {l : List (Hk α)} {i : Nat} {p a b : List α}, p.length = i → Done i l a b → refApp (p ++ a) l = p ++ b
  | [], i, p, a, b, hp, h => by simp only [Done] at h; rw [h]; rfl
  | g :: l, i, p, a, b, hp, h => by
    obtain ⟨c, a', b', rfl, rfl, h3, h4⟩ := h
    have e : p ++ (c ++ (g.old ++ a')) = (p ++ c ++ g.old) ++ a' := by simp
    have ih := done_app (p := p ++ c ++ g.old) (by simp; omega) h4
    have e1 : (p ++ c).length = g.at_ := by simp; omega
    have e2 : (p ++ c ++ g.old).length = g.at_ + g.old.length := by simp; omega
    unfold refApp
    rw [e, ih, ← e2, List.drop_append_of_le_length (Nat.le_refl _), List.drop_length, List.nil_append]
    rw [← e1, List.append_assoc (p ++ c) g.old b', List.take_append_of_le_length (Nat.le_refl _), List.take_length]
    simp
theorem stands_done (a : List α) : ∀ (l : List (Hk α)) (i : Nat), i ≤ a.length → From i l → May l → (∀ h ∈ l, Stands a h) → ∃ b, Done i l (a.drop i) b
  | [], i, _, _, _, _ => ⟨_, rfl⟩
  | g :: l, i, hia, hf, hm, hs => by
    obtain ⟨h1, h2⟩ := hs g (by simp)
    obtain ⟨b, hb⟩ := stands_done a l (g.at_ + g.old.length) h1 (hm.2.1.mono (by omega)) hm.2.2 fun k hk => hs k (List.mem_cons_of_mem _ hk)
    have hf' : i ≤ g.at_ := hf
    refine ⟨(a.drop i).take (g.at_ - i) ++ (g.new ++ b), (a.drop i).take (g.at_ - i), _, b, ?_, rfl, ?_, hb⟩
    · have e1 : (a.drop i) = (a.drop i).take (g.at_ - i) ++ a.drop g.at_ := by
        have := (List.take_append_drop (g.at_ - i) (a.drop i)).symm
        rwa [List.drop_drop, show i + (g.at_ - i) = g.at_ by omega] at this
      have e2 : a.drop g.at_ = g.old ++ a.drop (g.at_ + g.old.length) := by
        have := (List.take_append_drop g.old.length (a.drop g.at_)).symm
        rwa [h2, List.drop_drop] at this
      rw [← e2]
      exact e1
    · rw [List.length_take, List.length_drop]; omega

end
end Go.Proofs.YtempamboacbgiaaGreatDoor
