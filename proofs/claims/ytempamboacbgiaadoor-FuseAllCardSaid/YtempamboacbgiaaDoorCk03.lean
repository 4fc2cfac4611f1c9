/- Steps that become one, plainly, in the words of the code and of the reference. How lists differ, plainly: most alike, the walk, hunks done and taken back. Words for memory: rows of hunks. Words for memory: steps, and rows of steps. -/
import Derived.Test.YtempamboacbgiaaDoorCk02
import Derived.Test.YtempamboacbgiaaDoorCk01
import Derived.BigQuiet
import Derived.Deep.QuietTactic
import Derived.Handy
import Derived.Deep.AppendLies
namespace Go.Proofs.YtempamboacbgiaaDoor
open Go.RowKit
set_option linter.unusedVariables false

theorem agree_no {p q : Pk} {i j : Nat} (hi : i < p.new.length) (hj : j < q.old.length) (e : p.at_ + (i : Int) = q.at_ + (j : Int)) (hne : p.new[i] ≠ q.old[j]) : agreeP p q = false := by
  unfold agreeP
  rw [decide_eq_false_iff_not]
  intro h
  have h1 := h i hi (by omega) (by omega)
  rw [show (p.at_ + (i : Int) - q.at_).toNat = j by omega, List.getElem?_eq_getElem hi, List.getElem?_eq_getElem hj, Option.some.injEq] at h1
  exact hne h1
theorem agree_yes {p q : Pk} (h : ∀ (i j : Nat) (hi : i < p.new.length) (hj : j < q.old.length), p.at_ + (i : Int) = q.at_ + (j : Int) → p.new[i] = q.old[j]) : agreeP p q = true := by
  unfold agreeP
  rw [decide_eq_true_eq]
  intro i hi h1 h2
  have hj : (p.at_ + (i : Int) - q.at_).toNat < q.old.length := by omega
  rw [List.getElem?_eq_getElem hi, List.getElem?_eq_getElem hj, Option.some.injEq]
  exact h i _ hi hj (by omega)
/-- Where both lie over one another, as the code has it: from nf to nt of the first one's new lines, from mf to mt of the second one's old ones. -/
structure Over (p q : Pk) (nf nt mf mt : Nat) : Prop where
  n : nf ≤ nt
  nl : nt ≤ p.new.length
  m : mf ≤ mt
  ml : mt ≤ q.old.length
  agree : agreeP p q = decide ((p.new.drop nf).take (nt - nf) = (q.old.drop mf).take (mt - mf))
  old : q.old.take mf ++ p.old ++ q.old.drop mt = fuseOld p q
  new : p.new.take nf ++ q.new ++ p.new.drop nt = fuseNew p q
theorem over_of {p q : Pk} (h1 : 0 ≤ p.at_) (h2 : 0 ≤ q.at_) (t1 : q.at_ ≤ p.at_ + p.new.length) (t2 : p.at_ ≤ q.at_ + q.old.length) (b f : Int) (hb : b = max p.at_ q.at_) (hf : f = min (p.at_ - b + p.new.length) (q.at_ - b + q.old.length)) :
    Over p q (b - p.at_).toNat (b - p.at_ + f).toNat (b - q.at_).toNat (b - q.at_ + f).toNat := by
  have hf0 : 0 ≤ f := by omega
  refine ⟨by omega, by omega, by omega, by omega, ?_, ?_, ?_⟩
  · have hl1 : ((p.new.drop (b - p.at_).toNat).take ((b - p.at_ + f).toNat - (b - p.at_).toNat)).length = f.toNat := by rw [List.length_take, List.length_drop]; omega
    have hl2 : ((q.old.drop (b - q.at_).toNat).take ((b - q.at_ + f).toNat - (b - q.at_).toNat)).length = f.toNat := by rw [List.length_take, List.length_drop]; omega
    by_cases he : (p.new.drop (b - p.at_).toNat).take ((b - p.at_ + f).toNat - (b - p.at_).toNat) = (q.old.drop (b - q.at_).toNat).take ((b - q.at_ + f).toNat - (b - q.at_).toNat)
    · rw [decide_eq_true he]
      refine agree_yes fun i j hi hj e => ?_
      have h3 := congrArg (fun l => l[i - (b - p.at_).toNat]?) he
      simp only [List.getElem?_take, List.getElem?_drop] at h3
      rw [if_pos (by omega), if_pos (by omega), show (b - p.at_).toNat + (i - (b - p.at_).toNat) = i by omega, show (b - q.at_).toNat + (i - (b - p.at_).toNat) = j by omega, List.getElem?_eq_getElem hi, List.getElem?_eq_getElem hj, Option.some.injEq] at h3
      exact h3
    · rw [decide_eq_false he]
      have : ∃ k, k < f.toNat ∧ p.new[(b - p.at_).toNat + k]? ≠ q.old[(b - q.at_).toNat + k]? := by
        refine Classical.byContradiction fun hn => he ?_
        refine List.ext_getElem? fun k => ?_
        simp only [List.getElem?_take, List.getElem?_drop]
        by_cases hk : k < f.toNat
        · rw [if_pos (by omega), if_pos (by omega)]
          exact Classical.byContradiction fun h4 => hn ⟨k, hk, h4⟩
        · rw [if_neg (by omega), if_neg (by omega)]
      obtain ⟨k, hk, hne⟩ := this
      refine agree_no (i := (b - p.at_).toNat + k) (j := (b - q.at_).toNat + k) (by omega) (by omega) (by omega) fun h5 => hne ?_
      rw [List.getElem?_eq_getElem (by omega), List.getElem?_eq_getElem (by omega), h5]
  · unfold fuseOld
    rw [show (b - q.at_).toNat = (p.at_ - q.at_).toNat by omega]
    congr 1
    by_cases hc : p.at_ - b + p.new.length ≤ q.at_ - b + q.old.length
    · rw [show (b - q.at_ + f).toNat = (p.at_ + p.new.length - q.at_).toNat by omega]
    · rw [List.drop_eq_nil_of_le (by omega), List.drop_eq_nil_of_le (by omega)]
  · unfold fuseNew
    rw [show (b - p.at_).toNat = (q.at_ - p.at_).toNat by omega]
    congr 1
    by_cases hc : q.at_ - b + q.old.length ≤ p.at_ - b + p.new.length
    · rw [show (b - p.at_ + f).toNat = (q.at_ + q.old.length - p.at_).toNat by omega]
    · rw [List.drop_eq_nil_of_le (by omega), List.drop_eq_nil_of_le (by omega)]
theorem touch_iff {p q : Pk} (hp : ckP p = 0) (hq : ckP q = 0) (h6 : p.kind = 6) (k6 : q.kind = 6) (e : p.path = q.path) : touchP p q = decide (q.at_ ≤ p.at_ + p.new.length ∧ p.at_ ≤ q.at_ + q.old.length) := by
  unfold touchP
  simp [hp, hq, h6, k6, e]
theorem touch_far {p q : Pk} (b f : Int) (hb : b = max p.at_ q.at_) (hf : f = min (p.at_ - b + p.new.length) (q.at_ - b + q.old.length)) : 0 ≤ f ↔ q.at_ ≤ p.at_ + p.new.length ∧ p.at_ ≤ q.at_ + q.old.length := by omega
theorem touch_not {p q : Pk} (h : ¬ (p.kind = 6 ∧ q.kind = 6 ∧ p.path = q.path)) : touchP p q = false := by
  unfold touchP
  rw [decide_eq_false_iff_not]
  rintro ⟨_, _, a, b, c, _⟩
  exact h ⟨a, b, c⟩
theorem touch_wrong {p q : Pk} (h : ¬ (ckP p = 0 ∧ ckP q = 0)) : touchP p q = false := by
  unfold touchP
  rw [decide_eq_false_iff_not]
  rintro ⟨a, b, _⟩
  exact h ⟨a, b⟩
theorem hunks_no {p q : Pk} (h : touchP p q = false) : hunksP p q = none := by
  unfold hunksP
  rw [if_neg (by simp [h])]
theorem hunks_apart {p q : Pk} (h : agreeP p q = false) : hunksP p q = none := by
  unfold hunksP
  rw [if_neg (by simp [h])]
theorem hunks_yes {p q : Pk} (h : touchP p q = true) (h2 : agreeP p q = true) : hunksP p q = some (fuseH p q) := by
  unfold hunksP
  rw [if_pos ⟨h, h2⟩]
/-- What hunks become. -/
def sixP (p q : Pk) : Option (List Pk) := match hunksP p q with
  | none => none
  | some h => if h.old = h.new then some [] else some [h]
/-- What two steps become, told in the code's order. -/
theorem fuse_code {p q : Pk} (hp : ckP p = 0) (hq : ckP q = 0) : fuseP p q =
    if p.kind = 6 ∧ q.kind = 6 ∧ p.path = q.path then sixP p q
    else if (p.kind = 1 ∨ p.kind = 3 ∨ p.kind = 5) ∧ invP p = q then some []
    else if p.kind = 5 ∧ q.kind = 5 ∧ q.path = p.dst then some [⟨5, p.path, q.dst, 0, [], []⟩] else none := by
  have hk := ck_facts hp
  unfold fuseP
  rw [if_neg (by simp [hp, hq])]
  by_cases h6 : p.kind = 6 ∧ q.kind = 6 ∧ p.path = q.path
  · rw [if_pos h6, if_neg (by omega), if_neg (by omega)]
    rfl
  · rw [if_neg h6, hunks_no (touch_not h6)]
    have e : (p.kind ≠ 2 ∧ p.kind ≠ 4 ∧ p.kind ≠ 6 ∧ invP p = q) ↔ ((p.kind = 1 ∨ p.kind = 3 ∨ p.kind = 5) ∧ invP p = q) := by
      constructor
      · rintro ⟨a, b, c, d⟩
        exact ⟨by omega, d⟩
      · rintro ⟨a, d⟩
        exact ⟨by omega, by omega, by omega, d⟩
    by_cases hi : (p.kind = 1 ∨ p.kind = 3 ∨ p.kind = 5) ∧ invP p = q
    · rw [if_pos (e.2 hi), if_pos hi]
    · rw [if_neg (fun h => hi (e.1 h)), if_neg hi]
theorem fuse_wrong {p q : Pk} (h : ¬ (ckP p = 0 ∧ ckP q = 0)) : fuseP p q = none := by
  unfold fuseP
  rw [if_pos (by
    rcases Classical.em (ckP p = 0) with h1 | h1
    · exact .inr fun h2 => h ⟨h1, h2⟩
    · exact .inl h1)]

/-- A step that comes of light ones. -/
structure FzK (k : Pk) : Prop where
  p : k.path.length ≤ 300
  q : k.dst.length ≤ 300
  old : MidK k.old
  new : MidK k.new
  hi : k.at_ ≤ 1099511627776
theorem fuse_old_len (p q : Pk) : (fuseOld p q).length ≤ q.old.length + p.old.length + q.old.length ∧ (fuseNew p q).length ≤ p.new.length + q.new.length + p.new.length := by
  unfold fuseOld fuseNew
  simp only [List.length_append, List.length_take, List.length_drop]
  omega
theorem mem_parts {α : Type} {a b c : List α} {n m : Nat} {x : α} (h : x ∈ a.take n ++ b ++ c.drop m) : x ∈ a ∨ x ∈ b ∨ x ∈ c := by
  rw [List.mem_append, List.mem_append] at h
  rcases h with (h | h) | h
  · exact .inl (List.mem_of_mem_take h)
  · exact .inr (.inl h)
  · exact .inr (.inr (List.mem_of_mem_drop h))
theorem parts_len {α : Type} (a b : List α) (n m : Nat) (h : n ≤ m) : (a.take n ++ b ++ a.drop m).length ≤ a.length + b.length := by
  simp only [List.length_append, List.length_take, List.length_drop]
  omega
theorem fuse_h_mid {p q : Pk} (hp : FzK p) (hq : FzK q) (ht : touchP p q = true) : FzK (fuseH p q) := by
  unfold touchP at ht
  rw [decide_eq_true_eq] at ht
  obtain ⟨cp, cq, h6, k6, e, t1, t2⟩ := ht
  obtain ⟨a1, a2, a3⟩ := ck_nums cp h6
  obtain ⟨b1, b2, b3⟩ := ck_nums cq k6
  have hh := hp.hi
  refine ⟨hp.p, Nat.zero_le _, ⟨?_, fun x hx => ?_⟩, ⟨?_, fun x hx => ?_⟩, by show min _ _ ≤ _; omega⟩
  · have := parts_len q.old p.old (p.at_ - q.at_).toNat (p.at_ + p.new.length - q.at_).toNat (by omega)
    show (q.old.take (p.at_ - q.at_).toNat ++ p.old ++ q.old.drop (p.at_ + p.new.length - q.at_).toNat).length ≤ _
    omega
  · rcases mem_parts (show x ∈ q.old.take _ ++ p.old ++ q.old.drop _ from hx) with h | h | h
    · exact hq.old.2 x h
    · exact hp.old.2 x h
    · exact hq.old.2 x h
  · have := parts_len p.new q.new (q.at_ - p.at_).toNat (q.at_ + q.old.length - p.at_).toNat (by omega)
    show (p.new.take (q.at_ - p.at_).toNat ++ q.new ++ p.new.drop (q.at_ + q.old.length - p.at_).toNat).length ≤ _
    omega
  · rcases mem_parts (show x ∈ p.new.take _ ++ q.new ++ p.new.drop _ from hx) with h | h | h
    · exact hp.new.2 x h
    · exact hq.new.2 x h
    · exact hp.new.2 x h
theorem fuse_mid {p q : Pk} {l : List Pk} (hp : FzK p) (hq : FzK q) (h : fuseP p q = some l) : ∀ z ∈ l, FzK z := by
  unfold fuseP at h
  split at h
  · cases h
  split at h
  · cases h
    intro z hz
    cases hz
  split at h
  · cases h
    intro z hz
    simp only [List.mem_cons, List.not_mem_nil, or_false] at hz
    subst hz
    exact ⟨hp.p, hq.q, MidK.nil, MidK.nil, by show (0 : Int) ≤ _; decide⟩
  · cases hh : hunksP p q with
    | none => rw [hh] at h; cases h
    | some u =>
      rw [hh] at h
      have hu : FzK u := by
        unfold hunksP at hh
        split at hh
        · rename_i ht
          cases hh
          exact fuse_h_mid hp hq ht.1
        · cases hh
      simp only at h
      split at h
      · cases h
        intro z hz
        cases hz
      · cases h
        intro z hz
        simp only [List.mem_cons, List.not_mem_nil, or_false] at hz
        subst hz
        exact hu
end Go.Proofs.YtempamboacbgiaaDoor
namespace Go.Proofs.YtempamboacbgiaaDoor
set_option linter.unusedVariables false
set_option linter.unusedSectionVars false

/-- A hunk: its place, what goes, what comes. -/
structure Hk (α : Type) where
  at_ : Nat
  old : List α
  new : List α

section
variable {α : Type} [DecidableEq α]

/-- How much is alike: one line of the first list more. -/
def lcsStep (x : α) (f : List α → Nat) : List α → Nat
  | [] => 0
  | y :: b => if x = y then f b + 1 else max (f (y :: b)) (lcsStep x f b)
def lcs : List α → List α → Nat
  | [], _ => 0
  | x :: a, b => lcsStep x (lcs a) b
/-- A hunk that is something comes ahead. -/
def flush (h : Hk α) (l : List (Hk α)) : List (Hk α) := if h.old = [] ∧ h.new = [] then l else h :: l
/-- The walk through both lists from place i of the first one on; h: the hunk that is open. -/
def walk : Nat → Nat → List α → List α → Hk α → List (Hk α)
  | 0, _, _, _, h => flush h []
  | f + 1, i, x :: a, y :: b, h =>
    if x = y then flush h (walk f (i + 1) a b ⟨i + 1, [], []⟩)
    else if lcs (x :: a) b ≤ lcs a (y :: b) then walk f (i + 1) a (y :: b) ⟨h.at_, h.old ++ [x], h.new⟩
    else walk f i (x :: a) b ⟨h.at_, h.old, h.new ++ [y]⟩
  | f + 1, i, x :: a, [], h => walk f (i + 1) a [] ⟨h.at_, h.old ++ [x], h.new⟩
  | f + 1, i, [], y :: b, h => walk f i [] b ⟨h.at_, h.old, h.new ++ [y]⟩
  | f + 1, i, [], [], h => flush h []
/-- The hunks by which two lists differ. -/
def hunks (a b : List α) : List (Hk α) := walk (a.length + b.length) 0 a b ⟨0, [], []⟩

/-- The first hunk is not below place e. -/
def From (e : Nat) : List (Hk α) → Prop
  | [] => True
  | h :: _ => e ≤ h.at_
/-- May hunks be? -/
def May : List (Hk α) → Prop
  | [] => True
  | h :: l => (h.old ≠ [] ∨ h.new ≠ []) ∧ From (h.at_ + h.old.length + 1) l ∧ May l
theorem From.mono {e e' : Nat} {l : List (Hk α)} (h : From e l) (he : e' ≤ e) : From e' l := by
  cases l with
  | nil => trivial
  | cons g l => exact Nat.le_trans he h
end
end Go.Proofs.YtempamboacbgiaaDoor
namespace Go.Proofs.YtempamboacbgiaaDoor
open Go.RowKit
set_option linter.unusedVariables false

/-- A hunk as it lies: its place, and both slices, with the lines that they hold. -/
structure Hm where
  at_ : Int
  a1 : Option Addr
  c1 : Nat
  old : List (List UInt8)
  a2 : Option Addr
  c2 : Nat
  new : List (List UInt8)
def Hm.cells (h : Hm) : List Value := [.int .i64 h.at_, .slice h.a1 h.old.length h.c1, .slice h.a2 h.new.length h.c2]
/-- Both slices' lines lie below B. -/
structure Hm.Ok (h : Hm) (w : World) (B : Nat) : Prop where
  old : Strs w B h.a1 (toBs h.old)
  new : Strs w B h.a2 (toBs h.new)
  r1 : Room h.a1 h.old.length h.c1
  r2 : Room h.a2 h.new.length h.c2
  lo : -9223372036854775808 ≤ h.at_
  hi : h.at_ ≤ 9223372036854775807
  n1 : h.old.length ≤ 9223372036854775807
  n2 : h.new.length ≤ 9223372036854775807
/-- Hunks lie at A, three cells each, in a block below B. -/
structure Hks (w : World) (B : Nat) (A : Option Addr) (hs : List Hm) : Prop where
  at_ : 0 < hs.length → ∃ b off, A = some ⟨b, off, none⟩ ∧ b < B ∧ ∀ j (h : j < hs.length), w.cell? ⟨b, off + j * 3, none⟩ = some (.int .i64 hs[j].at_) ∧
    w.cell? ⟨b, off + j * 3 + 1, none⟩ = some (.slice hs[j].a1 hs[j].old.length hs[j].c1) ∧ w.cell? ⟨b, off + j * 3 + 2, none⟩ = some (.slice hs[j].a2 hs[j].new.length hs[j].c2)
  ok : ∀ h ∈ hs, h.Ok w B

section
variable {w w' : World} {B B' : Nat} {A : Option Addr} {hs : List Hm} {h : Hm}
theorem Hm.Ok.below (k : h.Ok w B) (hb : Below B w w') : h.Ok w' B := ⟨k.old.below hb, k.new.below hb, k.r1, k.r2, k.lo, k.hi, k.n1, k.n2⟩
theorem Hm.Ok.more (k : h.Ok w B) (hB : B ≤ B') : h.Ok w B' := ⟨k.old.more hB, k.new.more hB, k.r1, k.r2, k.lo, k.hi, k.n1, k.n2⟩
theorem Hm.Ok.on (k : h.Ok w w.heap.size) (hb : Below w.heap.size w w') : h.Ok w' w'.heap.size := (k.below hb).more hb.size
theorem Hks.below (k : Hks w B A hs) (hb : Below B w w') : Hks w' B A hs :=
  ⟨fun hp => by
    obtain ⟨b, off, e, hlt, hc⟩ := k.at_ hp
    refine ⟨b, off, e, hlt, fun j hj => ?_⟩
    obtain ⟨h1, h2, h3⟩ := hc j hj
    exact ⟨(hb.cell (p := ⟨b, _, none⟩) hlt).trans h1, (hb.cell (p := ⟨b, _, none⟩) hlt).trans h2, (hb.cell (p := ⟨b, _, none⟩) hlt).trans h3⟩, fun h hh => (k.ok h hh).below hb⟩
theorem Hks.more (k : Hks w B A hs) (hB : B ≤ B') : Hks w B' A hs :=
  ⟨fun hp => by
    obtain ⟨b, off, e, hlt, hc⟩ := k.at_ hp
    exact ⟨b, off, e, by omega, hc⟩, fun h hh => (k.ok h hh).more hB⟩
theorem Hks.on (k : Hks w w.heap.size A hs) (hb : Below w.heap.size w w') : Hks w' w'.heap.size A hs := (k.below hb).more hb.size
theorem Hks.nil : Hks w B A [] := ⟨fun h => absurd h (by simp), fun h hh => by cases hh⟩
theorem Hks.get (k : Hks w B A hs) {j : Nat} (hj : j < hs.length) : ∃ b off, A = some ⟨b, off, none⟩ ∧ b < B ∧ w.cell? ⟨b, off + j * 3, none⟩ = some (.int .i64 hs[j].at_) ∧
    w.cell? ⟨b, off + j * 3 + 1, none⟩ = some (.slice hs[j].a1 hs[j].old.length hs[j].c1) ∧ w.cell? ⟨b, off + j * 3 + 2, none⟩ = some (.slice hs[j].a2 hs[j].new.length hs[j].c2) := by
  obtain ⟨b, off, e, hlt, hc⟩ := k.at_ (by omega)
  exact ⟨b, off, e, hlt, hc j hj⟩
end

/-- A hunk of its own lies in block g. -/
def HunkAt (w : World) (g : Nat) (h : Hm) : Prop := w.heap[g]? = some (.cells h.cells.toArray 44 (0, 0))
section
variable {w w' : World} {g : Nat} {h : Hm}
theorem HunkAt.c0 (k : HunkAt w g h) : w.cell? ⟨g, 0, none⟩ = some (.int .i64 h.at_) := by simp [World.cell?, show w.heap[g]? = _ from k, Hm.cells]
theorem HunkAt.c1 (k : HunkAt w g h) : w.cell? ⟨g, 1, none⟩ = some (.slice h.a1 h.old.length h.c1) := by simp [World.cell?, show w.heap[g]? = _ from k, Hm.cells]
theorem HunkAt.c2 (k : HunkAt w g h) : w.cell? ⟨g, 2, none⟩ = some (.slice h.a2 h.new.length h.c2) := by simp [World.cell?, show w.heap[g]? = _ from k, Hm.cells]
theorem HunkAt.f (k : HunkAt w g h) (i : Nat) : w.frozen? ⟨g, i, none⟩ = false := by simp [World.frozen?, show w.heap[g]? = _ from k]
theorem HunkAt.lt (k : HunkAt w g h) : g < w.heap.size := (Array.getElem?_eq_some_iff.1 k).1
theorem HunkAt.on (k : HunkAt w g h) (hb : Below w.heap.size w w') : HunkAt w' g h := (hb.block g k.lt).trans k
theorem HunkAt.grown {row : Option Nat} (k : HunkAt w g h) (hg : w.grownBy w' row) (hr : row ≠ some g) : HunkAt w' g h := (hg.block g k.lt (fun e => hr e.symm)).trans k
theorem HunkAt.new_ (w : World) (h : Hm) : HunkAt (w.alloc (.cells h.cells.toArray 44)) w.heap.size h := heap_alloc_new w _
end

/-- May a hunk be? e: the end of the hunk ahead. -/
def okAt (e : Option Int) (h : Hm) : Bool := decide (0 ≤ h.at_ ∧ ¬ (h.old.length = 0 ∧ h.new.length = 0) ∧ ∀ x ∈ e, x < h.at_)
def mayF : Option Int → List Hm → Bool
  | _, [] => true
  | e, h :: l => okAt e h && mayF (some (h.at_ + h.old.length)) l
def mayB (hs : List Hm) : Bool := mayF none hs
/-- The end of the hunk ahead of place k. -/
def endOf (hs : List Hm) (k : Nat) : Option Int := if h : 0 < k ∧ k ≤ hs.length then some (hs[k - 1].at_ + hs[k - 1].old.length) else none
theorem endOf_zero (hs : List Hm) : endOf hs 0 = none := by simp [endOf]
theorem endOf_succ (hs : List Hm) (k : Nat) (h : k < hs.length) : endOf hs (k + 1) = some (hs[k].at_ + hs[k].old.length) := by
  unfold endOf
  rw [dif_pos ⟨by omega, by omega⟩]
  rfl
theorem hk_drop (hs : List Hm) (k : Nat) (h : k < hs.length) : hs.drop k = hs[k] :: hs.drop (k + 1) := List.drop_eq_getElem_cons h
theorem mayF_step {hs : List Hm} {e : Option Int} {k : Nat} (h : k < hs.length) : mayF e (hs.drop k) = (okAt e hs[k] && mayF (some (hs[k].at_ + hs[k].old.length)) (hs.drop (k + 1))) := by
  rw [hk_drop hs k h]; rfl
theorem mayF_neg {hs : List Hm} {e : Option Int} {k : Nat} (h : k < hs.length) (h0 : hs[k].at_ < 0) : mayF e (hs.drop k) = false := by
  have : okAt e hs[k] = false := by unfold okAt; rw [decide_eq_false_iff_not]; intro h; omega
  rw [mayF_step h, this]; rfl
theorem mayF_none {hs : List Hm} {e : Option Int} {k : Nat} (h : k < hs.length) (h0 : hs[k].old.length = 0) (h1 : hs[k].new.length = 0) : mayF e (hs.drop k) = false := by
  have : okAt e hs[k] = false := by unfold okAt; rw [decide_eq_false_iff_not]; exact fun h => h.2.1 ⟨h0, h1⟩
  rw [mayF_step h, this]; rfl
theorem mayF_near {hs : List Hm} {k : Nat} (h : k + 1 < hs.length) (h0 : hs[k + 1].at_ ≤ hs[k].at_ + hs[k].old.length) : mayF (endOf hs (k + 1)) (hs.drop (k + 1)) = false := by
  have : okAt (endOf hs (k + 1)) hs[k + 1] = false := by
    rw [endOf_succ hs k (by omega)]
    unfold okAt; rw [decide_eq_false_iff_not]
    intro h
    have := h.2.2 _ rfl
    omega
  rw [mayF_step h, this]; rfl
theorem mayF_first {hs : List Hm} (h : 0 < hs.length) (h0 : 0 ≤ hs[0].at_) (h1 : ¬ (hs[0].old.length = 0 ∧ hs[0].new.length = 0)) : mayF (endOf hs 0) (hs.drop 0) = mayF (endOf hs 1) (hs.drop 1) := by
  have : okAt (endOf hs 0) hs[0] = true := by
    rw [endOf_zero]
    unfold okAt; rw [decide_eq_true_eq]
    exact ⟨h0, h1, fun x hx => by cases hx⟩
  rw [mayF_step h, this, endOf_succ hs 0 h]; rfl
theorem mayF_next {hs : List Hm} {k : Nat} (h : k + 1 < hs.length) (h0 : 0 ≤ hs[k + 1].at_) (h1 : ¬ (hs[k + 1].old.length = 0 ∧ hs[k + 1].new.length = 0)) (h2 : hs[k].at_ + hs[k].old.length < hs[k + 1].at_) :
    mayF (endOf hs (k + 1)) (hs.drop (k + 1)) = mayF (endOf hs (k + 2)) (hs.drop (k + 2)) := by
  have : okAt (endOf hs (k + 1)) hs[k + 1] = true := by
    rw [endOf_succ hs k (by omega)]
    unfold okAt; rw [decide_eq_true_eq]
    exact ⟨h0, h1, fun x hx => by cases hx; exact h2⟩
  rw [mayF_step h, this, endOf_succ hs (k + 1) h]; rfl
end Go.Proofs.YtempamboacbgiaaDoor
namespace Go.Proofs.YtempamboacbgiaaDoor
open Go.RowKit
set_option linter.unusedVariables false

/-- A step as it lies: its parts, and both slices, with the lines that they hold. -/
structure Pm where
  kind : Int
  p : ByteArray
  dst : ByteArray
  at_ : Int
  a1 : Option Addr
  c1 : Nat
  old : List (List UInt8)
  a2 : Option Addr
  c2 : Nat
  new : List (List UInt8)
def Pm.cells (x : Pm) : List Value := [.int .i64 x.kind, .string x.p, .string x.dst, .int .i64 x.at_, .slice x.a1 x.old.length x.c1, .slice x.a2 x.new.length x.c2]
def Pm.val (x : Pm) : Value := .agg #[.int .i64 x.kind, .string x.p, .string x.dst, .int .i64 x.at_, .slice x.a1 x.old.length x.c1, .slice x.a2 x.new.length x.c2]
def Pm.key (x : Pm) : Pk := ⟨x.kind, x.p.data.toList, x.dst.data.toList, x.at_, x.old, x.new⟩
def Pm.hm (x : Pm) : Hm := ⟨x.at_, x.a1, x.c1, x.old, x.a2, x.c2, x.new⟩
def pkeys (ps : List Pm) : List Pk := ps.map Pm.key
theorem pkeys_len (ps : List Pm) : (pkeys ps).length = ps.length := by simp [pkeys]
/-- Both slices' lines lie below B. -/
structure Pm.Ok (x : Pm) (w : World) (B : Nat) : Prop where
  h : x.hm.Ok w B
  p : x.p.size ≤ 9223372036854775807
  q : x.dst.size ≤ 9223372036854775807
  lo : -9223372036854775808 ≤ x.kind
  hi : x.kind ≤ 9223372036854775807
/-- A step that is not far too long. -/
structure Pm.Light (x : Pm) : Prop where
  p : x.p.size ≤ 300
  q : x.dst.size ≤ 300
  old : LightK x.old
  new : LightK x.new
/-- A step that is not far too long, behind others were laid to it. -/
structure Pm.Mid (x : Pm) : Prop where
  p : x.p.size ≤ 300
  q : x.dst.size ≤ 300
  old : MidK x.old
  new : MidK x.new
theorem Pm.Light.mid {x : Pm} (h : x.Light) : x.Mid := ⟨h.p, h.q, h.old.mid, h.new.mid⟩
/-- Steps lie at A, six cells each, in a block below B. -/
structure Ps (w : World) (B : Nat) (A : Option Addr) (ps : List Pm) : Prop where
  at_ : 0 < ps.length → ∃ b off, A = some ⟨b, off, none⟩ ∧ b < B ∧ ∀ j (h : j < ps.length), w.cell? ⟨b, off + j * 6, none⟩ = some (.int .i64 ps[j].kind) ∧ w.cell? ⟨b, off + j * 6 + 1, none⟩ = some (.string ps[j].p) ∧
    w.cell? ⟨b, off + j * 6 + 2, none⟩ = some (.string ps[j].dst) ∧ w.cell? ⟨b, off + j * 6 + 3, none⟩ = some (.int .i64 ps[j].at_) ∧ w.cell? ⟨b, off + j * 6 + 4, none⟩ = some (.slice ps[j].a1 ps[j].old.length ps[j].c1) ∧ w.cell? ⟨b, off + j * 6 + 5, none⟩ = some (.slice ps[j].a2 ps[j].new.length ps[j].c2)
  ok : ∀ x ∈ ps, x.Ok w B

section
variable {w w' : World} {B B' : Nat} {A : Option Addr} {ps : List Pm} {x : Pm}
theorem Pm.Ok.below (k : x.Ok w B) (hb : Below B w w') : x.Ok w' B := ⟨k.h.below hb, k.p, k.q, k.lo, k.hi⟩
theorem Pm.Ok.more (k : x.Ok w B) (hB : B ≤ B') : x.Ok w B' := ⟨k.h.more hB, k.p, k.q, k.lo, k.hi⟩
theorem Pm.Ok.on (k : x.Ok w w.heap.size) (hb : Below w.heap.size w w') : x.Ok w' w'.heap.size := (k.below hb).more hb.size
theorem Ps.below (k : Ps w B A ps) (hb : Below B w w') : Ps w' B A ps :=
  ⟨fun hp => by
    obtain ⟨b, off, e, hlt, hc⟩ := k.at_ hp
    refine ⟨b, off, e, hlt, fun j hj => ?_⟩
    obtain ⟨h1, h2, h3, h4, h5, h6⟩ := hc j hj
    have c := fun i => hb.cell (p := ⟨b, i, none⟩) hlt
    exact ⟨(c _).trans h1, (c _).trans h2, (c _).trans h3, (c _).trans h4, (c _).trans h5, (c _).trans h6⟩, fun h hh => (k.ok h hh).below hb⟩
theorem Ps.more (k : Ps w B A ps) (hB : B ≤ B') : Ps w B' A ps :=
  ⟨fun hp => by
    obtain ⟨b, off, e, hlt, hc⟩ := k.at_ hp
    exact ⟨b, off, e, by omega, hc⟩, fun h hh => (k.ok h hh).more hB⟩
theorem Ps.on (k : Ps w w.heap.size A ps) (hb : Below w.heap.size w w') : Ps w' w'.heap.size A ps := (k.below hb).more hb.size
theorem Ps.nil : Ps w B A [] := ⟨fun h => absurd h (by simp), fun h hh => by cases hh⟩
theorem Ps.get (k : Ps w B A ps) {j : Nat} (hj : j < ps.length) : ∃ b off, A = some ⟨b, off, none⟩ ∧ b < B ∧ w.cell? ⟨b, off + j * 6, none⟩ = some (.int .i64 ps[j].kind) ∧ w.cell? ⟨b, off + j * 6 + 1, none⟩ = some (.string ps[j].p) ∧
    w.cell? ⟨b, off + j * 6 + 2, none⟩ = some (.string ps[j].dst) ∧ w.cell? ⟨b, off + j * 6 + 3, none⟩ = some (.int .i64 ps[j].at_) ∧ w.cell? ⟨b, off + j * 6 + 4, none⟩ = some (.slice ps[j].a1 ps[j].old.length ps[j].c1) ∧ w.cell? ⟨b, off + j * 6 + 5, none⟩ = some (.slice ps[j].a2 ps[j].new.length ps[j].c2) := by
  obtain ⟨b, off, e, hlt, hc⟩ := k.at_ (by omega)
  exact ⟨b, off, e, hlt, hc j hj⟩
end

/-- A step of its own lies in block g. -/
def PrimAt (w : World) (g : Nat) (x : Pm) : Prop := w.heap[g]? = some (.cells x.cells.toArray 24 (0, 0))
section
variable {w w' : World} {g : Nat} {x : Pm}
theorem PrimAt.c0 (k : PrimAt w g x) : w.cell? ⟨g, 0, none⟩ = some (.int .i64 x.kind) := by simp [World.cell?, show w.heap[g]? = _ from k, Pm.cells]
theorem PrimAt.c1 (k : PrimAt w g x) : w.cell? ⟨g, 1, none⟩ = some (.string x.p) := by simp [World.cell?, show w.heap[g]? = _ from k, Pm.cells]
theorem PrimAt.c2 (k : PrimAt w g x) : w.cell? ⟨g, 2, none⟩ = some (.string x.dst) := by simp [World.cell?, show w.heap[g]? = _ from k, Pm.cells]
theorem PrimAt.c3 (k : PrimAt w g x) : w.cell? ⟨g, 3, none⟩ = some (.int .i64 x.at_) := by simp [World.cell?, show w.heap[g]? = _ from k, Pm.cells]
theorem PrimAt.c4 (k : PrimAt w g x) : w.cell? ⟨g, 4, none⟩ = some (.slice x.a1 x.old.length x.c1) := by simp [World.cell?, show w.heap[g]? = _ from k, Pm.cells]
theorem PrimAt.c5 (k : PrimAt w g x) : w.cell? ⟨g, 5, none⟩ = some (.slice x.a2 x.new.length x.c2) := by simp [World.cell?, show w.heap[g]? = _ from k, Pm.cells]
theorem PrimAt.fz (k : PrimAt w g x) (i : Nat) : w.frozen? ⟨g, i, none⟩ = false := by simp [World.frozen?, show w.heap[g]? = _ from k]
theorem PrimAt.lt (k : PrimAt w g x) : g < w.heap.size := (Array.getElem?_eq_some_iff.1 k).1
theorem PrimAt.on (k : PrimAt w g x) (hb : Below w.heap.size w w') : PrimAt w' g x := (hb.block g k.lt).trans k
theorem PrimAt.grown {row : Option Nat} (k : PrimAt w g x) (hg : w.grownBy w' row) (hr : row ≠ some g) : PrimAt w' g x := (hg.block g k.lt (fun e => hr e.symm)).trans k
theorem PrimAt.new_ (w : World) (x : Pm) : PrimAt (w.alloc (.cells x.cells.toArray 24)) w.heap.size x := heap_alloc_new w _
end

def pcells (ps : List Pm) : List Value := ps.flatMap Pm.cells
theorem pcells_len : ∀ (ps : List Pm), (pcells ps).length = ps.length * 6
  | [] => rfl
  | h :: ps => by
    have := pcells_len ps
    simp only [pcells, List.flatMap_cons, List.length_append, List.length_cons] at *
    rw [this]
    show 6 + _ = _
    omega
theorem pcells_get : ∀ (ps : List Pm) (j : Nat) (hj : j < ps.length), (pcells ps)[j * 6]? = some (.int .i64 ps[j].kind) ∧ (pcells ps)[j * 6 + 1]? = some (.string ps[j].p) ∧ (pcells ps)[j * 6 + 2]? = some (.string ps[j].dst) ∧ (pcells ps)[j * 6 + 3]? = some (.int .i64 ps[j].at_) ∧
    (pcells ps)[j * 6 + 4]? = some (.slice ps[j].a1 ps[j].old.length ps[j].c1) ∧ (pcells ps)[j * 6 + 5]? = some (.slice ps[j].a2 ps[j].new.length ps[j].c2)
  | h :: ps, 0, hj => ⟨rfl, rfl, rfl, rfl, rfl, rfl⟩
  | h :: ps, j + 1, hj => by
    have ih := pcells_get ps j (by simpa using hj)
    have e : ∀ r, (pcells (h :: ps))[(j + 1) * 6 + r]? = (pcells ps)[j * 6 + r]? := by
      intro r
      have e1 : pcells (h :: ps) = h.cells ++ pcells ps := rfl
      rw [e1, List.getElem?_append_right (by show 6 ≤ _; omega)]
      congr 1
      show _ - 6 = _
      omega
    have e0 := e 0
    rw [Nat.add_zero, Nat.add_zero] at e0
    rw [e0, e 1, e 2, e 3, e 4, e 5]
    exact ih
theorem pcells_app (a b : List Pm) : pcells (a ++ b) = pcells a ++ pcells b := by simp [pcells]
/-- A slice of steps that the call made. -/
def OwnP (w : World) (B : Nat) (v : Value) (ps : List Pm) : Prop := w.ownsRow B 24 6 v ps.length (pcells ps)
theorem OwnP.nil (w : World) (B : Nat) : OwnP w B (.slice none 0 0) [] := w.ownsRow_nil B 24 6
theorem OwnP.ps {w : World} {B : Nat} {v : Value} {ps : List Pm} (h : OwnP w B v ps) (hok : ∀ x ∈ ps, x.Ok w w.heap.size) : ∃ A cap, v = .slice A ps.length cap ∧ Ps w w.heap.size A ps ∧ Room A ps.length cap := by
  have h' := h
  rcases h.2 with ⟨rfl, h0⟩ | ⟨g, cap, cur, rfl, _, hg, hcap, _⟩
  · have e : ps = [] := List.length_eq_zero_iff.1 h0
    subst e
    exact ⟨none, 0, rfl, Ps.nil, fun _ => rfl, Nat.le_refl _⟩
  · refine ⟨_, cap, rfl, ⟨fun hp => ⟨g, 0, rfl, (Array.getElem?_eq_some_iff.1 hg).1, fun j hj => ?_⟩, hok⟩, (fun e => by cases e), hcap⟩
    obtain ⟨c0, c1, c2, c3, c4, c5⟩ := pcells_get ps j hj
    have e : ∀ i, (⟨g, 0, none⟩ : Addr).add i = ⟨g, i, none⟩ := fun i => by unfold Addr.add; split <;> simp_all
    have k0 := h'.cells (g := g) rfl _ _ c0
    have k1 := h'.cells (g := g) rfl _ _ c1
    have k2 := h'.cells (g := g) rfl _ _ c2
    have k3 := h'.cells (g := g) rfl _ _ c3
    have k4 := h'.cells (g := g) rfl _ _ c4
    have k5 := h'.cells (g := g) rfl _ _ c5
    rw [e] at k0 k1 k2 k3 k4 k5
    rw [Nat.zero_add]
    exact ⟨k0, k1, k2, k3, k4, k5⟩
theorem OwnP.kept {w w' : World} {B : Nat} {v : Value} {ps : List Pm} (h : OwnP w B v ps) (hb : Below w.heap.size w w') : OwnP w' B v ps :=
  World.ownsRow.kept h (row := none) ⟨hb.os, hb.tape, hb.output, hb.size, fun i hi _ => hb.block i hi⟩ (by cases v.ownBlock <;> simp)
theorem ownBlock_gep {w : World} {B : Nat} {v : Value} {ps : List Pm} (h : OwnP w B v ps) : ∀ k, v.ownBlock = some k → B ≤ k := fun k hk => (World.ownsRow.lt h k hk).1
theorem below_appendp {w0 w w' : World} {B : Nat} {v : Value} {ps : List Pm} (hb : Below B w0 w) (ho : OwnP w B v ps) (hg : w.grownBy w' v.ownBlock) (hB : B ≤ w0.heap.size) : Below B w0 w' :=
  hb.grown hg (Nat.le_trans hB hb.size) (ownBlock_gep ho)
theorem info_prim : (Tryd.prog.info? 24).map (fun i => (i.zero, i.size, i.bytes)) = some (some (.agg #[.int .i64 0, .string ByteArray.empty, .string ByteArray.empty, .int .i64 0, .slice none 0 0, .slice none 0 0]), 6, 96) := by kernel_rfl
theorem wpList_append_prim {w : World} {ops : Array Oper} {rest : List Oper} {o : Oper} {a : Act} {Q : Exit → Act → World → Prop} (hgd : o.guard = none) (s x : Operand)
    (ho : o.op = .call { callee := .builtin .append, args := #[s, x], argTypes := #[26, 26] })
    (B : Nat) (v : Value) (hs : List Pm) (hv : a.eval s = v) (hown : OwnP w B v hs) (h : Pm) (b : Nat) (hx : a.eval x = .slice (some ⟨b, 0, none⟩) 1 1) (hb : PrimAt w b h) (hB : B ≤ w.heap.size) (hle : hs.length ≤ 100000)
    (H : Nat) (hH : w.heap.size = H)
    (k : ∀ g cap w', OwnP w' B (.slice (some ⟨g, 0, none⟩) (hs.length + 1) cap) (hs ++ [h]) → w.grownBy w' v.ownBlock → (v.ownBlock = some g ∨ g = H) → wpList Tryd.prog ops Q rest (a.put o.dst (.slice (some ⟨g, 0, none⟩) (hs.length + 1) cap)) w') : wpList Tryd.prog ops Q (o :: rest) a w := by
  obtain ⟨i0, hi, hz0, hz1, hz2⟩ := info_parts info_prim
  refine wpList_append_lies w hgd s x 26 ho B 24 i0 _ 6 96 Tryd.underlying26 hi hz0 hz1 hz2 rfl (by decide) v hs.length (pcells hs) hv hown ⟨b, 0, none⟩ 1 1 h.cells hx rfl ?_ ?_ (by decide) (by unfold maxLen; omega) (by omega) hB H hH ?_
  · exact World.news_of_block hb
  · intro u hu
    simp only [Pm.cells, List.mem_cons, List.not_mem_nil, or_false] at hu
    rcases hu with rfl | rfl | rfl | rfl | rfl | rfl <;> rfl
  · intro g cap w' ho' hg hat _
    refine k g cap w' ?_ hg hat
    unfold OwnP
    rw [List.length_append]
    have e : pcells (hs ++ [h]) = pcells hs ++ h.cells := by simp [pcells]
    rw [e]
    exact ho'
theorem sized_prim : (Tryd.prog.info? 24).map (·.size) = some 6 := by kernel_rfl
theorem load_primv {w : World} {g : Nat} {x : Pm} (k : PrimAt w g x) : (loadVar 24 ⟨g, 0, none⟩).run Tryd.prog w = .ok (.agg x.cells.toArray) w :=
  run_loadVar_row w g 24 24 x.cells.toArray (0, 0) _ k Tryd.underlying24 rfl sized_prim
/-- A step handed back by value. -/
theorem ret_prim {fn : Func} {p : Tmp} (h : fn.results = #[.cell p 24]) (tmps : Array Value) (w : World) (g : Nat) (x : Pm) (hp : tmps.getD p undef = .pointer (some ⟨g, 0, none⟩)) (k : PrimAt w g x) :
    (results fn tmps).run Tryd.prog w = .ok (.agg x.cells.toArray) w :=
  results_cell_row h tmps w g 24 _ (0, 0) _ hp k Tryd.underlying24 rfl sized_prim
/-- A step written over, cell by cell. -/
def setPrim (w : World) (g : Nat) (x : Pm) : World := (((((w.setCell ⟨g, 0, none⟩ (.int .i64 x.kind)).setCell ⟨g, 1, none⟩ (.string x.p)).setCell ⟨g, 2, none⟩ (.string x.dst)).setCell ⟨g, 3, none⟩ (.int .i64 x.at_)).setCell ⟨g, 4, none⟩ (.slice x.a1 x.old.length x.c1)).setCell ⟨g, 5, none⟩ (.slice x.a2 x.new.length x.c2)
theorem setPrim_at {w : World} {g : Nat} {x0 : Pm} (k : PrimAt w g x0) (x : Pm) : PrimAt (setPrim w g x) g x := by
  unfold PrimAt at k ⊢
  simp [setPrim, World.setCell, Array.getElem?_modify, k, Pm.cells]
theorem setPrim_grown (w : World) (g : Nat) (x : Pm) : w.grownBy (setPrim w g x) (some g) :=
  grown_on (grown_on (grown_on (grown_on (grown_on (grown_cell _ _ _ _) (grown_cell _ _ _ _)) (grown_cell _ _ _ _)) (grown_cell _ _ _ _)) (grown_cell _ _ _ _)) (grown_cell _ _ _ _)
theorem below_prim {w0 w : World} {B g : Nat} (x : Pm) (h : Below B w0 w) (hg : B ≤ g) (hB : B ≤ w.heap.size) : Below B w0 (setPrim w g x) :=
  h.grown (setPrim_grown w g x) hB fun k hk => by simp only [Option.some.injEq] at hk; omega
end Go.Proofs.YtempamboacbgiaaDoor
