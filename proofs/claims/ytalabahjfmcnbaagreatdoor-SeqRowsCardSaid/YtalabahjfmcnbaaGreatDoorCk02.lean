/- Package tree's at; the library's IndexFunc over it. Variables of trees and files; trees and files handed back by value. Package tree's look. Rows of files that a call made, written over. The library's DeleteFunc over package tree's at. The library's Clone over a row of files; package tree's without. Paths, plainly: their names; names joined; one order of paths. name.Right, and the reference's Right. The reference's Names, Right, Join, Begins, Less of layer 5. A part of a row of strings: what slicing gives, in one way. Paths, plainly: where a path is cut, what lies within it, how it is moved, within which it lies; for any test of names that no slash passes. What package path's calls are to do, as words: each is to be proved of the landed code. -/
import Derived.Laws.Rows
import Derived.Laws.ResultCell
import Derived.Deep.RegionHeld3
import Derived.Lib.SliceRun
import Derived.Laws.IdiomCopy
import Derived.Test.YtalabahjfmcnbaaGreatDoorShelf
import Derived.BigQuiet
import Derived.Deep.QuietTactic
import Derived.Handy
import Derived.Test.YtalabahjfmcnbaaGreatDoorCk01
namespace Go.Proofs.YtalabahjfmcnbaaGreatDoor
open Go.RowKit
set_option linter.unusedVariables false

end Go.Proofs.YtalabahjfmcnbaaGreatDoor
namespace Go.Proofs.YtalabahjfmcnbaaGreatDoor
open Go.RowKit
set_option linter.unusedVariables false

/-- A variable of a tree, in block G. -/
def TAt (w : World) (G : Nat) (A : Option Addr) (n c : Nat) : Prop := w.heap[G]? = some (.cells #[.slice A n c] 43 (0, 0))
section
variable {w w' : World} {G n c : Nat} {A : Option Addr}
theorem TAt.c0 (k : TAt w G A n c) : w.cell? ⟨G, 0, none⟩ = some (.slice A n c) := by simp [World.cell?, show w.heap[G]? = _ from k]
theorem TAt.fz (k : TAt w G A n c) (i : Nat) : w.frozen? ⟨G, i, none⟩ = false := by simp [World.frozen?, show w.heap[G]? = _ from k]
theorem TAt.lt (k : TAt w G A n c) : G < w.heap.size := (Array.getElem?_eq_some_iff.1 k).1
theorem TAt.on (k : TAt w G A n c) (hb : Below w.heap.size w w') : TAt w' G A n c := (hb.block G k.lt).trans k
theorem TAt.grown {row : Option Nat} (k : TAt w G A n c) (hg : w.grownBy w' row) (hr : row ≠ some G) : TAt w' G A n c := (hg.block G k.lt (fun e => hr e.symm)).trans k
theorem TAt.new_ (w : World) (A : Option Addr) (n c : Nat) : TAt (w.alloc (.cells #[.slice A n c] 43)) w.heap.size A n c := heap_alloc_new w _
theorem TAt.set (k : TAt w G A n c) (A' : Option Addr) (n' c' : Nat) : TAt (w.setCell ⟨G, 0, none⟩ (.slice A' n' c')) G A' n' c' := by
  unfold TAt at k ⊢
  simp [World.setCell, Array.getElem?_modify, k]
end
end Go.Proofs.YtalabahjfmcnbaaGreatDoor
namespace Go.Proofs.YtalabahjfmcnbaaGreatDoor
open Go.RowKit
set_option linter.unusedVariables false

def Fm.zero : Fm := ⟨⟨#[]⟩, false, none, 0, []⟩
end Go.Proofs.YtalabahjfmcnbaaGreatDoor
namespace Go.Proofs.YtalabahjfmcnbaaGreatDoor
open Go.RowKit
set_option linter.unusedVariables false

/-- A row of files in block g, from its beginning on; room for cap. -/
structure RowAt (w : World) (g cap : Nat) (d : List Fm) : Prop where
  h : ∃ cur, w.heap[g]? = some (.cells cur 62 (0, 0)) ∧ cur.size = cap * 3 ∧ cur.toList.take (d.length * 3) = fcells d
  len : d.length ≤ cap
  max : cap ≤ maxLen
section
variable {w w' : World} {g cap : Nat} {d : List Fm}
theorem RowAt.own (k : RowAt w g cap d) {B : Nat} (hB : B ≤ g) : OwnF w B (.slice (some ⟨g, 0, none⟩) d.length cap) d := by
  obtain ⟨cur, h1, h2, h3⟩ := k.h
  exact ⟨fcells_len d, .inr ⟨g, cap, cur, rfl, hB, h1, k.len, k.max, h2, h3⟩⟩
theorem RowAt.lt (k : RowAt w g cap d) : g < w.heap.size := by
  obtain ⟨cur, h1, _⟩ := k.h
  exact (Array.getElem?_eq_some_iff.1 h1).1
theorem RowAt.cell (k : RowAt w g cap d) {j : Nat} (hj : j < d.length) {r : Nat} {u : Value} (hu : (fcells d)[j * 3 + r]? = some u) (hr : r < 3) : w.cell? ⟨g, j * 3 + r, none⟩ = some u := by
  obtain ⟨cur, h1, h2, h3⟩ := k.h
  rw [← h3, List.getElem?_take, if_pos (by omega), Array.getElem?_toList] at hu
  simp only [World.cell?, h1, Option.isSome_none, Bool.false_eq_true, if_false]
  exact hu
theorem RowAt.get (k : RowAt w g cap d) {j : Nat} (hj : j < d.length) : w.cell? ⟨g, j * 3, none⟩ = some (.string d[j].p) ∧ w.cell? ⟨g, j * 3 + 1, none⟩ = some (.bool d[j].d) ∧ w.cell? ⟨g, j * 3 + 2, none⟩ = some (.slice d[j].a d[j].ls.length d[j].c) := by
  obtain ⟨d0, d1, d2⟩ := fcells_get d j hj
  exact ⟨k.cell (r := 0) hj (by simpa using d0) (by omega), k.cell hj d1 (by omega), k.cell hj d2 (by omega)⟩
theorem RowAt.fz (k : RowAt w g cap d) (i : Nat) : w.frozen? ⟨g, i, none⟩ = false := by
  obtain ⟨cur, h1, _⟩ := k.h
  simp [World.frozen?, h1]
theorem RowAt.on (k : RowAt w g cap d) (hb : Below w.heap.size w w') : RowAt w' g cap d := by
  obtain ⟨cur, h1, h2, h3⟩ := k.h
  exact ⟨⟨cur, (hb.block g k.lt).trans h1, h2, h3⟩, k.len, k.max⟩
theorem RowAt.take (k : RowAt w g cap d) (i : Nat) (hi : i ≤ d.length) : RowAt w g cap (d.take i) := by
  obtain ⟨cur, h1, h2, h3⟩ := k.h
  refine ⟨⟨cur, h1, h2, ?_⟩, by rw [List.length_take]; have := k.len; omega, k.max⟩
  have e : fcells d = fcells (d.take i) ++ fcells (d.drop i) := by rw [← fcells_app, List.take_append_drop]
  have hl : (fcells (d.take i)).length = i * 3 := by rw [fcells_len, List.length_take, Nat.min_eq_left hi]
  have h4 := congrArg (List.take (i * 3)) h3
  rw [List.take_take, e, List.take_left' hl, Nat.min_eq_left (by omega)] at h4
  rw [List.length_take, Nat.min_eq_left hi]
  exact h4
/-- A file written over another. -/
def putFile (w : World) (g i : Nat) (f : Fm) : World := ((w.setCell ⟨g, i * 3, none⟩ (.string f.p)).setCell ⟨g, i * 3 + 1, none⟩ (.bool f.d)).setCell ⟨g, i * 3 + 2, none⟩ (.slice f.a f.ls.length f.c)
theorem fcells_set : ∀ (d : List Fm) (i : Nat) (f : Fm), i < d.length → fcells (d.set i f) = (((fcells d).set (i * 3) (.string f.p)).set (i * 3 + 1) (.bool f.d)).set (i * 3 + 2) (.slice f.a f.ls.length f.c)
  | h :: d, 0, f, _ => rfl
  | h :: d, i + 1, f, hi => by
    have ih := fcells_set d i f (by simpa using hi)
    have e : fcells (h :: d) = Value.string h.p :: Value.bool h.d :: Value.slice h.a h.ls.length h.c :: fcells d := rfl
    have e2 : fcells ((h :: d).set (i + 1) f) = Value.string h.p :: Value.bool h.d :: Value.slice h.a h.ls.length h.c :: fcells (d.set i f) := rfl
    rw [e2, ih, e, show (i + 1) * 3 = i * 3 + 3 by omega, show i * 3 + 3 + 1 = i * 3 + 1 + 3 by omega, show i * 3 + 3 + 2 = i * 3 + 2 + 3 by omega]
    rfl
theorem RowAt.put (k : RowAt w g cap d) {i : Nat} (hi : i < d.length) (f : Fm) : RowAt (putFile w g i f) g cap (d.set i f) := by
  obtain ⟨cur, h1, h2, h3⟩ := k.h
  refine ⟨⟨((cur.setIfInBounds (i * 3) (.string f.p)).setIfInBounds (i * 3 + 1) (.bool f.d)).setIfInBounds (i * 3 + 2) (.slice f.a f.ls.length f.c), ?_, by simpa using h2, ?_⟩, by simpa using k.len, k.max⟩
  · simp [putFile, World.setCell, Array.getElem?_modify, h1]
  · rw [fcells_set d i f hi, ← h3]
    simp only [Array.toList_setIfInBounds, List.length_set, List.take_set]
end
end Go.Proofs.YtalabahjfmcnbaaGreatDoor
namespace Go.Proofs.YtalabahjfmcnbaaGreatDoor
open Go.RowKit
set_option linter.unusedVariables false

def keepF (p : ByteArray) (f : Fm) : Bool := decide (f.p ≠ p)
/-- The row as it is rewritten: what is kept of the first j files, and the files from j on. -/
structure Mid (fs d : List Fm) (p : ByteArray) (i j : Nat) : Prop where
  len : d.length = fs.length
  ij : i < j
  jn : j ≤ fs.length
  low : d.take i = (fs.take j).filter (keepF p)
  high : ∀ t (h : t < d.length) (h2 : t < fs.length), j ≤ t → d[t] = fs[t]
theorem Mid.skip {fs d : List Fm} {p : ByteArray} {i j : Nat} (m : Mid fs d p i j) (hj : j < fs.length) (he : (fs[j]'hj).p = p) : Mid fs d p i (j + 1) := by
  refine ⟨m.len, by have := m.ij; omega, by omega, ?_, fun t h h2 h3 => m.high t h h2 (by omega)⟩
  rw [List.take_succ_eq_append_getElem hj, List.filter_append, m.low]
  have e2 : [fs[j]].filter (keepF p) = [] := by simp [keepF, he]
  rw [e2, List.append_nil]
theorem Mid.keep {fs d : List Fm} {p : ByteArray} {i j : Nat} (m : Mid fs d p i j) (hj : j < fs.length) (he : (fs[j]'hj).p ≠ p) : Mid fs (d.set i (fs[j]'hj)) p (i + 1) (j + 1) := by
  have hi := m.ij
  have hl := m.len
  refine ⟨by rw [List.length_set]; exact m.len, by omega, by omega, ?_, fun t h h2 h3 => ?_⟩
  · have e2 : [fs[j]].filter (keepF p) = [fs[j]] := by simp [keepF, he]
    rw [List.take_succ_eq_append_getElem hj, List.filter_append, ← m.low, e2, List.take_succ_eq_append_getElem (by rw [List.length_set]; omega), List.getElem_set_self]
    congr 1
    rw [List.take_set_of_le (Nat.le_refl _)]
  · rw [List.getElem_set_ne (by omega)]
    rw [List.length_set] at h
    exact m.high t h h2 (by omega)

end Go.Proofs.YtalabahjfmcnbaaGreatDoor
namespace Go.Proofs.YtalabahjfmcnbaaGreatDoor
open Go.RowKit
set_option linter.unusedVariables false

theorem own_row_cases {w : World} {B : Nat} {v : Value} {fs : List Fm} (h : OwnF w B v fs) : (v = .slice none 0 0 ∧ fs = []) ∨ ∃ g cap, v = .slice (some ⟨g, 0, none⟩) fs.length cap ∧ B ≤ g ∧ RowAt w g cap fs := by
  rcases h.2 with ⟨e, h0⟩ | ⟨g, cap, cur, e, hb, hg, hle, hm, hs, ht⟩
  · exact .inl ⟨e, List.length_eq_zero_iff.1 h0⟩
  · exact .inr ⟨g, cap, e, hb, ⟨cur, hg, hs, ht⟩, hle, hm⟩
/-- A slice of a whole block's, or none. -/
def Flat (A : Option Addr) : Prop := A = none ∨ ∃ b off, A = some ⟨b, off, none⟩
theorem OwnF.grown {w w' : World} {B g : Nat} {v : Value} {fs : List Fm} (h : OwnF w B v fs) (hg : w.grownBy w' (some g)) (hB : g < B) : OwnF w' B v fs := by
  refine World.ownsRow.kept h (row := some g) hg ?_
  cases hv : v.ownBlock with
  | none => simp
  | some k =>
    have := ownBlock_gef h k hv
    simp
    omega
end Go.Proofs.YtalabahjfmcnbaaGreatDoor
namespace Go.Proofs.YtalabahjfmcnbaaGreatDoor
set_option linter.unusedVariables false
set_option linter.unusedSectionVars false

/-- What stands between slashes. -/
def pieces : List UInt8 → List (List UInt8)
  | [] => [[]]
  | c :: l => if c = 47 then [] :: pieces l else match pieces l with
    | [] => [[c]]
    | h :: t => (c :: h) :: t
/-- Names with slashes between. -/
def joinB : List (List UInt8) → List UInt8
  | [] => []
  | [x] => x
  | x :: y :: l => x ++ 47 :: joinB (y :: l)
theorem pieces_ne (p : List UInt8) : pieces p ≠ [] := by
  cases p with
  | nil => simp [pieces]
  | cons c l =>
    unfold pieces
    split
    · simp
    · split <;> simp
theorem join_cons (x : List UInt8) {l : List (List UInt8)} (h : l ≠ []) : joinB (x :: l) = x ++ 47 :: joinB l := by
  cases l with
  | nil => exact absurd rfl h
  | cons y l => rfl
theorem join_head (c : UInt8) (h : List UInt8) (t : List (List UInt8)) : joinB ((c :: h) :: t) = c :: joinB (h :: t) := by
  cases t <;> rfl
theorem join_pieces : ∀ p : List UInt8, joinB (pieces p) = p
  | [] => rfl
  | c :: l => by
    have ih := join_pieces l
    unfold pieces
    split
    · rename_i h
      rw [join_cons [] (pieces_ne l), ih, h]
      rfl
    · split
      · rename_i h
        exact absurd h (pieces_ne l)
      · rename_i h t e
        rw [join_head, ← e, ih]
theorem pieces_cut : ∀ (x r : List UInt8), (47 : UInt8) ∉ x → pieces (x ++ 47 :: r) = x :: pieces r
  | [], r, _ => by simp [pieces]
  | c :: x, r, h => by
    simp only [List.mem_cons, not_or] at h
    rw [List.cons_append, pieces, if_neg (fun e => h.1 e.symm), pieces_cut x r h.2]
theorem pieces_one : ∀ (x : List UInt8), (47 : UInt8) ∉ x → pieces x = [x]
  | [], _ => rfl
  | c :: x, h => by
    simp only [List.mem_cons, not_or] at h
    rw [pieces, if_neg (fun e => h.1 e.symm), pieces_one x h.2]
section
variable (nm : List UInt8 → Bool)
/-- A path's names; none: it is no path. -/
def names (p : List UInt8) : List (List UInt8) := if p.length ≤ 200 ∧ (pieces p).all nm = true ∧ (pieces p).length ≤ 16 then pieces p else []
theorem names_pieces {p : List UInt8} (h : names nm p ≠ []) : names nm p = pieces p ∧ p.length ≤ 200 ∧ (pieces p).all nm = true ∧ (pieces p).length ≤ 16 := by
  unfold names at h ⊢
  split at h
  · rename_i hc
    exact ⟨if_pos hc, hc⟩
  · exact absurd rfl h
theorem join_names {p : List UInt8} (h : names nm p ≠ []) : joinB (names nm p) = p := by rw [(names_pieces nm h).1, join_pieces]
theorem names_inj {p q : List UInt8} (h : names nm p = names nm q) (hp : names nm p ≠ []) : p = q := by
  rw [← join_names nm hp, h, join_names nm (h ▸ hp)]
def dirP (p : List UInt8) : List UInt8 := joinB ((names nm p).dropLast)
def beginsP (a b : List (List UInt8)) : Bool := decide (b.length ≤ a.length) && decide (a.take b.length = b)
def withinP (p d : List UInt8) : Bool := decide (names nm p ≠ []) && (decide (d = []) || decide (names nm d ≠ [])) && decide ((names nm d).length < (names nm p).length) && beginsP (names nm p) (names nm d)
/-- Lists of texts, in order: a beginning ahead of what it begins. -/
def lessL : List (List UInt8) → List (List UInt8) → Bool
  | [], [] => false
  | [], _ :: _ => true
  | _ :: _, [] => false
  | x :: a, y :: b => if x = y then lessL a b else decide (x < y)
def lessP (a b : List UInt8) : Bool := if names nm a = [] ∧ names nm b = [] then decide (a < b) else lessL (names nm a) (names nm b)
end
theorem tri (x y : List UInt8) : x < y ∨ x = y ∨ y < x := by
  by_cases h : x < y
  · exact .inl h
  · by_cases h2 : y < x
    · exact .inr (.inr h2)
    · exact .inr (.inl (List.le_antisymm (List.not_lt.1 h2) (List.not_lt.1 h)))
theorem lessL_irrefl : ∀ a : List (List UInt8), lessL a a = false
  | [] => rfl
  | x :: a => by rw [lessL, if_pos rfl, lessL_irrefl a]
theorem lessL_trans : ∀ {a b c : List (List UInt8)}, lessL a b = true → lessL b c = true → lessL a c = true
  | [], [], _, h, _ => by simp [lessL] at h
  | [], _ :: _, [], _, h => by simp [lessL] at h
  | [], _ :: _, _ :: _, _, _ => rfl
  | _ :: _, [], _, h, _ => by simp [lessL] at h
  | _ :: _, _ :: _, [], _, h => by simp [lessL] at h
  | x :: a, y :: b, z :: c, h1, h2 => by
    rw [lessL] at h1 h2 ⊢
    split at h1
    · rename_i e1
      subst e1
      split at h2
      · rename_i e2
        rw [if_pos e2]
        exact lessL_trans h1 h2
      · rename_i e2
        rw [if_neg e2]
        exact h2
    · rename_i e1
      split at h2
      · rename_i e2
        subst e2
        rw [if_neg e1]
        exact h1
      · rename_i e2
        have l1 : x < y := by simpa using h1
        have l2 : y < z := by simpa using h2
        have l3 := List.lt_trans l1 l2
        have l4 : x ≠ z := by rintro rfl; exact List.lt_irrefl x l3
        rw [if_neg l4]
        simpa using l3
theorem lessL_total : ∀ (a b : List (List UInt8)), lessL a b = true ∨ lessL b a = true ∨ a = b
  | [], [] => .inr (.inr rfl)
  | [], _ :: _ => .inl rfl
  | _ :: _, [] => .inr (.inl rfl)
  | x :: a, y :: b => by
    rw [lessL, lessL]
    by_cases e : x = y
    · subst e
      rw [if_pos rfl, if_pos rfl]
      rcases lessL_total a b with h | h | h
      · exact .inl h
      · exact .inr (.inl h)
      · exact .inr (.inr (by rw [h]))
    · rw [if_neg e, if_neg (fun k => e k.symm)]
      rcases tri x y with h | h | h
      · exact .inl (by simpa using h)
      · exact absurd h e
      · exact .inr (.inl (by simpa using h))
section
variable (nm : List UInt8 → Bool)
theorem lessP_irrefl (a : List UInt8) : lessP nm a a = false := by
  unfold lessP
  split
  · simp [List.lt_irrefl]
  · exact lessL_irrefl _
theorem lessP_trans {a b c : List UInt8} (h1 : lessP nm a b = true) (h2 : lessP nm b c = true) : lessP nm a c = true := by
  unfold lessP at h1 h2 ⊢
  by_cases ha : names nm a = [] <;> by_cases hb : names nm b = [] <;> by_cases hc : names nm c = []
  · rw [if_pos ⟨ha, hb⟩] at h1
    rw [if_pos ⟨hb, hc⟩] at h2
    rw [if_pos ⟨ha, hc⟩]
    simp only [decide_eq_true_eq] at *
    exact List.lt_trans h1 h2
  · rw [if_neg (fun k => hc k.2)]
    obtain ⟨x, l, e⟩ := List.exists_cons_of_ne_nil hc
    rw [ha, e]
    rfl
  · rw [if_neg (fun k => hb k.1), hc] at h2
    obtain ⟨x, l, e⟩ := List.exists_cons_of_ne_nil hb
    rw [e] at h2
    simp [lessL] at h2
  · rw [if_neg (fun k => hc k.2)]
    obtain ⟨x, l, e⟩ := List.exists_cons_of_ne_nil hc
    rw [ha, e]
    rfl
  · rw [if_neg (fun k => ha k.1), hb] at h1
    obtain ⟨x, l, e⟩ := List.exists_cons_of_ne_nil ha
    rw [e] at h1
    simp [lessL] at h1
  · rw [if_neg (fun k => ha k.1), hb] at h1
    obtain ⟨x, l, e⟩ := List.exists_cons_of_ne_nil ha
    rw [e] at h1
    simp [lessL] at h1
  · rw [if_neg (fun k => hb k.1), hc] at h2
    obtain ⟨x, l, e⟩ := List.exists_cons_of_ne_nil hb
    rw [e] at h2
    simp [lessL] at h2
  · rw [if_neg (fun k => ha k.1)] at h1 ⊢
    rw [if_neg (fun k => hb k.1)] at h2
    exact lessL_trans h1 h2
theorem lessP_asymm (a b : List UInt8) : ¬ (lessP nm a b = true ∧ lessP nm b a = true) := fun h => by
  have := lessP_trans nm h.1 h.2
  rw [lessP_irrefl] at this
  cases this
theorem lessP_total (a b : List UInt8) : lessP nm a b = true ∨ lessP nm b a = true ∨ a = b := by
  unfold lessP
  by_cases h : names nm a = [] ∧ names nm b = []
  · rw [if_pos h, if_pos ⟨h.2, h.1⟩]
    rcases tri a b with k | k | k
    · exact .inl (by simpa using k)
    · exact .inr (.inr k)
    · exact .inr (.inl (by simpa using k))
  · rw [if_neg h, if_neg (fun k => h ⟨k.2, k.1⟩)]
    rcases lessL_total (names nm a) (names nm b) with k | k | k
    · exact .inl k
    · exact .inr (.inl k)
    · refine .inr (.inr (names_inj nm k fun e => h ⟨e, by rw [← k]; exact e⟩))
end
/-- No slash from place a on, up to place i. -/
def NoSlash (p : List UInt8) (a i : Nat) : Prop := ∀ k, a ≤ k → k < i → p[k]? ≠ some 47
theorem NoSlash.more {p : List UInt8} {a i : Nat} (h : NoSlash p a i) (hs : p[i]? ≠ some 47) : NoSlash p a (i + 1) := fun k h1 h2 => by
  by_cases e : k = i
  · subst e; exact hs
  · exact h k h1 (by omega)
theorem NoSlash.none (p : List UInt8) (a : Nat) : NoSlash p a a := fun k h1 h2 => by omega
end Go.Proofs.YtalabahjfmcnbaaGreatDoor
namespace Go.Proofs.YtalabahjfmcnbaaGreatDoor
open Go.RowKit
set_option linter.unusedVariables false

def nameL : ByteArray := ⟨#[97, 98, 99, 100, 101, 102, 103, 104, 105, 106, 107, 108, 109, 110, 111, 112, 113, 114, 115, 116, 117, 118, 119, 120, 121, 122, 48, 49, 50, 51, 52, 53, 54, 55, 56, 57, 46, 95, 45]⟩
/-- Is each byte of a text one of these letters? -/
def allIn (L s : ByteArray) : Bool := s.data.toList.all fun c => L.data.toList.contains c
theorem indexByte_neg (c : UInt8) : ∀ l, Lib.indexByte l c < 0 ↔ l.contains c = false
  | [] => by simp [Lib.indexByte]
  | b :: l => by
    have ih := indexByte_neg c l
    have hg := Lib.indexByte_ge l c
    unfold Lib.indexByte
    by_cases h : b = c
    · subst h; simp
    · have h1 : (b == c) = false := by simpa using h
      have h2 : (c == b) = false := by simpa using fun e => h e.symm
      rw [List.contains_cons, h1, h2]
      simp only [Bool.false_eq_true, if_false, Bool.false_or]
      rw [← ih]
      split
      · rename_i h3
        have : Lib.indexByte l c = -1 := by simpa using h3
        omega
      · rename_i h3
        have : Lib.indexByte l c ≠ -1 := by simpa using h3
        omega
theorem allIn_no {L s : ByteArray} {k : Nat} (hk : k < s.size) (h : L.data.toList.contains s[k] = false) : allIn L s = false := by
  have : ¬ (s.data.toList.all fun c => L.data.toList.contains c) = true := by
    rw [List.all_eq_true]
    intro ha
    have := ha s[k] (by rw [show s[k] = s.data.toList[k]'(by simpa using hk) from rfl]; exact List.getElem_mem _)
    rw [h] at this
    cases this
  simpa [allIn] using this
theorem allIn_yes {L s : ByteArray} (h : ∀ k (hk : k < s.size), L.data.toList.contains s[k] = true) : allIn L s = true := by
  unfold allIn
  rw [List.all_eq_true]
  intro c hc
  obtain ⟨k, hk, rfl⟩ := List.getElem_of_mem hc
  exact h k (by simpa using hk)

set_option maxRecDepth 100000 in
theorem madeOf1_any (B : Nat) (L s : ByteArray) (w : World) (hB : B < w.heap.size) (hc : w.cell? ⟨B, 0, none⟩ = some (.string L)) (hs : s.size ≤ 9223372036854775807) :
    Calls Tryz.prog 182 #[.string s, .pointer (some ⟨B, 0, none⟩)] w fun e w' => e = .returned (.bool (allIn L s)) ∧ Below w.heap.size w w' := by
  go_enter Tryz.func182, Tryz.ntmps182
  go_wp2
  go_loopw [7] (fun i wr => ∃ k : Nat, k ≤ s.size ∧ i = .int .i64 (k : Int) ∧ Hid (∀ j (hj : j < s.size), j < k → L.data.toList.contains s[j] = true) ∧ Below w.heap.size w wr) (fun i _ => s.size - (intOf i).toNat)
  case atStart => exact ⟨0, Nat.zero_le _, rfl, fun j _ h => absurd h (by omega), Below.refl _ _⟩
  case round =>
    obtain ⟨k, hk, rfl, hall, hb⟩ := hrel
    have hcr : wr.cell? ⟨B, 0, none⟩ = some (.string L) := (hb.cell (p := ⟨B, 0, none⟩) hB).trans hc
    by_cases hlt : k < s.size
    · have hx : ∀ W, Calls Tryz.prog 183 #[.string L, .int .u8 (s[k].toNat : Int)] W fun e w' => e = .returned (.int .i64 (Lib.indexByte L.data.toList s[k])) ∧ w' = W := fun W => by
        have h := Tryz.strings_IndexByte L (s[k].toNat : Int) W
        simpa using h
      by_cases hin : L.data.toList.contains s[k] = true
      · have hneg : ¬ Lib.indexByte L.data.toList s[k] < 0 := by
          rw [indexByte_neg, hin]; simp
        have hyes : Hid (∀ j (hj : j < s.size), j < k + 1 → L.data.toList.contains s[j] = true) := by
          intro j hj hjk
          by_cases hjk2 : j = k
          · subst hjk2; exact hin
          · exact hall.out j hj (by omega)
        clear hall hin
        generalize Lib.indexByte L.data.toList s[k] = x at *
        go_wp2
        go_quiet (first | (go_at_call 183; refine Calls.quiet_of_same (hx _)))
        go_wp2
        go_roundw
        case rel => exact ⟨k + 1, by omega, by go_num, hyes, below_drewN hb _⟩
        case measure => simp [intOf]; omega
      · have hin2 : L.data.toList.contains s[k] = false := by simpa using hin
        have hneg : Lib.indexByte L.data.toList s[k] < 0 := (indexByte_neg _ _).2 hin2
        have hno := Lib.hid (allIn_no hlt hin2)
        clear hall hin hin2
        generalize Lib.indexByte L.data.toList s[k] = x at *
        go_wp2
        go_quiet (first | (go_at_call 183; refine Calls.quiet_of_same (hx _)))
        go_wp2
        go_ret
        rw [hno.out]
        exact ⟨rfl, below_drewN hb _⟩
    · have hk2 : k = s.size := by omega
      subst hk2
      have hyes := Lib.hid (allIn_yes fun j hj => hall.out j hj hj)
      clear hall
      go_wp2
      go_ret
      rw [hyes.out]
      exact ⟨rfl, hb⟩

/-- Is a text a name? -/
def rightB (s : ByteArray) : Bool := decide (1 ≤ s.size) && decide (s.size ≤ 40) && decide (s ≠ ⟨#[46]⟩) && decide (s ≠ ⟨#[46, 46]⟩) && allIn nameL s
theorem rightB_full {s : ByteArray} (h1 : 1 ≤ s.size) (h2 : s.size ≤ 40) (h3 : s ≠ ⟨#[46]⟩) (h4 : s ≠ ⟨#[46, 46]⟩) : rightB s = allIn nameL s := by
  simp [rightB, h1, h2, h3, h4]
theorem ne_toList {s : ByteArray} {l : List UInt8} (h : s ≠ ⟨l.toArray⟩) : ¬ s.toList = l := by
  intro e
  rw [toList_eq] at e
  exact h (bytes_inj (by rw [e]))
theorem ne_beq {s : ByteArray} {l : List UInt8} (h : s ≠ ⟨l.toArray⟩) : (s.toList == l) = false := by
  rw [beq_eq_false_iff_ne]
  exact ne_toList h

/-- What madeOf leaves: a function that asks the letters. -/
theorem madeOf_any (L : ByteArray) (w : World) :
    Calls Tryz.prog 172 #[.string L] w fun e w' => e = .returned (.func (.func 182) #[] #[.pointer (some ⟨w.heap.size, 0, none⟩)]) ∧ w' = w.alloc (.cells #[.string L] 9) := by
  go_enter Tryz.func172, Tryz.ntmps172
  go_wp2
  go_ret
  exact ⟨rfl, rfl⟩

set_option maxRecDepth 100000 in
theorem right_any (s : ByteArray) (w : World) (hs : s.size ≤ 9223372036854775807) :
    Calls Tryz.prog 153 #[.string s] w fun e w' => e = .returned (.bool (rightB s)) ∧ Below w.heap.size w w' := by
  by_cases h1 : s.size < 1
  · have hr : rightB s = false := by simp [rightB]; omega
    rw [hr]
    go_enter Tryz.func153, Tryz.ntmps153
    go_wp2
    go_ret
    exact ⟨rfl, Below.refl _ _⟩
  · by_cases h2 : 40 < s.size
    · have hr : rightB s = false := by simp [rightB]; omega
      rw [hr]
      go_enter Tryz.func153, Tryz.ntmps153
      go_wp2
      go_ret
      exact ⟨rfl, Below.refl _ _⟩
    · by_cases h3 : s = ⟨#[46]⟩
      · subst h3
        have hr : rightB ⟨#[46]⟩ = false := by decide
        rw [hr]
        go_enter Tryz.func153, Tryz.ntmps153
        go_wp2
        go_ret
        exact ⟨rfl, Below.refl _ _⟩
      · by_cases h4 : s = ⟨#[46, 46]⟩
        · subst h4
          have hr : rightB ⟨#[46, 46]⟩ = false := by decide
          rw [hr]
          go_enter Tryz.func153, Tryz.ntmps153
          go_wp2
          go_ret
          exact ⟨rfl, Below.refl _ _⟩
        · rw [rightB_full (by omega) (by omega) h3 h4]
          have e3 := ne_toList (l := [46]) h3
          have e4 := ne_toList (l := [46, 46]) h4
          have b3 := ne_beq (l := [46]) h3
          have b4 := ne_beq (l := [46, 46]) h4
          have hc := madeOf1_any w.heap.size nameL s (w.alloc (.cells #[.string nameL] 9)) (by simp) (by rw [World.cell?_alloc_new]; rfl) hs
          have hm := madeOf_any nameL w
          unfold nameL at hm hc
          obtain ⟨r, hr⟩ : ∃ r, Hid (allIn nameL s = r) := ⟨_, rfl⟩
          rw [show allIn ⟨#[97, 98, 99, 100, 101, 102, 103, 104, 105, 106, 107, 108, 109, 110, 111, 112, 113, 114, 115, 116, 117, 118, 119, 120, 121, 122, 48, 49, 50, 51, 52, 53, 54, 55, 56, 57, 46, 95, 45]⟩ s = r from hr.out] at hc
          rw [hr.out]
          clear h3 h4
          go_enter Tryz.func153, Tryz.ntmps153
          go_wp2_with (first
            | (go_at_call 172; refine hm.mono ?_; rintro e w1 ⟨rfl, rfl⟩)
            | (go_at_call 182; refine hc.mono ?_; rintro e w2 ⟨rfl, hb2⟩))
          go_ret
          exact ⟨rfl, ((Below.refl _ w).alloc (Nat.le_refl _) _).trans (hb2.mono (by simp))⟩

end Go.Proofs.YtalabahjfmcnbaaGreatDoor
namespace Go.Proofs.YtalabahjfmcnbaaGreatDoor
open Go.RowKit
set_option linter.unusedVariables false

def nameP (l : List UInt8) : Bool := rightB (toB l)
theorem ext_list (s : ByteArray) (a i : Nat) : (s.extract a i).data.toList = (s.data.toList.drop a).take (i - a) := by
  simp [ByteArray.data_extract, List.take_drop]
  try (rw [List.drop_take])
theorem ext_toB (s : ByteArray) (a i : Nat) : s.extract a i = toB ((s.data.toList.drop a).take (i - a)) := by
  rw [← ext_list, toB_of]
theorem byte_get {s : ByteArray} {i : Nat} (h : i < s.size) : s.data.toList[i]? = some s[i] := by
  have : i < s.data.toList.length := by simpa using h
  rw [List.getElem?_eq_getElem this]
  rfl
theorem names_long {p : List UInt8} (h : 200 < p.length) : names nameP p = [] := by
  unfold names
  rw [if_neg]
  rintro ⟨h1, _⟩
  omega

end Go.Proofs.YtalabahjfmcnbaaGreatDoor
namespace Go.Proofs.YtalabahjfmcnbaaGreatDoor
open Go.RowKit
set_option linter.unusedVariables false

/-- A part of a row of strings: its address, its room. -/
structure Part (A : Option Addr) (A' : Option Addr) (cap' : Nat) (ls ld : List (List UInt8)) (i : Nat) : Prop where
  len : i + ld.length ≤ ls.length
  eq : ld = (ls.drop i).take ld.length
  strs : ∀ (w : World) (B : Nat), Strs w B A (toBs ls) → Strs w B A' (toBs ld)
  room : Room A' ld.length cap'
theorem size_str : (Tryz.prog.info? 9).map (·.size) = some 1 := by kernel_rfl
theorem run_slice_strs (A : Option Addr) (n cap i j : Nat) (low high : Option Value) (w : World) (hij : i ≤ j) (hj : j ≤ n) (hn : n ≤ cap) (hlow : low = some (.int .i64 (i : Int)) ∨ (low = none ∧ i = 0)) (hhigh : high = some (.int .i64 (j : Int)) ∨ (high = none ∧ j = n)) :
    (Instr.slice 31 (.slice A n cap) low high none).run Tryz.prog w = .ok (.slice (if cap = i then A else A.map (·.add i)) (j - i) (cap - i)) w := by
  have hb : ∀ w, (Instr.sliceBounds true n cap low high none).run Tryz.prog w = .ok (i, j, cap) w := by
    intro w
    have hi2 : (i : Int) ≤ (j : Int) := by omega
    have hj2 : (j : Int) ≤ (cap : Int) := by omega
    have hi3 : (i : Int) ≤ (n : Int) := by omega
    rcases hlow with rfl | ⟨rfl, rfl⟩ <;> rcases hhigh with rfl | ⟨rfl, rfl⟩ <;> simp [Instr.sliceBounds, Instr.sliceBound, asIntOf, go_sem, hij, show j ≤ cap by omega] <;> intros <;> omega
  obtain ⟨d, hd, hs⟩ : ∃ d, Tryz.prog.info? 9 = some d ∧ d.size = 1 := by
    have := size_str
    cases h : Tryz.prog.info? 9 with
    | none => rw [h] at this; cases this
    | some d => rw [h] at this; exact ⟨d, rfl, by simpa using this⟩
  unfold Instr.slice
  rw [Sem.run_bind, run_underlying Tryz.underlying31, Result.andThen_ok]
  simp only []
  rw [Sem.run_bind, hb, Result.andThen_ok]
  simp [sizeOf, typeInfo, hd, hs, Sem.run_bind]
theorem part_of (A : Option Addr) (ls : List (List UInt8)) (cap i j : Nat) (hr : Room A ls.length cap) (hij : i ≤ j) (hj : j ≤ ls.length) :
    ∃ A' cap' ld, ld = (ls.drop i).take (j - i) ∧ Part A A' cap' ls ld i ∧ ∀ (low high : Option Value) (w : World), (low = some (.int .i64 (i : Int)) ∨ (low = none ∧ i = 0)) → (high = some (.int .i64 (j : Int)) ∨ (high = none ∧ j = ls.length)) →
      (Instr.slice 31 (.slice A ls.length cap) low high none).run Tryz.prog w = .ok (.slice A' ld.length cap') w := by
  have hl : ((ls.drop i).take (j - i)).length = j - i := by rw [List.length_take, List.length_drop]; omega
  refine ⟨if cap = i then A else A.map (·.add i), cap - i, (ls.drop i).take (j - i), rfl, ⟨by rw [hl]; omega, by rw [hl], fun w B hs => ?_, ?_⟩, fun low high w h1 h2 => ?_⟩
  · by_cases hc : cap = i
    · have hz : (ls.drop i).take (j - i) = [] := by
        rw [← List.length_eq_zero_iff, hl]
        have := hr.2
        omega
      rw [hz]
      exact Strs.none_
    · rw [if_neg hc]
      refine hs.part i (j - i) _ fun b off hA hlt => ?_
      rw [hA, Option.map_some, add_row]
  · rw [hl]
    refine ⟨fun hA => ?_, by have := hr.2; omega⟩
    by_cases hc : cap = i
    · omega
    · rw [if_neg hc] at hA
      have : A = none := by cases A <;> simp_all
      have := hr.1 this
      omega
  · rw [hl]
    exact run_slice_strs A ls.length cap i j low high w hij hj hr.2 h1 h2
end Go.Proofs.YtalabahjfmcnbaaGreatDoor
namespace Go.Proofs.YtalabahjfmcnbaaGreatDoor
set_option linter.unusedVariables false
set_option linter.unusedSectionVars false

theorem pieces_app : ∀ (x r : List UInt8), pieces (x ++ 47 :: r) = pieces x ++ pieces r
  | [], r => by simp [pieces]
  | c :: x, r => by
    have ih := pieces_app x r
    rw [List.cons_append]
    by_cases h : c = 47
    · rw [pieces, if_pos h, ih, pieces, if_pos h]
      rfl
    · rw [pieces, if_neg h, ih, pieces, if_neg h]
      cases e : pieces x with
      | nil => exact absurd e (pieces_ne x)
      | cons a t => rfl
theorem join_app : ∀ (a b : List (List UInt8)), a ≠ [] → b ≠ [] → joinB (a ++ b) = joinB a ++ 47 :: joinB b
  | [], _, h, _ => absurd rfl h
  | [x], b, _, hb => by rw [List.singleton_append, join_cons x hb]; rfl
  | x :: y :: a, b, _, hb => by
    have ih := join_app (y :: a) b (by simp) hb
    rw [List.cons_append, join_cons x (by simp), ih, join_cons x (by simp), List.append_assoc]
    rfl
theorem pieces_len (p : List UInt8) : 1 ≤ (pieces p).length := by
  have := pieces_ne p
  cases e : pieces p with
  | nil => exact absurd e this
  | cons a t => simp
section
variable {nm : List UInt8 → Bool}
/-- What a path begins with, up to a slash, is a path. -/
theorem names_app {x r : List UInt8} (h : names nm (x ++ 47 :: r) ≠ []) : names nm (x ++ 47 :: r) = pieces x ++ pieces r ∧ names nm x = pieces x ∧ names nm x ≠ [] := by
  obtain ⟨h1, h2, h3, h4⟩ := names_pieces nm h
  have e := pieces_app x r
  have hx : names nm x = pieces x := by
    unfold names
    rw [if_pos]
    refine ⟨?_, ?_, ?_⟩
    · rw [List.length_append] at h2; omega
    · rw [e, List.all_append, Bool.and_eq_true] at h3; exact h3.1
    · rw [e, List.length_append] at h4; omega
  exact ⟨by rw [h1, e], hx, by rw [hx]; exact pieces_ne x⟩
/-- Within the root lies each path. -/
theorem within_root (h0 : nm [] = false) (p : List UInt8) : withinP nm p [] = decide (names nm p ≠ []) := by
  have e : names nm [] = [] := by simp [names, pieces, h0]
  unfold withinP beginsP
  rw [e]
  by_cases hp : names nm p = []
  · simp [hp]
  · have := List.length_pos_iff.2 hp
    simp [hp, this]
theorem pre_of_prefix {d p : List UInt8} (h : (d ++ [47]).isPrefixOf p = true) : ∃ r, p = d ++ 47 :: r := by
  obtain ⟨r, e⟩ := List.isPrefixOf_iff_prefix.1 h
  exact ⟨r, by rw [← e]; simp⟩
theorem prefix_of_pre (d r : List UInt8) : (d ++ [47]).isPrefixOf (d ++ 47 :: r) = true := List.isPrefixOf_iff_prefix.2 ⟨r, by simp⟩
/-- Within another path lies what begins with it and a slash. -/
theorem within_dir {d : List UInt8} (hd : d ≠ []) (p : List UInt8) : withinP nm p d = ((d ++ [47]).isPrefixOf p && decide (names nm p ≠ [])) := by
  rw [Bool.eq_iff_iff]
  unfold withinP beginsP
  simp only [Bool.and_eq_true, Bool.or_eq_true, decide_eq_true_eq]
  constructor
  · rintro ⟨⟨⟨hp, hdn⟩, hl⟩, hb1, hb2⟩
    have hdn := hdn.resolve_left hd
    refine ⟨?_, hp⟩
    have e : names nm p = names nm d ++ (names nm p).drop (names nm d).length := by
      conv => lhs; rw [← List.take_append_drop (names nm d).length (names nm p), hb2]
    have hr : (names nm p).drop (names nm d).length ≠ [] := by
      intro k
      have := congrArg List.length k
      rw [List.length_drop, List.length_nil] at this
      omega
    have e2 := join_app _ _ hdn hr
    rw [← e, join_names nm hp, join_names nm hdn] at e2
    rw [e2]
    exact prefix_of_pre _ _
  · rintro ⟨hpre, hp⟩
    obtain ⟨r, rfl⟩ := pre_of_prefix hpre
    obtain ⟨h1, h2, h3⟩ := names_app hp
    rw [h1, h2]
    have hl := pieces_len r
    refine ⟨⟨⟨by simp [pieces_ne], .inr (pieces_ne d)⟩, by simp; omega⟩, by simp, by simp⟩
end
section
variable (nm : List UInt8 → Bool)
end
end Go.Proofs.YtalabahjfmcnbaaGreatDoor
namespace Go.Proofs.YtalabahjfmcnbaaGreatDoor
open Go.RowKit
set_option linter.unusedVariables false

def pnames (s : ByteArray) : List (List UInt8) := names nameP s.data.toList
end Go.Proofs.YtalabahjfmcnbaaGreatDoor
