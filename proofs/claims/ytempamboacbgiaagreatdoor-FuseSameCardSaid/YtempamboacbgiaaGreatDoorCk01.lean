/- Sets of texts, plainly: rising byte by byte, each once. Paths, plainly: their names; names joined; one order of paths. Words for memory: strings that lie in a row; rows that a call made. name.Right, and the reference's Right. -/
import Derived.Lib.SlicesCompact
import Derived.WalkKit
import Derived.Below
import Derived.Laws.AppendOwn
import Derived.Lib.OwnBridge
import Derived.Lib.Hide
import Derived.Sort.Walk0
import Derived.Shelf.GgClosure.Gives
import Derived.Test.YtempamboacbgiaaGreatDoorProg
import Derived.Test.YtempamboacbgiaaGreatDoorShelf
import Derived.BigQuiet
import Derived.Deep.QuietTactic
namespace Go.Proofs.YtempamboacbgiaaGreatDoor
set_option linter.unusedVariables false

end Go.Proofs.YtempamboacbgiaaGreatDoor
namespace Go.Proofs.YtempamboacbgiaaGreatDoor
set_option linter.unusedVariables false
set_option linter.unusedSectionVars false

/-- What stands between slashes. -/
def pieces : List UInt8 → List (List UInt8)
  | [] => [[]]
  | c :: l => if c = 47 then [] :: pieces l else match pieces l with
    | [] => [[c]]
    | h :: t => (c :: h) :: t
/-- Names with slashes between. -/
def joinB : List (List UInt8) → List UInt8
  | [] => []
  | [x] => x
  | x :: y :: l => x ++ 47 :: joinB (y :: l)
theorem pieces_ne (p : List UInt8) : pieces p ≠ [] := by
  cases p with
  | nil => simp [pieces]
  | cons c l =>
    unfold pieces
    split
    · simp
    · split <;> simp
theorem join_cons (x : List UInt8) {l : List (List UInt8)} (h : l ≠ []) : joinB (x :: l) = x ++ 47 :: joinB l := by
  cases l with
  | nil => exact absurd rfl h
  | cons y l => rfl
theorem join_head (c : UInt8) (h : List UInt8) (t : List (List UInt8)) : joinB ((c :: h) :: t) = c :: joinB (h :: t) := by
  cases t <;> rfl
theorem join_pieces : ∀ p : List UInt8, joinB (pieces p) = p
  | [] => rfl
  | c :: l => by
    have ih := join_pieces l
    unfold pieces
    split
    · rename_i h
      rw [join_cons [] (pieces_ne l), ih, h]
      rfl
    · split
      · rename_i h
        exact absurd h (pieces_ne l)
      · rename_i h t e
        rw [join_head, ← e, ih]
theorem pieces_cut : ∀ (x r : List UInt8), (47 : UInt8) ∉ x → pieces (x ++ 47 :: r) = x :: pieces r
  | [], r, _ => by simp [pieces]
  | c :: x, r, h => by
    simp only [List.mem_cons, not_or] at h
    rw [List.cons_append, pieces, if_neg (fun e => h.1 e.symm), pieces_cut x r h.2]
theorem pieces_one : ∀ (x : List UInt8), (47 : UInt8) ∉ x → pieces x = [x]
  | [], _ => rfl
  | c :: x, h => by
    simp only [List.mem_cons, not_or] at h
    rw [pieces, if_neg (fun e => h.1 e.symm), pieces_one x h.2]
theorem pieces_join : ∀ (l : List (List UInt8)), l ≠ [] → (∀ x ∈ l, (47 : UInt8) ∉ x) → pieces (joinB l) = l
  | [], h, _ => absurd rfl h
  | [x], _, h => pieces_one x (h x (by simp))
  | x :: y :: l, _, h => by
    rw [join_cons x (by simp), pieces_cut x _ (h x (by simp)), pieces_join (y :: l) (by simp) fun z hz => h z (List.mem_cons_of_mem _ hz)]
section
variable (nm : List UInt8 → Bool)
/-- A path's names; none: it is no path. -/
def names (p : List UInt8) : List (List UInt8) := if p.length ≤ 200 ∧ (pieces p).all nm = true ∧ (pieces p).length ≤ 16 then pieces p else []
theorem names_pieces {p : List UInt8} (h : names nm p ≠ []) : names nm p = pieces p ∧ p.length ≤ 200 ∧ (pieces p).all nm = true ∧ (pieces p).length ≤ 16 := by
  unfold names at h ⊢
  split at h
  · rename_i hc
    exact ⟨if_pos hc, hc⟩
  · exact absurd rfl h
theorem join_names {p : List UInt8} (h : names nm p ≠ []) : joinB (names nm p) = p := by rw [(names_pieces nm h).1, join_pieces]
theorem names_inj {p q : List UInt8} (h : names nm p = names nm q) (hp : names nm p ≠ []) : p = q := by
  rw [← join_names nm hp, h, join_names nm (h ▸ hp)]
/-- Names joined are a path's, or none's. -/
theorem names_join {l : List (List UInt8)} (hl : l ≠ []) (hn : l.all nm = true) (hs : ∀ x, nm x = true → (47 : UInt8) ∉ x) : names nm (joinB l) = if (joinB l).length ≤ 200 ∧ l.length ≤ 16 then l else [] := by
  have e := pieces_join l hl fun x hx => hs x (List.all_eq_true.1 hn x hx)
  unfold names
  rw [e, hn]
  by_cases h : (joinB l).length ≤ 200 ∧ l.length ≤ 16
  · rw [if_pos ⟨h.1, rfl, h.2⟩, if_pos h]
  · rw [if_neg (fun k => h ⟨k.1, k.2.2⟩), if_neg h]
def dirP (p : List UInt8) : List UInt8 := joinB ((names nm p).dropLast)
def baseP (p : List UInt8) : List UInt8 := (names nm p).getLast?.getD []
def beginsP (a b : List (List UInt8)) : Bool := decide (b.length ≤ a.length) && decide (a.take b.length = b)
/-- Lists of texts, in order: a beginning ahead of what it begins. -/
def lessL : List (List UInt8) → List (List UInt8) → Bool
  | [], [] => false
  | [], _ :: _ => true
  | _ :: _, [] => false
  | x :: a, y :: b => if x = y then lessL a b else decide (x < y)
def lessP (a b : List UInt8) : Bool := if names nm a = [] ∧ names nm b = [] then decide (a < b) else lessL (names nm a) (names nm b)
end
theorem tri (x y : List UInt8) : x < y ∨ x = y ∨ y < x := by
  by_cases h : x < y
  · exact .inl h
  · by_cases h2 : y < x
    · exact .inr (.inr h2)
    · exact .inr (.inl (List.le_antisymm (List.not_lt.1 h2) (List.not_lt.1 h)))
theorem lessL_irrefl : ∀ a : List (List UInt8), lessL a a = false
  | [] => rfl
  | x :: a => by rw [lessL, if_pos rfl, lessL_irrefl a]
theorem lessL_trans : ∀ {a b c : List (List UInt8)}, lessL a b = true → lessL b c = true → lessL a c = true
  | [], [], _, h, _ => by simp [lessL] at h
  | [], _ :: _, [], _, h => by simp [lessL] at h
  | [], _ :: _, _ :: _, _, _ => rfl
  | _ :: _, [], _, h, _ => by simp [lessL] at h
  | _ :: _, _ :: _, [], _, h => by simp [lessL] at h
  | x :: a, y :: b, z :: c, h1, h2 => by
    rw [lessL] at h1 h2 ⊢
    split at h1
    · rename_i e1
      subst e1
      split at h2
      · rename_i e2
        rw [if_pos e2]
        exact lessL_trans h1 h2
      · rename_i e2
        rw [if_neg e2]
        exact h2
    · rename_i e1
      split at h2
      · rename_i e2
        subst e2
        rw [if_neg e1]
        exact h1
      · rename_i e2
        have l1 : x < y := by simpa using h1
        have l2 : y < z := by simpa using h2
        have l3 := List.lt_trans l1 l2
        have l4 : x ≠ z := by rintro rfl; exact List.lt_irrefl x l3
        rw [if_neg l4]
        simpa using l3
theorem lessL_total : ∀ (a b : List (List UInt8)), lessL a b = true ∨ lessL b a = true ∨ a = b
  | [], [] => .inr (.inr rfl)
  | [], _ :: _ => .inl rfl
  | _ :: _, [] => .inr (.inl rfl)
  | x :: a, y :: b => by
    rw [lessL, lessL]
    by_cases e : x = y
    · subst e
      rw [if_pos rfl, if_pos rfl]
      rcases lessL_total a b with h | h | h
      · exact .inl h
      · exact .inr (.inl h)
      · exact .inr (.inr (by rw [h]))
    · rw [if_neg e, if_neg (fun k => e k.symm)]
      rcases tri x y with h | h | h
      · exact .inl (by simpa using h)
      · exact absurd h e
      · exact .inr (.inl (by simpa using h))
section
variable (nm : List UInt8 → Bool)
theorem lessP_irrefl (a : List UInt8) : lessP nm a a = false := by
  unfold lessP
  split
  · simp [List.lt_irrefl]
  · exact lessL_irrefl _
theorem lessP_trans {a b c : List UInt8} (h1 : lessP nm a b = true) (h2 : lessP nm b c = true) : lessP nm a c = true := by
  unfold lessP at h1 h2 ⊢
  by_cases ha : names nm a = [] <;> by_cases hb : names nm b = [] <;> by_cases hc : names nm c = []
  · rw [if_pos ⟨ha, hb⟩] at h1
    rw [if_pos ⟨hb, hc⟩] at h2
    rw [if_pos ⟨ha, hc⟩]
    simp only [decide_eq_true_eq] at *
    exact List.lt_trans h1 h2
  · rw [if_neg (fun k => hc k.2)]
    obtain ⟨x, l, e⟩ := List.exists_cons_of_ne_nil hc
    rw [ha, e]
    rfl
  · rw [if_neg (fun k => hb k.1), hc] at h2
    obtain ⟨x, l, e⟩ := List.exists_cons_of_ne_nil hb
    rw [e] at h2
    simp [lessL] at h2
  · rw [if_neg (fun k => hc k.2)]
    obtain ⟨x, l, e⟩ := List.exists_cons_of_ne_nil hc
    rw [ha, e]
    rfl
  · rw [if_neg (fun k => ha k.1), hb] at h1
    obtain ⟨x, l, e⟩ := List.exists_cons_of_ne_nil ha
    rw [e] at h1
    simp [lessL] at h1
  · rw [if_neg (fun k => ha k.1), hb] at h1
    obtain ⟨x, l, e⟩ := List.exists_cons_of_ne_nil ha
    rw [e] at h1
    simp [lessL] at h1
  · rw [if_neg (fun k => hb k.1), hc] at h2
    obtain ⟨x, l, e⟩ := List.exists_cons_of_ne_nil hb
    rw [e] at h2
    simp [lessL] at h2
  · rw [if_neg (fun k => ha k.1)] at h1 ⊢
    rw [if_neg (fun k => hb k.1)] at h2
    exact lessL_trans h1 h2
theorem lessP_asymm (a b : List UInt8) : ¬ (lessP nm a b = true ∧ lessP nm b a = true) := fun h => by
  have := lessP_trans nm h.1 h.2
  rw [lessP_irrefl] at this
  cases this
theorem lessP_total (a b : List UInt8) : lessP nm a b = true ∨ lessP nm b a = true ∨ a = b := by
  unfold lessP
  by_cases h : names nm a = [] ∧ names nm b = []
  · rw [if_pos h, if_pos ⟨h.2, h.1⟩]
    rcases tri a b with k | k | k
    · exact .inl (by simpa using k)
    · exact .inr (.inr k)
    · exact .inr (.inl (by simpa using k))
  · rw [if_neg h, if_neg (fun k => h ⟨k.2, k.1⟩)]
    rcases lessL_total (names nm a) (names nm b) with k | k | k
    · exact .inl k
    · exact .inr (.inl k)
    · refine .inr (.inr (names_inj nm k fun e => h ⟨e, by rw [← k]; exact e⟩))
end
/-- No slash from place a on, up to place i. -/
def NoSlash (p : List UInt8) (a i : Nat) : Prop := ∀ k, a ≤ k → k < i → p[k]? ≠ some 47
theorem not_mem_cut {p : List UInt8} {a i : Nat} (h : NoSlash p a i) : (47 : UInt8) ∉ (p.drop a).take (i - a) := by
  intro hm
  obtain ⟨j, hj, e⟩ := List.getElem_of_mem hm
  rw [List.length_take, List.length_drop] at hj
  rw [List.getElem_take, List.getElem_drop] at e
  refine h (a + j) (by omega) (by omega) ?_
  rw [List.getElem?_eq_getElem (by omega), e]
theorem pieces_at {p : List UInt8} {a i : Nat} (ha : a ≤ i) (hi : i < p.length) (h : NoSlash p a i) (hs : p[i]? = some 47) : pieces (p.drop a) = (p.drop a).take (i - a) :: pieces (p.drop (i + 1)) := by
  have e : p.drop a = (p.drop a).take (i - a) ++ 47 :: p.drop (i + 1) := by
    have e1 := (List.take_append_drop (i - a) (p.drop a)).symm
    rw [List.drop_drop, show a + (i - a) = i by omega, List.drop_eq_getElem_cons hi] at e1
    rw [List.getElem?_eq_getElem hi, Option.some.injEq] at hs
    rwa [hs] at e1
  have := pieces_cut ((p.drop a).take (i - a)) (p.drop (i + 1)) (not_mem_cut h)
  rwa [← e] at this
theorem pieces_last {p : List UInt8} {a : Nat} (h : NoSlash p a p.length) : pieces (p.drop a) = [p.drop a] := by
  have := not_mem_cut h
  rw [List.take_of_length_le (by rw [List.length_drop]; omega)] at this
  exact pieces_one _ this
theorem NoSlash.more {p : List UInt8} {a i : Nat} (h : NoSlash p a i) (hs : p[i]? ≠ some 47) : NoSlash p a (i + 1) := fun k h1 h2 => by
  by_cases e : k = i
  · subst e; exact hs
  · exact h k h1 (by omega)
theorem NoSlash.none (p : List UInt8) (a : Nat) : NoSlash p a a := fun k h1 h2 => by omega
theorem names_no {nm : List UInt8 → Bool} {p x : List UInt8} {l r : List (List UInt8)} (h : pieces p = l ++ x :: r) (hx : nm x = false) : names nm p = [] := by
  unfold names
  rw [if_neg]
  rintro ⟨_, h2, _⟩
  have := List.all_eq_true.1 h2 x (by rw [h]; simp)
  rw [hx] at this
  cases this
end Go.Proofs.YtempamboacbgiaaGreatDoor
namespace Go.Proofs.YtempamboacbgiaaGreatDoor
open Go.RowKit
set_option linter.unusedVariables false

/-- Strings lie at A, one a cell, in a block below B. -/
def Strs (w : World) (B : Nat) (A : Option Addr) (ss : List ByteArray) : Prop :=
  0 < ss.length → ∃ b off, A = some ⟨b, off, none⟩ ∧ b < B ∧ ∀ j (h : j < ss.length), w.cell? ⟨b, off + j, none⟩ = some (.string ss[j])
/-- The bytes of strings. -/
def lists (ss : List ByteArray) : List (List UInt8) := ss.map (·.data.toList)
def toB (l : List UInt8) : ByteArray := ⟨l.toArray⟩
def toBs (l : List (List UInt8)) : List ByteArray := l.map toB

theorem toList_eq (bs : ByteArray) : bs.toList = bs.data.toList := ByteArray.toList_eq bs
theorem toB_of (s : ByteArray) : toB s.data.toList = s := by cases s; simp [toB]
theorem of_toB (l : List UInt8) : (toB l).data.toList = l := by simp [toB]
theorem bytes_inj {s t : ByteArray} (h : s.data.toList = t.data.toList) : s = t := by rw [← toB_of s, h, toB_of]
theorem toBs_lists (ss : List ByteArray) : toBs (lists ss) = ss := by
  unfold toBs lists
  rw [List.map_map]
  exact (List.map_congr_left fun s _ => toB_of s).trans (List.map_id _)
theorem lists_toBs (ls : List (List UInt8)) : lists (toBs ls) = ls := by
  unfold toBs lists
  rw [List.map_map]
  exact (List.map_congr_left fun s _ => of_toB s).trans (List.map_id _)
theorem lists_len (ss : List ByteArray) : (lists ss).length = ss.length := by simp [lists]
theorem toBs_len (ls : List (List UInt8)) : (toBs ls).length = ls.length := by simp [toBs]
theorem encStr_eq (l : List UInt8) : encStr l = .string (toB l) := rfl
section
variable {w w' : World} {B B' : Nat} {A : Option Addr} {ss : List ByteArray}
theorem Strs.none_ : Strs w B A [] := fun h => absurd h (by simp)
theorem Strs.at_ {k : Nat} (h : Strs w B A ss) (hk : k < ss.length) : ∃ b off, A = some ⟨b, off, none⟩ ∧ b < B ∧ w.cell? ⟨b, off + k, none⟩ = some (.string ss[k]) := by
  obtain ⟨b, off, e, hb, hc⟩ := h (by omega)
  exact ⟨b, off, e, hb, hc k hk⟩
theorem Strs.below (h : Strs w B A ss) (hb : Below B w w') : Strs w' B A ss := fun hp => by
  obtain ⟨b, off, e, hlt, hc⟩ := h hp
  exact ⟨b, off, e, hlt, fun j hj => (hb.cell (p := ⟨b, off + j, none⟩) hlt).trans (hc j hj)⟩
theorem Strs.more (h : Strs w B A ss) (hB : B ≤ B') : Strs w B' A ss := fun hp => by
  obtain ⟨b, off, e, hlt, hc⟩ := h hp
  exact ⟨b, off, e, by omega, hc⟩
/-- Behind a call that made new blocks alone. -/
theorem Strs.on (h : Strs w w.heap.size A ss) (hb : Below w.heap.size w w') : Strs w' w'.heap.size A ss := (h.below hb).more hb.size
end

theorem below_drewN {B : Nat} {a w : World} (h : Below B a w) (n : Nat) : Below B a (w.drewN n) := ⟨h.os, h.tape, h.output, h.size, h.block⟩
/-- Cells of a row that is written out. -/
theorem strs_new (w : World) (ss : List ByteArray) : Strs (w.alloc (.cells (ss.map Value.string).toArray 9)) (w.heap.size + 1) (some ⟨w.heap.size, 0, none⟩) ss := fun _ =>
  ⟨w.heap.size, 0, rfl, by omega, fun j hj => by rw [World.cell?_alloc_new]; simp [hj]⟩

/-- A slice's room: nil has none, its length fits. -/
def Room (A : Option Addr) (n cap : Nat) : Prop := (A = none → cap = 0) ∧ n ≤ cap
/-- A slice of strings that the call made: its row begins a block at or above B, no other slice shares it. -/
def OwnS (w : World) (B : Nat) (v : Value) (ls : List (List UInt8)) : Prop := w.ownsRow B 9 1 v ls.length (ls.map encStr)
theorem OwnS.nil (w : World) (B : Nat) : OwnS w B (.slice none 0 0) [] := w.ownsRow_nil B 9 1
theorem OwnS.strs {w : World} {B : Nat} {v : Value} {ls : List (List UInt8)} (h : OwnS w B v ls) : ∃ A cap, v = .slice A ls.length cap ∧ Strs w w.heap.size A (toBs ls) ∧ cap ≤ maxLen ∧ (A = none → ls = []) := by
  rcases h.2 with ⟨rfl, h0⟩ | ⟨g, cap, cur, rfl, hb, hg, hn, hm, hsz, ht⟩
  · exact ⟨none, 0, by rw [h0], fun hp => by rw [toBs_len] at hp; omega, by simp, fun _ => List.length_eq_zero_iff.1 h0⟩
  · refine ⟨some ⟨g, 0, none⟩, cap, rfl, fun hp => ⟨g, 0, rfl, (Array.getElem?_eq_some_iff.1 hg).1, fun j hj => ?_⟩, hm, fun e => by cases e⟩
    have hj2 : j < ls.length := by rw [toBs_len] at hj; exact hj
    have e1 : (cur.toList.take (ls.length * 1))[j]? = (ls.map encStr)[j]? := by rw [ht]
    rw [List.getElem?_take, if_pos (by omega), Array.getElem?_toList, List.getElem?_map, List.getElem?_eq_getElem hj2] at e1
    simp only [World.cell?, hg, Nat.zero_add, Option.isSome_none, Bool.false_eq_true, if_false]
    rw [e1]
    simp [toBs, encStr_eq]
theorem OwnS.at_ {w : World} {B n cap : Nat} {A : Option Addr} {ls : List (List UInt8)} (h : OwnS w B (.slice A n cap) ls) : Strs w w.heap.size A (toBs ls) ∧ Room A n cap ∧ n = ls.length := by
  obtain ⟨A2, cap2, he, hs, _, _⟩ := h.strs
  simp only [Value.slice.injEq] at he
  obtain ⟨rfl, rfl, rfl⟩ := he
  refine ⟨hs, ⟨fun hA => ?_, ?_⟩, rfl⟩
  · rcases h.2 with ⟨he, _⟩ | ⟨g, c, cur, he, _⟩
    · simp only [Value.slice.injEq] at he; exact he.2.2
    · simp only [Value.slice.injEq] at he
      rw [hA] at he
      cases he.1
  · rcases h.2 with ⟨he, hn⟩ | ⟨g, c, cur, he, _, _, hn, _⟩
    · omega
    · simp only [Value.slice.injEq] at he
      omega
theorem OwnS.kept {w w' : World} {B : Nat} {v : Value} {ls : List (List UInt8)} (h : OwnS w B v ls) (hb : Below w.heap.size w w') : OwnS w' B v ls :=
  World.ownsRow.kept h (row := none) ⟨hb.os, hb.tape, hb.output, hb.size, fun i hi _ => hb.block i hi⟩ (by cases v.ownBlock <;> simp)
theorem OwnS.more {w : World} {B B' : Nat} {v : Value} {ls : List (List UInt8)} (h : OwnS w B v ls) (hB : B' ≤ B) : OwnS w B' v ls := by
  refine ⟨h.1, h.2.imp id ?_⟩
  rintro ⟨g, cap, cur, e, hb, r⟩
  exact ⟨g, cap, cur, e, by omega, r⟩
end Go.Proofs.YtempamboacbgiaaGreatDoor
namespace Go.Proofs.YtempamboacbgiaaGreatDoor
open Go.RowKit
set_option linter.unusedVariables false

def nameL : ByteArray := ⟨#[97, 98, 99, 100, 101, 102, 103, 104, 105, 106, 107, 108, 109, 110, 111, 112, 113, 114, 115, 116, 117, 118, 119, 120, 121, 122, 48, 49, 50, 51, 52, 53, 54, 55, 56, 57, 46, 95, 45]⟩
/-- Is each byte of a text one of these letters? -/
def allIn (L s : ByteArray) : Bool := s.data.toList.all fun c => L.data.toList.contains c
theorem indexByte_neg (c : UInt8) : ∀ l, Lib.indexByte l c < 0 ↔ l.contains c = false
  | [] => by simp [Lib.indexByte]
  | b :: l => by
    have ih := indexByte_neg c l
    have hg := Lib.indexByte_ge l c
    unfold Lib.indexByte
    by_cases h : b = c
    · subst h; simp
    · have h1 : (b == c) = false := by simpa using h
      have h2 : (c == b) = false := by simpa using fun e => h e.symm
      rw [List.contains_cons, h1, h2]
      simp only [Bool.false_eq_true, if_false, Bool.false_or]
      rw [← ih]
      split
      · rename_i h3
        have : Lib.indexByte l c = -1 := by simpa using h3
        omega
      · rename_i h3
        have : Lib.indexByte l c ≠ -1 := by simpa using h3
        omega
theorem allIn_no {L s : ByteArray} {k : Nat} (hk : k < s.size) (h : L.data.toList.contains s[k] = false) : allIn L s = false := by
  have : ¬ (s.data.toList.all fun c => L.data.toList.contains c) = true := by
    rw [List.all_eq_true]
    intro ha
    have := ha s[k] (by rw [show s[k] = s.data.toList[k]'(by simpa using hk) from rfl]; exact List.getElem_mem _)
    rw [h] at this
    cases this
  simpa [allIn] using this
theorem allIn_yes {L s : ByteArray} (h : ∀ k (hk : k < s.size), L.data.toList.contains s[k] = true) : allIn L s = true := by
  unfold allIn
  rw [List.all_eq_true]
  intro c hc
  obtain ⟨k, hk, rfl⟩ := List.getElem_of_mem hc
  exact h k (by simpa using hk)

set_option maxRecDepth 100000 in
theorem madeOf1_any (B : Nat) (L s : ByteArray) (w : World) (hB : B < w.heap.size) (hc : w.cell? ⟨B, 0, none⟩ = some (.string L)) (hs : s.size ≤ 9223372036854775807) :
    Calls Tryz.prog 144 #[.string s, .pointer (some ⟨B, 0, none⟩)] w fun e w' => e = .returned (.bool (allIn L s)) ∧ Below w.heap.size w w' := by
  go_enter Tryz.func144, Tryz.ntmps144
  go_wp2
  go_loopw [7] (fun i wr => ∃ k : Nat, k ≤ s.size ∧ i = .int .i64 (k : Int) ∧ Hid (∀ j (hj : j < s.size), j < k → L.data.toList.contains s[j] = true) ∧ Below w.heap.size w wr) (fun i _ => s.size - (intOf i).toNat)
  case atStart => exact ⟨0, Nat.zero_le _, rfl, fun j _ h => absurd h (by omega), Below.refl _ _⟩
  case round =>
    obtain ⟨k, hk, rfl, hall, hb⟩ := hrel
    have hcr : wr.cell? ⟨B, 0, none⟩ = some (.string L) := (hb.cell (p := ⟨B, 0, none⟩) hB).trans hc
    by_cases hlt : k < s.size
    · have hx : ∀ W, Calls Tryz.prog 145 #[.string L, .int .u8 (s[k].toNat : Int)] W fun e w' => e = .returned (.int .i64 (Lib.indexByte L.data.toList s[k])) ∧ w' = W := fun W => by
        have h := Tryz.strings_IndexByte L (s[k].toNat : Int) W
        simpa using h
      by_cases hin : L.data.toList.contains s[k] = true
      · have hneg : ¬ Lib.indexByte L.data.toList s[k] < 0 := by
          rw [indexByte_neg, hin]; simp
        have hyes : Hid (∀ j (hj : j < s.size), j < k + 1 → L.data.toList.contains s[j] = true) := by
          intro j hj hjk
          by_cases hjk2 : j = k
          · subst hjk2; exact hin
          · exact hall.out j hj (by omega)
        clear hall hin
        generalize Lib.indexByte L.data.toList s[k] = x at *
        go_wp2
        go_quiet (first | (go_at_call 145; refine Calls.quiet_of_same (hx _)))
        go_wp2
        go_roundw
        case rel => exact ⟨k + 1, by omega, by go_num, hyes, below_drewN hb _⟩
        case measure => simp [intOf]; omega
      · have hin2 : L.data.toList.contains s[k] = false := by simpa using hin
        have hneg : Lib.indexByte L.data.toList s[k] < 0 := (indexByte_neg _ _).2 hin2
        have hno := Lib.hid (allIn_no hlt hin2)
        clear hall hin hin2
        generalize Lib.indexByte L.data.toList s[k] = x at *
        go_wp2
        go_quiet (first | (go_at_call 145; refine Calls.quiet_of_same (hx _)))
        go_wp2
        go_ret
        rw [hno.out]
        exact ⟨rfl, below_drewN hb _⟩
    · have hk2 : k = s.size := by omega
      subst hk2
      have hyes := Lib.hid (allIn_yes fun j hj => hall.out j hj hj)
      clear hall
      go_wp2
      go_ret
      rw [hyes.out]
      exact ⟨rfl, hb⟩

/-- Is a text a name? -/
def rightB (s : ByteArray) : Bool := decide (1 ≤ s.size) && decide (s.size ≤ 40) && decide (s ≠ ⟨#[46]⟩) && decide (s ≠ ⟨#[46, 46]⟩) && allIn nameL s
theorem rightB_full {s : ByteArray} (h1 : 1 ≤ s.size) (h2 : s.size ≤ 40) (h3 : s ≠ ⟨#[46]⟩) (h4 : s ≠ ⟨#[46, 46]⟩) : rightB s = allIn nameL s := by
  simp [rightB, h1, h2, h3, h4]
theorem ne_toList {s : ByteArray} {l : List UInt8} (h : s ≠ ⟨l.toArray⟩) : ¬ s.toList = l := by
  intro e
  rw [toList_eq] at e
  exact h (bytes_inj (by rw [e]))
theorem ne_beq {s : ByteArray} {l : List UInt8} (h : s ≠ ⟨l.toArray⟩) : (s.toList == l) = false := by
  rw [beq_eq_false_iff_ne]
  exact ne_toList h

/-- What madeOf leaves: a function that asks the letters. -/
theorem madeOf_any (L : ByteArray) (w : World) :
    Calls Tryz.prog 136 #[.string L] w fun e w' => e = .returned (.func (.func 144) #[] #[.pointer (some ⟨w.heap.size, 0, none⟩)]) ∧ w' = w.alloc (.cells #[.string L] 9) := by
  go_enter Tryz.func136, Tryz.ntmps136
  go_wp2
  go_ret
  exact ⟨rfl, rfl⟩

set_option maxRecDepth 100000 in
theorem right_any (s : ByteArray) (w : World) (hs : s.size ≤ 9223372036854775807) :
    Calls Tryz.prog 122 #[.string s] w fun e w' => e = .returned (.bool (rightB s)) ∧ Below w.heap.size w w' := by
  by_cases h1 : s.size < 1
  · have hr : rightB s = false := by simp [rightB]; omega
    rw [hr]
    go_enter Tryz.func122, Tryz.ntmps122
    go_wp2
    go_ret
    exact ⟨rfl, Below.refl _ _⟩
  · by_cases h2 : 40 < s.size
    · have hr : rightB s = false := by simp [rightB]; omega
      rw [hr]
      go_enter Tryz.func122, Tryz.ntmps122
      go_wp2
      go_ret
      exact ⟨rfl, Below.refl _ _⟩
    · by_cases h3 : s = ⟨#[46]⟩
      · subst h3
        have hr : rightB ⟨#[46]⟩ = false := by decide
        rw [hr]
        go_enter Tryz.func122, Tryz.ntmps122
        go_wp2
        go_ret
        exact ⟨rfl, Below.refl _ _⟩
      · by_cases h4 : s = ⟨#[46, 46]⟩
        · subst h4
          have hr : rightB ⟨#[46, 46]⟩ = false := by decide
          rw [hr]
          go_enter Tryz.func122, Tryz.ntmps122
          go_wp2
          go_ret
          exact ⟨rfl, Below.refl _ _⟩
        · rw [rightB_full (by omega) (by omega) h3 h4]
          have e3 := ne_toList (l := [46]) h3
          have e4 := ne_toList (l := [46, 46]) h4
          have b3 := ne_beq (l := [46]) h3
          have b4 := ne_beq (l := [46, 46]) h4
          have hc := madeOf1_any w.heap.size nameL s (w.alloc (.cells #[.string nameL] 9)) (by simp) (by rw [World.cell?_alloc_new]; rfl) hs
          have hm := madeOf_any nameL w
          unfold nameL at hm hc
          obtain ⟨r, hr⟩ : ∃ r, Hid (allIn nameL s = r) := ⟨_, rfl⟩
          rw [show allIn ⟨#[97, 98, 99, 100, 101, 102, 103, 104, 105, 106, 107, 108, 109, 110, 111, 112, 113, 114, 115, 116, 117, 118, 119, 120, 121, 122, 48, 49, 50, 51, 52, 53, 54, 55, 56, 57, 46, 95, 45]⟩ s = r from hr.out] at hc
          rw [hr.out]
          clear h3 h4
          go_enter Tryz.func122, Tryz.ntmps122
          go_wp2_with (first
            | (go_at_call 136; refine hm.mono ?_; rintro e w1 ⟨rfl, rfl⟩)
            | (go_at_call 144; refine hc.mono ?_; rintro e w2 ⟨rfl, hb2⟩))
          go_ret
          exact ⟨rfl, ((Below.refl _ w).alloc (Nat.le_refl _) _).trans (hb2.mono (by simp))⟩

set_option maxRecDepth 100000 in
/-- The reference's letter. -/
theorem letter_any (c : UInt8) (w : World) :
    Calls Tryz.prog 131 #[.int .u8 (c.toNat : Int)] w fun e w' => e = .returned (.bool (nameL.data.toList.contains c)) ∧ w = w' := by
  obtain ⟨L, hL⟩ : ∃ L, L = nameL := ⟨_, rfl⟩
  have hsz : L.size = 39 := by rw [hL]; rfl
  have hL2 : (⟨#[97, 98, 99, 100, 101, 102, 103, 104, 105, 106, 107, 108, 109, 110, 111, 112, 113, 114, 115, 116, 117, 118, 119, 120, 121, 122, 48, 49, 50, 51, 52, 53, 54, 55, 56, 57, 46, 95, 45]⟩ : ByteArray) = L := by rw [hL]; rfl
  rw [← hL]
  clear hL
  go_enter Tryz.func131, Tryz.ntmps131
  go_wp2
  go_loop [4] (fun i => ∃ k : Nat, k ≤ L.size ∧ i = .int .i64 (k : Int) ∧ Hid (∀ j (hj : j < L.size), j < k → L[j] ≠ c)) (fun i => L.size - (intOf i).toNat)
  case atStart => exact ⟨0, Nat.zero_le _, rfl, fun j _ h => absurd h (by omega)⟩
  case round =>
    obtain ⟨k, hk, rfl, hall⟩ := hrel
    by_cases hlt : k < L.size
    · by_cases he : L[k] = c
      · have hyes : Hid (decide (c ∈ L.data) = true) := by
          show _ = _
          rw [decide_eq_true_eq, ← Array.mem_toList_iff, ← he]
          exact List.getElem_mem (l := L.data.toList) (by simpa using hlt)
        have hq : ((L[k].toNat : Int) == (c.toNat : Int)) = true := by rw [he]; simp
        clear hall he
        go_wp2
        go_ret
        rw [hyes.out]
        exact ⟨rfl, rfl⟩
      · have hq : ((L[k].toNat : Int) == (c.toNat : Int)) = false := by
          rw [beq_eq_false_iff_ne]
          intro h
          exact he (UInt8.toNat_inj.1 (by omega))
        have hall2 : Hid (∀ j (hj : j < L.size), j < k + 1 → L[j] ≠ c) := by
          intro j hj hjk
          by_cases h : j = k
          · subst h; exact he
          · exact hall.out j hj (by omega)
        clear hall
        go_wp2
        go_round
        case rel => exact ⟨k + 1, by omega, by go_num, hall2⟩
        case measure => simp [intOf]; omega
    · have hk2 : k = L.size := by omega
      subst hk2
      have hno : Hid (decide (c ∈ L.data) = false) := by
        show _ = _
        rw [decide_eq_false_iff_not, ← Array.mem_toList_iff]
        intro h
        obtain ⟨j, hj, e⟩ := List.getElem_of_mem h
        exact hall.out j (by simpa using hj) (by simpa using hj) e
      clear hall
      go_wp2
      go_ret
      rw [hno.out]
      exact ⟨rfl, rfl⟩

set_option maxRecDepth 100000 in
theorem refright_any (s : ByteArray) (w : World) (hs : s.size ≤ 9223372036854775807) :
    Calls Tryz.prog 116 #[.string s] w fun e w' => e = .returned (.bool (rightB s)) ∧ w = w' := by
  go_enter Tryz.func116, Tryz.ntmps116
  go_wp2
  go_loop [3] (fun i => ∃ k : Nat, k ≤ s.size ∧ i = .int .i64 (k : Int) ∧ Hid (∀ j (hj : j < s.size), j < k → nameL.data.toList.contains s[j] = true)) (fun i => s.size - (intOf i).toNat)
  case atStart => exact ⟨0, Nat.zero_le _, rfl, fun j _ h => absurd h (by omega)⟩
  case round =>
    obtain ⟨k, hk, rfl, hall⟩ := hrel
    by_cases hlt : k < s.size
    · have hl := letter_any s[k]
      by_cases hin : nameL.data.toList.contains s[k] = true
      · rw [hin] at hl
        have hyes : Hid (∀ j (hj : j < s.size), j < k + 1 → nameL.data.toList.contains s[j] = true) := by
          intro j hj hjk
          by_cases hjk2 : j = k
          · subst hjk2; exact hin
          · exact hall.out j hj (by omega)
        clear hall hin
        go_wp2_with (go_at_call 131; refine (hl _).mono ?_; rintro e w1 ⟨rfl, rfl⟩)
        go_round
        case rel => exact ⟨k + 1, by omega, by go_num, hyes⟩
        case measure => simp [intOf]; omega
      · have hin2 : nameL.data.toList.contains s[k] = false := by simpa using hin
        rw [hin2] at hl
        have hno : Hid (rightB s = false) := by
          show _ = _
          unfold rightB
          rw [allIn_no hlt hin2]
          simp
        clear hall hin hin2
        go_wp2_with (go_at_call 131; refine (hl _).mono ?_; rintro e w1 ⟨rfl, rfl⟩)
        go_ret
        rw [hno.out]
        exact ⟨rfl, rfl⟩
    · have hk2 : k = s.size := by omega
      subst hk2
      have hyes := allIn_yes fun j hj => hall.out j hj hj
      clear hall
      by_cases h1 : s.size < 1
      · have hr : Hid (rightB s = false) := by show _ = _; simp [rightB]; omega
        clear hyes
        go_wp2
        go_ret
        rw [hr.out]
        exact ⟨rfl, rfl⟩
      · by_cases h2 : 40 < s.size
        · have hr : Hid (rightB s = false) := by show _ = _; simp [rightB]; omega
          clear hyes
          go_wp2
          go_ret
          rw [hr.out]
          exact ⟨rfl, rfl⟩
        · by_cases h3 : s = ⟨#[46]⟩
          · have hr : Hid (rightB s = false) := by rw [h3]; show _ = _; decide
            subst h3
            clear hyes
            go_wp2
            go_ret
            rw [hr.out]
            exact ⟨rfl, rfl⟩
          · by_cases h4 : s = ⟨#[46, 46]⟩
            · have hr : Hid (rightB s = false) := by rw [h4]; show _ = _; decide
              subst h4
              clear hyes
              go_wp2
              go_ret
              rw [hr.out]
              exact ⟨rfl, rfl⟩
            · have hr : Hid (rightB s = true) := by show _ = _; rw [rightB_full (by omega) (by omega) h3 h4]; exact hyes
              have e3 := ne_toList (l := [46]) h3
              have e4 := ne_toList (l := [46, 46]) h4
              have b3 := ne_beq (l := [46]) h3
              have b4 := ne_beq (l := [46, 46]) h4
              clear hyes h3 h4
              go_wp2
              go_ret
              rw [hr.out]
              exact ⟨rfl, rfl⟩
end Go.Proofs.YtempamboacbgiaaGreatDoor
