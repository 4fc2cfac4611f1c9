/- Sets of texts, plainly: rising byte by byte, each once. Paths, plainly: their names; names joined; one order of paths. Words for memory: strings that lie in a row; rows that a call made. name.Right, and the reference's Right. append of strings to a row that the call made. Rows held while blocks are made. -/
import Derived.Lib.SlicesCompact
import Derived.WalkKit
import Derived.Below
import Derived.Laws.AppendOwn
import Derived.Lib.OwnBridge
import Derived.Lib.Hide
import Derived.Sort.Walk0
import Derived.Shelf.GgClosure.Gives
import Derived.Test.YtempamboacbgiaaDoorProg
import Derived.Test.YtempamboacbgiaaDoorShelf
import Derived.BigQuiet
import Derived.Deep.QuietTactic
import Derived.Laws.AppendOwnNone
import Derived.OwnWalk
namespace Go.Proofs.YtempamboacbgiaaDoor
set_option linter.unusedVariables false

end Go.Proofs.YtempamboacbgiaaDoor
namespace Go.Proofs.YtempamboacbgiaaDoor
set_option linter.unusedVariables false
set_option linter.unusedSectionVars false

/-- What stands between slashes. -/
def pieces : List UInt8 → List (List UInt8)
  | [] => [[]]
  | c :: l => if c = 47 then [] :: pieces l else match pieces l with
    | [] => [[c]]
    | h :: t => (c :: h) :: t
theorem pieces_ne (p : List UInt8) : pieces p ≠ [] := by
  cases p with
  | nil => simp [pieces]
  | cons c l =>
    unfold pieces
    split
    · simp
    · split <;> simp
theorem pieces_cut : ∀ (x r : List UInt8), (47 : UInt8) ∉ x → pieces (x ++ 47 :: r) = x :: pieces r
  | [], r, _ => by simp [pieces]
  | c :: x, r, h => by
    simp only [List.mem_cons, not_or] at h
    rw [List.cons_append, pieces, if_neg (fun e => h.1 e.symm), pieces_cut x r h.2]
theorem pieces_one : ∀ (x : List UInt8), (47 : UInt8) ∉ x → pieces x = [x]
  | [], _ => rfl
  | c :: x, h => by
    simp only [List.mem_cons, not_or] at h
    rw [pieces, if_neg (fun e => h.1 e.symm), pieces_one x h.2]
section
variable (nm : List UInt8 → Bool)
/-- A path's names; none: it is no path. -/
def names (p : List UInt8) : List (List UInt8) := if p.length ≤ 200 ∧ (pieces p).all nm = true ∧ (pieces p).length ≤ 16 then pieces p else []
end
section
variable (nm : List UInt8 → Bool)
end
/-- No slash from place a on, up to place i. -/
def NoSlash (p : List UInt8) (a i : Nat) : Prop := ∀ k, a ≤ k → k < i → p[k]? ≠ some 47
theorem not_mem_cut {p : List UInt8} {a i : Nat} (h : NoSlash p a i) : (47 : UInt8) ∉ (p.drop a).take (i - a) := by
  intro hm
  obtain ⟨j, hj, e⟩ := List.getElem_of_mem hm
  rw [List.length_take, List.length_drop] at hj
  rw [List.getElem_take, List.getElem_drop] at e
  refine h (a + j) (by omega) (by omega) ?_
  rw [List.getElem?_eq_getElem (by omega), e]
theorem pieces_at {p : List UInt8} {a i : Nat} (ha : a ≤ i) (hi : i < p.length) (h : NoSlash p a i) (hs : p[i]? = some 47) : pieces (p.drop a) = (p.drop a).take (i - a) :: pieces (p.drop (i + 1)) := by
  have e : p.drop a = (p.drop a).take (i - a) ++ 47 :: p.drop (i + 1) := by
    have e1 := (List.take_append_drop (i - a) (p.drop a)).symm
    rw [List.drop_drop, show a + (i - a) = i by omega, List.drop_eq_getElem_cons hi] at e1
    rw [List.getElem?_eq_getElem hi, Option.some.injEq] at hs
    rwa [hs] at e1
  have := pieces_cut ((p.drop a).take (i - a)) (p.drop (i + 1)) (not_mem_cut h)
  rwa [← e] at this
theorem pieces_last {p : List UInt8} {a : Nat} (h : NoSlash p a p.length) : pieces (p.drop a) = [p.drop a] := by
  have := not_mem_cut h
  rw [List.take_of_length_le (by rw [List.length_drop]; omega)] at this
  exact pieces_one _ this
theorem NoSlash.more {p : List UInt8} {a i : Nat} (h : NoSlash p a i) (hs : p[i]? ≠ some 47) : NoSlash p a (i + 1) := fun k h1 h2 => by
  by_cases e : k = i
  · subst e; exact hs
  · exact h k h1 (by omega)
theorem NoSlash.none (p : List UInt8) (a : Nat) : NoSlash p a a := fun k h1 h2 => by omega
theorem names_no {nm : List UInt8 → Bool} {p x : List UInt8} {l r : List (List UInt8)} (h : pieces p = l ++ x :: r) (hx : nm x = false) : names nm p = [] := by
  unfold names
  rw [if_neg]
  rintro ⟨_, h2, _⟩
  have := List.all_eq_true.1 h2 x (by rw [h]; simp)
  rw [hx] at this
  cases this
end Go.Proofs.YtempamboacbgiaaDoor
namespace Go.Proofs.YtempamboacbgiaaDoor
open Go.RowKit
set_option linter.unusedVariables false

/-- Strings lie at A, one a cell, in a block below B. -/
def Strs (w : World) (B : Nat) (A : Option Addr) (ss : List ByteArray) : Prop :=
  0 < ss.length → ∃ b off, A = some ⟨b, off, none⟩ ∧ b < B ∧ ∀ j (h : j < ss.length), w.cell? ⟨b, off + j, none⟩ = some (.string ss[j])
/-- The bytes of strings. -/
def lists (ss : List ByteArray) : List (List UInt8) := ss.map (·.data.toList)
def toB (l : List UInt8) : ByteArray := ⟨l.toArray⟩
def toBs (l : List (List UInt8)) : List ByteArray := l.map toB

theorem toList_eq (bs : ByteArray) : bs.toList = bs.data.toList := ByteArray.toList_eq bs
theorem toB_of (s : ByteArray) : toB s.data.toList = s := by cases s; simp [toB]
theorem of_toB (l : List UInt8) : (toB l).data.toList = l := by simp [toB]
theorem bytes_inj {s t : ByteArray} (h : s.data.toList = t.data.toList) : s = t := by rw [← toB_of s, h, toB_of]
theorem toBs_lists (ss : List ByteArray) : toBs (lists ss) = ss := by
  unfold toBs lists
  rw [List.map_map]
  exact (List.map_congr_left fun s _ => toB_of s).trans (List.map_id _)
theorem lists_toBs (ls : List (List UInt8)) : lists (toBs ls) = ls := by
  unfold toBs lists
  rw [List.map_map]
  exact (List.map_congr_left fun s _ => of_toB s).trans (List.map_id _)
theorem lists_len (ss : List ByteArray) : (lists ss).length = ss.length := by simp [lists]
theorem toBs_len (ls : List (List UInt8)) : (toBs ls).length = ls.length := by simp [toBs]
theorem encStr_eq (l : List UInt8) : encStr l = .string (toB l) := rfl
section
variable {w w' : World} {B B' : Nat} {A : Option Addr} {ss : List ByteArray}
theorem Strs.none_ : Strs w B A [] := fun h => absurd h (by simp)
theorem Strs.at_ {k : Nat} (h : Strs w B A ss) (hk : k < ss.length) : ∃ b off, A = some ⟨b, off, none⟩ ∧ b < B ∧ w.cell? ⟨b, off + k, none⟩ = some (.string ss[k]) := by
  obtain ⟨b, off, e, hb, hc⟩ := h (by omega)
  exact ⟨b, off, e, hb, hc k hk⟩
theorem Strs.below (h : Strs w B A ss) (hb : Below B w w') : Strs w' B A ss := fun hp => by
  obtain ⟨b, off, e, hlt, hc⟩ := h hp
  exact ⟨b, off, e, hlt, fun j hj => (hb.cell (p := ⟨b, off + j, none⟩) hlt).trans (hc j hj)⟩
theorem Strs.more (h : Strs w B A ss) (hB : B ≤ B') : Strs w B' A ss := fun hp => by
  obtain ⟨b, off, e, hlt, hc⟩ := h hp
  exact ⟨b, off, e, by omega, hc⟩
/-- Behind a call that made new blocks alone. -/
theorem Strs.on (h : Strs w w.heap.size A ss) (hb : Below w.heap.size w w') : Strs w' w'.heap.size A ss := (h.below hb).more hb.size
end

theorem below_drewN {B : Nat} {a w : World} (h : Below B a w) (n : Nat) : Below B a (w.drewN n) := ⟨h.os, h.tape, h.output, h.size, h.block⟩
/-- Cells of a row that is written out. -/
theorem strs_new (w : World) (ss : List ByteArray) : Strs (w.alloc (.cells (ss.map Value.string).toArray 9)) (w.heap.size + 1) (some ⟨w.heap.size, 0, none⟩) ss := fun _ =>
  ⟨w.heap.size, 0, rfl, by omega, fun j hj => by rw [World.cell?_alloc_new]; simp [hj]⟩

/-- A slice's room: nil has none, its length fits. -/
def Room (A : Option Addr) (n cap : Nat) : Prop := (A = none → cap = 0) ∧ n ≤ cap
/-- A slice of strings that the call made: its row begins a block at or above B, no other slice shares it. -/
def OwnS (w : World) (B : Nat) (v : Value) (ls : List (List UInt8)) : Prop := w.ownsRow B 9 1 v ls.length (ls.map encStr)
theorem OwnS.nil (w : World) (B : Nat) : OwnS w B (.slice none 0 0) [] := w.ownsRow_nil B 9 1
theorem OwnS.strs {w : World} {B : Nat} {v : Value} {ls : List (List UInt8)} (h : OwnS w B v ls) : ∃ A cap, v = .slice A ls.length cap ∧ Strs w w.heap.size A (toBs ls) ∧ cap ≤ maxLen ∧ (A = none → ls = []) := by
  rcases h.2 with ⟨rfl, h0⟩ | ⟨g, cap, cur, rfl, hb, hg, hn, hm, hsz, ht⟩
  · exact ⟨none, 0, by rw [h0], fun hp => by rw [toBs_len] at hp; omega, by simp, fun _ => List.length_eq_zero_iff.1 h0⟩
  · refine ⟨some ⟨g, 0, none⟩, cap, rfl, fun hp => ⟨g, 0, rfl, (Array.getElem?_eq_some_iff.1 hg).1, fun j hj => ?_⟩, hm, fun e => by cases e⟩
    have hj2 : j < ls.length := by rw [toBs_len] at hj; exact hj
    have e1 : (cur.toList.take (ls.length * 1))[j]? = (ls.map encStr)[j]? := by rw [ht]
    rw [List.getElem?_take, if_pos (by omega), Array.getElem?_toList, List.getElem?_map, List.getElem?_eq_getElem hj2] at e1
    simp only [World.cell?, hg, Nat.zero_add, Option.isSome_none, Bool.false_eq_true, if_false]
    rw [e1]
    simp [toBs, encStr_eq]
theorem OwnS.at_ {w : World} {B n cap : Nat} {A : Option Addr} {ls : List (List UInt8)} (h : OwnS w B (.slice A n cap) ls) : Strs w w.heap.size A (toBs ls) ∧ Room A n cap ∧ n = ls.length := by
  obtain ⟨A2, cap2, he, hs, _, _⟩ := h.strs
  simp only [Value.slice.injEq] at he
  obtain ⟨rfl, rfl, rfl⟩ := he
  refine ⟨hs, ⟨fun hA => ?_, ?_⟩, rfl⟩
  · rcases h.2 with ⟨he, _⟩ | ⟨g, c, cur, he, _⟩
    · simp only [Value.slice.injEq] at he; exact he.2.2
    · simp only [Value.slice.injEq] at he
      rw [hA] at he
      cases he.1
  · rcases h.2 with ⟨he, hn⟩ | ⟨g, c, cur, he, _, _, hn, _⟩
    · omega
    · simp only [Value.slice.injEq] at he
      omega
theorem OwnS.kept {w w' : World} {B : Nat} {v : Value} {ls : List (List UInt8)} (h : OwnS w B v ls) (hb : Below w.heap.size w w') : OwnS w' B v ls :=
  World.ownsRow.kept h (row := none) ⟨hb.os, hb.tape, hb.output, hb.size, fun i hi _ => hb.block i hi⟩ (by cases v.ownBlock <;> simp)
theorem OwnS.more {w : World} {B B' : Nat} {v : Value} {ls : List (List UInt8)} (h : OwnS w B v ls) (hB : B' ≤ B) : OwnS w B' v ls := by
  refine ⟨h.1, h.2.imp id ?_⟩
  rintro ⟨g, cap, cur, e, hb, r⟩
  exact ⟨g, cap, cur, e, by omega, r⟩
end Go.Proofs.YtempamboacbgiaaDoor
namespace Go.Proofs.YtempamboacbgiaaDoor
open Go.RowKit
set_option linter.unusedVariables false

def nameL : ByteArray := ⟨#[97, 98, 99, 100, 101, 102, 103, 104, 105, 106, 107, 108, 109, 110, 111, 112, 113, 114, 115, 116, 117, 118, 119, 120, 121, 122, 48, 49, 50, 51, 52, 53, 54, 55, 56, 57, 46, 95, 45]⟩
/-- Is each byte of a text one of these letters? -/
def allIn (L s : ByteArray) : Bool := s.data.toList.all fun c => L.data.toList.contains c
theorem indexByte_neg (c : UInt8) : ∀ l, Lib.indexByte l c < 0 ↔ l.contains c = false
  | [] => by simp [Lib.indexByte]
  | b :: l => by
    have ih := indexByte_neg c l
    have hg := Lib.indexByte_ge l c
    unfold Lib.indexByte
    by_cases h : b = c
    · subst h; simp
    · have h1 : (b == c) = false := by simpa using h
      have h2 : (c == b) = false := by simpa using fun e => h e.symm
      rw [List.contains_cons, h1, h2]
      simp only [Bool.false_eq_true, if_false, Bool.false_or]
      rw [← ih]
      split
      · rename_i h3
        have : Lib.indexByte l c = -1 := by simpa using h3
        omega
      · rename_i h3
        have : Lib.indexByte l c ≠ -1 := by simpa using h3
        omega
theorem allIn_no {L s : ByteArray} {k : Nat} (hk : k < s.size) (h : L.data.toList.contains s[k] = false) : allIn L s = false := by
  have : ¬ (s.data.toList.all fun c => L.data.toList.contains c) = true := by
    rw [List.all_eq_true]
    intro ha
    have := ha s[k] (by rw [show s[k] = s.data.toList[k]'(by simpa using hk) from rfl]; exact List.getElem_mem _)
    rw [h] at this
    cases this
  simpa [allIn] using this
theorem allIn_yes {L s : ByteArray} (h : ∀ k (hk : k < s.size), L.data.toList.contains s[k] = true) : allIn L s = true := by
  unfold allIn
  rw [List.all_eq_true]
  intro c hc
  obtain ⟨k, hk, rfl⟩ := List.getElem_of_mem hc
  exact h k (by simpa using hk)

set_option maxRecDepth 100000 in
theorem madeOf1_any (B : Nat) (L s : ByteArray) (w : World) (hB : B < w.heap.size) (hc : w.cell? ⟨B, 0, none⟩ = some (.string L)) (hs : s.size ≤ 9223372036854775807) :
    Calls Tryd.prog 75 #[.string s, .pointer (some ⟨B, 0, none⟩)] w fun e w' => e = .returned (.bool (allIn L s)) ∧ Below w.heap.size w w' := by
  go_enter Tryd.func75, Tryd.ntmps75
  go_wp2
  go_loopw [7] (fun i wr => ∃ k : Nat, k ≤ s.size ∧ i = .int .i64 (k : Int) ∧ Hid (∀ j (hj : j < s.size), j < k → L.data.toList.contains s[j] = true) ∧ Below w.heap.size w wr) (fun i _ => s.size - (intOf i).toNat)
  case atStart => exact ⟨0, Nat.zero_le _, rfl, fun j _ h => absurd h (by omega), Below.refl _ _⟩
  case round =>
    obtain ⟨k, hk, rfl, hall, hb⟩ := hrel
    have hcr : wr.cell? ⟨B, 0, none⟩ = some (.string L) := (hb.cell (p := ⟨B, 0, none⟩) hB).trans hc
    by_cases hlt : k < s.size
    · have hx : ∀ W, Calls Tryd.prog 76 #[.string L, .int .u8 (s[k].toNat : Int)] W fun e w' => e = .returned (.int .i64 (Lib.indexByte L.data.toList s[k])) ∧ w' = W := fun W => by
        have h := Tryd.strings_IndexByte L (s[k].toNat : Int) W
        simpa using h
      by_cases hin : L.data.toList.contains s[k] = true
      · have hneg : ¬ Lib.indexByte L.data.toList s[k] < 0 := by
          rw [indexByte_neg, hin]; simp
        have hyes : Hid (∀ j (hj : j < s.size), j < k + 1 → L.data.toList.contains s[j] = true) := by
          intro j hj hjk
          by_cases hjk2 : j = k
          · subst hjk2; exact hin
          · exact hall.out j hj (by omega)
        clear hall hin
        generalize Lib.indexByte L.data.toList s[k] = x at *
        go_wp2
        go_quiet (first | (go_at_call 76; refine Calls.quiet_of_same (hx _)))
        go_wp2
        go_roundw
        case rel => exact ⟨k + 1, by omega, by go_num, hyes, below_drewN hb _⟩
        case measure => simp [intOf]; omega
      · have hin2 : L.data.toList.contains s[k] = false := by simpa using hin
        have hneg : Lib.indexByte L.data.toList s[k] < 0 := (indexByte_neg _ _).2 hin2
        have hno := Lib.hid (allIn_no hlt hin2)
        clear hall hin hin2
        generalize Lib.indexByte L.data.toList s[k] = x at *
        go_wp2
        go_quiet (first | (go_at_call 76; refine Calls.quiet_of_same (hx _)))
        go_wp2
        go_ret
        rw [hno.out]
        exact ⟨rfl, below_drewN hb _⟩
    · have hk2 : k = s.size := by omega
      subst hk2
      have hyes := Lib.hid (allIn_yes fun j hj => hall.out j hj hj)
      clear hall
      go_wp2
      go_ret
      rw [hyes.out]
      exact ⟨rfl, hb⟩

/-- Is a text a name? -/
def rightB (s : ByteArray) : Bool := decide (1 ≤ s.size) && decide (s.size ≤ 40) && decide (s ≠ ⟨#[46]⟩) && decide (s ≠ ⟨#[46, 46]⟩) && allIn nameL s
theorem rightB_full {s : ByteArray} (h1 : 1 ≤ s.size) (h2 : s.size ≤ 40) (h3 : s ≠ ⟨#[46]⟩) (h4 : s ≠ ⟨#[46, 46]⟩) : rightB s = allIn nameL s := by
  simp [rightB, h1, h2, h3, h4]
theorem ne_toList {s : ByteArray} {l : List UInt8} (h : s ≠ ⟨l.toArray⟩) : ¬ s.toList = l := by
  intro e
  rw [toList_eq] at e
  exact h (bytes_inj (by rw [e]))
theorem ne_beq {s : ByteArray} {l : List UInt8} (h : s ≠ ⟨l.toArray⟩) : (s.toList == l) = false := by
  rw [beq_eq_false_iff_ne]
  exact ne_toList h

/-- What madeOf leaves: a function that asks the letters. -/
theorem madeOf_any (L : ByteArray) (w : World) :
    Calls Tryd.prog 70 #[.string L] w fun e w' => e = .returned (.func (.func 75) #[] #[.pointer (some ⟨w.heap.size, 0, none⟩)]) ∧ w' = w.alloc (.cells #[.string L] 9) := by
  go_enter Tryd.func70, Tryd.ntmps70
  go_wp2
  go_ret
  exact ⟨rfl, rfl⟩

set_option maxRecDepth 100000 in
theorem right_any (s : ByteArray) (w : World) (hs : s.size ≤ 9223372036854775807) :
    Calls Tryd.prog 64 #[.string s] w fun e w' => e = .returned (.bool (rightB s)) ∧ Below w.heap.size w w' := by
  by_cases h1 : s.size < 1
  · have hr : rightB s = false := by simp [rightB]; omega
    rw [hr]
    go_enter Tryd.func64, Tryd.ntmps64
    go_wp2
    go_ret
    exact ⟨rfl, Below.refl _ _⟩
  · by_cases h2 : 40 < s.size
    · have hr : rightB s = false := by simp [rightB]; omega
      rw [hr]
      go_enter Tryd.func64, Tryd.ntmps64
      go_wp2
      go_ret
      exact ⟨rfl, Below.refl _ _⟩
    · by_cases h3 : s = ⟨#[46]⟩
      · subst h3
        have hr : rightB ⟨#[46]⟩ = false := by decide
        rw [hr]
        go_enter Tryd.func64, Tryd.ntmps64
        go_wp2
        go_ret
        exact ⟨rfl, Below.refl _ _⟩
      · by_cases h4 : s = ⟨#[46, 46]⟩
        · subst h4
          have hr : rightB ⟨#[46, 46]⟩ = false := by decide
          rw [hr]
          go_enter Tryd.func64, Tryd.ntmps64
          go_wp2
          go_ret
          exact ⟨rfl, Below.refl _ _⟩
        · rw [rightB_full (by omega) (by omega) h3 h4]
          have e3 := ne_toList (l := [46]) h3
          have e4 := ne_toList (l := [46, 46]) h4
          have b3 := ne_beq (l := [46]) h3
          have b4 := ne_beq (l := [46, 46]) h4
          have hc := madeOf1_any w.heap.size nameL s (w.alloc (.cells #[.string nameL] 9)) (by simp) (by rw [World.cell?_alloc_new]; rfl) hs
          have hm := madeOf_any nameL w
          unfold nameL at hm hc
          obtain ⟨r, hr⟩ : ∃ r, Hid (allIn nameL s = r) := ⟨_, rfl⟩
          rw [show allIn ⟨#[97, 98, 99, 100, 101, 102, 103, 104, 105, 106, 107, 108, 109, 110, 111, 112, 113, 114, 115, 116, 117, 118, 119, 120, 121, 122, 48, 49, 50, 51, 52, 53, 54, 55, 56, 57, 46, 95, 45]⟩ s = r from hr.out] at hc
          rw [hr.out]
          clear h3 h4
          go_enter Tryd.func64, Tryd.ntmps64
          go_wp2_with (first
            | (go_at_call 70; refine hm.mono ?_; rintro e w1 ⟨rfl, rfl⟩)
            | (go_at_call 75; refine hc.mono ?_; rintro e w2 ⟨rfl, hb2⟩))
          go_ret
          exact ⟨rfl, ((Below.refl _ w).alloc (Nat.le_refl _) _).trans (hb2.mono (by simp))⟩

set_option maxRecDepth 100000 in
/-- The reference's letter. -/
theorem letter_any (c : UInt8) (w : World) :
    Calls Tryd.prog 57 #[.int .u8 (c.toNat : Int)] w fun e w' => e = .returned (.bool (nameL.data.toList.contains c)) ∧ w = w' := by
  obtain ⟨L, hL⟩ : ∃ L, L = nameL := ⟨_, rfl⟩
  have hsz : L.size = 39 := by rw [hL]; rfl
  have hL2 : (⟨#[97, 98, 99, 100, 101, 102, 103, 104, 105, 106, 107, 108, 109, 110, 111, 112, 113, 114, 115, 116, 117, 118, 119, 120, 121, 122, 48, 49, 50, 51, 52, 53, 54, 55, 56, 57, 46, 95, 45]⟩ : ByteArray) = L := by rw [hL]; rfl
  rw [← hL]
  clear hL
  go_enter Tryd.func57, Tryd.ntmps57
  go_wp2
  go_loop [4] (fun i => ∃ k : Nat, k ≤ L.size ∧ i = .int .i64 (k : Int) ∧ Hid (∀ j (hj : j < L.size), j < k → L[j] ≠ c)) (fun i => L.size - (intOf i).toNat)
  case atStart => exact ⟨0, Nat.zero_le _, rfl, fun j _ h => absurd h (by omega)⟩
  case round =>
    obtain ⟨k, hk, rfl, hall⟩ := hrel
    by_cases hlt : k < L.size
    · by_cases he : L[k] = c
      · have hyes : Hid (decide (c ∈ L.data) = true) := by
          show _ = _
          rw [decide_eq_true_eq, ← Array.mem_toList_iff, ← he]
          exact List.getElem_mem (l := L.data.toList) (by simpa using hlt)
        have hq : ((L[k].toNat : Int) == (c.toNat : Int)) = true := by rw [he]; simp
        clear hall he
        go_wp2
        go_ret
        rw [hyes.out]
        exact ⟨rfl, rfl⟩
      · have hq : ((L[k].toNat : Int) == (c.toNat : Int)) = false := by
          rw [beq_eq_false_iff_ne]
          intro h
          exact he (UInt8.toNat_inj.1 (by omega))
        have hall2 : Hid (∀ j (hj : j < L.size), j < k + 1 → L[j] ≠ c) := by
          intro j hj hjk
          by_cases h : j = k
          · subst h; exact he
          · exact hall.out j hj (by omega)
        clear hall
        go_wp2
        go_round
        case rel => exact ⟨k + 1, by omega, by go_num, hall2⟩
        case measure => simp [intOf]; omega
    · have hk2 : k = L.size := by omega
      subst hk2
      have hno : Hid (decide (c ∈ L.data) = false) := by
        show _ = _
        rw [decide_eq_false_iff_not, ← Array.mem_toList_iff]
        intro h
        obtain ⟨j, hj, e⟩ := List.getElem_of_mem h
        exact hall.out j (by simpa using hj) (by simpa using hj) e
      clear hall
      go_wp2
      go_ret
      rw [hno.out]
      exact ⟨rfl, rfl⟩

set_option maxRecDepth 100000 in
theorem refright_any (s : ByteArray) (w : World) (hs : s.size ≤ 9223372036854775807) :
    Calls Tryd.prog 53 #[.string s] w fun e w' => e = .returned (.bool (rightB s)) ∧ w = w' := by
  go_enter Tryd.func53, Tryd.ntmps53
  go_wp2
  go_loop [3] (fun i => ∃ k : Nat, k ≤ s.size ∧ i = .int .i64 (k : Int) ∧ Hid (∀ j (hj : j < s.size), j < k → nameL.data.toList.contains s[j] = true)) (fun i => s.size - (intOf i).toNat)
  case atStart => exact ⟨0, Nat.zero_le _, rfl, fun j _ h => absurd h (by omega)⟩
  case round =>
    obtain ⟨k, hk, rfl, hall⟩ := hrel
    by_cases hlt : k < s.size
    · have hl := letter_any s[k]
      by_cases hin : nameL.data.toList.contains s[k] = true
      · rw [hin] at hl
        have hyes : Hid (∀ j (hj : j < s.size), j < k + 1 → nameL.data.toList.contains s[j] = true) := by
          intro j hj hjk
          by_cases hjk2 : j = k
          · subst hjk2; exact hin
          · exact hall.out j hj (by omega)
        clear hall hin
        go_wp2_with (go_at_call 57; refine (hl _).mono ?_; rintro e w1 ⟨rfl, rfl⟩)
        go_round
        case rel => exact ⟨k + 1, by omega, by go_num, hyes⟩
        case measure => simp [intOf]; omega
      · have hin2 : nameL.data.toList.contains s[k] = false := by simpa using hin
        rw [hin2] at hl
        have hno : Hid (rightB s = false) := by
          show _ = _
          unfold rightB
          rw [allIn_no hlt hin2]
          simp
        clear hall hin hin2
        go_wp2_with (go_at_call 57; refine (hl _).mono ?_; rintro e w1 ⟨rfl, rfl⟩)
        go_ret
        rw [hno.out]
        exact ⟨rfl, rfl⟩
    · have hk2 : k = s.size := by omega
      subst hk2
      have hyes := allIn_yes fun j hj => hall.out j hj hj
      clear hall
      by_cases h1 : s.size < 1
      · have hr : Hid (rightB s = false) := by show _ = _; simp [rightB]; omega
        clear hyes
        go_wp2
        go_ret
        rw [hr.out]
        exact ⟨rfl, rfl⟩
      · by_cases h2 : 40 < s.size
        · have hr : Hid (rightB s = false) := by show _ = _; simp [rightB]; omega
          clear hyes
          go_wp2
          go_ret
          rw [hr.out]
          exact ⟨rfl, rfl⟩
        · by_cases h3 : s = ⟨#[46]⟩
          · have hr : Hid (rightB s = false) := by rw [h3]; show _ = _; decide
            subst h3
            clear hyes
            go_wp2
            go_ret
            rw [hr.out]
            exact ⟨rfl, rfl⟩
          · by_cases h4 : s = ⟨#[46, 46]⟩
            · have hr : Hid (rightB s = false) := by rw [h4]; show _ = _; decide
              subst h4
              clear hyes
              go_wp2
              go_ret
              rw [hr.out]
              exact ⟨rfl, rfl⟩
            · have hr : Hid (rightB s = true) := by show _ = _; rw [rightB_full (by omega) (by omega) h3 h4]; exact hyes
              have e3 := ne_toList (l := [46]) h3
              have e4 := ne_toList (l := [46, 46]) h4
              have b3 := ne_beq (l := [46]) h3
              have b4 := ne_beq (l := [46, 46]) h4
              clear hyes h3 h4
              go_wp2
              go_ret
              rw [hr.out]
              exact ⟨rfl, rfl⟩
end Go.Proofs.YtempamboacbgiaaDoor
namespace Go.Proofs.YtempamboacbgiaaDoor
open Go.RowKit
set_option linter.unusedVariables false

theorem info_str : (Tryd.prog.info? 9).map (fun i => (i.zero, i.size, i.bytes)) = some (some (.string ByteArray.empty), 1, 16) := by kernel_rfl
theorem oneCell_str (ls : List (List UInt8)) : ∀ u ∈ ls.map encStr, u.oneCell' = true := by
  intro u hu
  obtain ⟨l, _, rfl⟩ := List.mem_map.1 hu
  rfl
theorem wpList_append_strs {w : World} {ops : Array Oper} {rest : List Oper} {o : Oper} {a : Act} {Q : Exit → Act → World → Prop} (hgd : o.guard = none) (s x : Operand)
    (ho : o.op = .call { callee := .builtin .append, args := #[s, x], argTypes := #[22, 22] })
    (B : Nat) (v : Value) (ls tt : List (List UInt8)) (hs : a.eval s = v) (hown : OwnS w B v ls) (A : Option Addr) (cap n : Nat) (hx : a.eval x = .slice A n cap) (hn : n = tt.length) (hnil : A = none → cap = 0) (ht : Strs w w.heap.size A (toBs tt)) (hB : B ≤ w.heap.size) (hle : ls.length + tt.length ≤ 1000000)
    (h : ∀ v' w', OwnS w' B v' (ls ++ tt) → w.grownBy w' v.ownBlock → wpList Tryd.prog ops Q rest (a.put o.dst v') w') : wpList Tryd.prog ops Q (o :: rest) a w := by
  subst hn
  obtain ⟨i0, hi, hz0, hz1, hz2⟩ := info_parts info_str
  cases A with
  | none =>
    have h0 : tt = [] := by
      cases tt with
      | nil => rfl
      | cons y r => exact absurd (ht (by simp [toBs])) (by rintro ⟨_, _, e, _⟩; cases e)
    subst h0
    rw [hnil rfl] at hx
    refine wpList_append_own_none hgd s x 22 ho B 9 i0 1 Tryd.underlying22 hi v _ _ hs hown hx ?_
    exact h v w (by simpa using hown) ⟨rfl, rfl, rfl, Nat.le_refl _, fun _ _ _ => rfl⟩
  | some ad =>
    refine wpList_append_own w hgd s x 22 ho B 9 i0 (.string ByteArray.empty) 1 16 Tryd.underlying22 hi hz0 hz1 hz2 rfl (by decide) v ls.length (ls.map encStr) hs hown ad tt.length cap (tt.map encStr) hx (by simp) ?_ (oneCell_str tt) (by unfold maxLen; omega) (by omega) hB ?_
    · intro j u hu
      obtain ⟨hj, hju⟩ := List.getElem?_eq_some_iff.1 hu
      have hj2 : j < tt.length := by simpa using hj
      obtain ⟨b, off, e, hb, hc⟩ := ht (by rw [toBs_len]; omega)
      simp only [Option.some.injEq] at e
      subst e
      have hadd : (⟨b, off, none⟩ : Addr).add j = ⟨b, off + j, none⟩ := by unfold Addr.add; split <;> simp_all
      rw [hadd, hc j (by rw [toBs_len]; exact hj2), ← hju]
      simp [toBs, encStr_eq]
    · intro v' w' hown' hgrow _
      refine h v' w' ?_ hgrow
      unfold OwnS
      rw [List.length_append, List.map_append]
      exact hown'
/-- The same, the new row's address and room named. -/
theorem wpList_append_row {w : World} {ops : Array Oper} {rest : List Oper} {o : Oper} {a : Act} {Q : Exit → Act → World → Prop} (hgd : o.guard = none) (s x : Operand)
    (ho : o.op = .call { callee := .builtin .append, args := #[s, x], argTypes := #[22, 22] })
    (B : Nat) (v : Value) (ls tt : List (List UInt8)) (hs : a.eval s = v) (hown : OwnS w B v ls) (A : Option Addr) (cap n : Nat) (hx : a.eval x = .slice A n cap) (hn : n = tt.length) (hnil : A = none → cap = 0) (ht : Strs w w.heap.size A (toBs tt)) (hB : B ≤ w.heap.size) (hle : ls.length + tt.length ≤ 1000000)
    (m : Nat) (hm : m = ls.length + tt.length)
    (h : ∀ A' cap' w', OwnS w' B (.slice A' m cap') (ls ++ tt) → Strs w' w'.heap.size A' (toBs (ls ++ tt)) → w.grownBy w' v.ownBlock → wpList Tryd.prog ops Q rest (a.put o.dst (.slice A' m cap')) w') : wpList Tryd.prog ops Q (o :: rest) a w := by
  refine wpList_append_strs hgd s x ho B v ls tt hs hown A cap n hx hn hnil ht hB hle fun v' w' ho' hg' => ?_
  obtain ⟨A', cap', rfl, hs', _, _⟩ := ho'.strs
  have e : (ls ++ tt).length = m := by rw [List.length_append, hm]
  rw [e] at ho' ⊢
  exact h A' cap' w' ho' hs' hg'
theorem ownBlock_ge {w : World} {B : Nat} {v : Value} {ls : List (List UInt8)} (h : OwnS w B v ls) : ∀ k, v.ownBlock = some k → B ≤ k := fun k hk => (World.ownsRow.lt h k hk).1
theorem Strs.take {w : World} {B : Nat} {A : Option Addr} {ls : List (List UInt8)} (h : Strs w B A (toBs ls)) (j : Nat) : Strs w B A (toBs (ls.take j)) := fun hp => by
  have hl : 0 < (toBs ls).length := by rw [toBs_len] at *; rw [List.length_take] at hp; omega
  obtain ⟨b, off, e, hb, hc⟩ := h hl
  refine ⟨b, off, e, hb, fun i hi => ?_⟩
  have hi2 : i < (toBs ls).length := by rw [toBs_len] at *; rw [List.length_take] at hi; omega
  rw [hc i hi2]
  simp [toBs]
theorem Strs.drop {w : World} {B b off : Nat} {ls : List (List UInt8)} (h : Strs w B (some ⟨b, off, none⟩) (toBs ls)) (j : Nat) : Strs w B (some ⟨b, off + j, none⟩) (toBs (ls.drop j)) := fun hp => by
  have hl : j < (toBs ls).length := by rw [toBs_len] at *; rw [List.length_drop] at hp; omega
  obtain ⟨b', off', e, hb, hc⟩ := h (by omega)
  cases e
  refine ⟨b, off + j, rfl, hb, fun i hi => ?_⟩
  have hi2 : j + i < (toBs ls).length := by rw [toBs_len] at *; rw [List.length_drop] at hi; omega
  rw [Nat.add_assoc, hc (j + i) hi2]
  simp [toBs]
theorem below_append {w0 w w' : World} {B : Nat} {v : Value} {ls : List (List UInt8)} (hb : Below B w0 w) (ho : OwnS w B v ls) (hg : w.grownBy w' v.ownBlock) (hB : B ≤ w0.heap.size) : Below B w0 w' :=
  hb.grown hg (Nat.le_trans hB hb.size) (ownBlock_ge ho)
theorem strs_one (w : World) (s : ByteArray) : Strs (w.alloc (.cells #[.string s] 9)) (w.alloc (.cells #[.string s] 9)).heap.size (some ⟨w.heap.size, 0, none⟩) (toBs [s.data.toList]) := by
  have h := strs_new w [s]
  have e : toBs [s.data.toList] = [s] := by simp [toBs, toB_of]
  rw [e]
  exact h.more (by simp)
/-- A part of a row of strings. -/
theorem Strs.part {w : World} {B : Nat} {A : Option Addr} {ls : List (List UInt8)} (h : Strs w B A (toBs ls)) (j n : Nat) (A2 : Option Addr) (hA : ∀ b off, A = some ⟨b, off, none⟩ → j < ls.length → A2 = some ⟨b, off + j, none⟩) : Strs w B A2 (toBs ((ls.drop j).take n)) := fun hp => by
  have hl : j < ls.length := by rw [toBs_len, List.length_take, List.length_drop] at hp; omega
  obtain ⟨b, off, e, hb, hc⟩ := h (by rw [toBs_len]; omega)
  refine ⟨b, off + j, hA b off e hl, hb, fun i hi => ?_⟩
  have hi2 : j + i < (toBs ls).length := by rw [toBs_len] at *; rw [List.length_take, List.length_drop] at hi; omega
  rw [Nat.add_assoc, hc (j + i) hi2]
  simp [toBs]

theorem add_row (b off a : Nat) : (⟨b, off, none⟩ : Addr).add a = ⟨b, off + a, none⟩ := by unfold Addr.add; split <;> simp_all
end Go.Proofs.YtempamboacbgiaaDoor
namespace Go.Proofs.YtempamboacbgiaaDoor
open Go.RowKit
set_option linter.unusedVariables false

/-- A call hands back a row of texts; new blocks alone are made. -/
def RowLeft (w : World) (ls : List (List UInt8)) (e : Ending) (w' : World) : Prop :=
  ∃ A cap, e = .returned (.slice A ls.length cap) ∧ (A = none → cap = 0) ∧ Strs w' w'.heap.size A (toBs ls) ∧ Below w.heap.size w w'
theorem cell_on {w w' : World} {b off : Nat} {v : Value} (h : w.cell? ⟨b, off, none⟩ = some v) (hb : Below w.heap.size w w') : w'.cell? ⟨b, off, none⟩ = some v := (hb.cell (p := ⟨b, off, none⟩) (World.block_lt_of_cell? _ _ h)).trans h
theorem grown_cell (w : World) (g i : Nat) (v : Value) : w.grownBy (w.setCell ⟨g, i, none⟩ v) (some g) :=
  ⟨rfl, rfl, rfl, by simp [World.setCell], fun k _ hne => Below.heap_setCell w _ v k (fun e => hne (by simp [e]))⟩
theorem grown_on {w w' w2 : World} {g : Nat} (h : w.grownBy w' (some g)) (h2 : w'.grownBy w2 (some g)) : w.grownBy w2 (some g) :=
  ⟨h2.os.trans h.os, h2.tape.trans h.tape, h2.output.trans h.output, Nat.le_trans h.size h2.size, fun k hk hne => (h2.block k (Nat.lt_of_lt_of_le hk h.size) hne).trans (h.block k hk hne)⟩
/-- Rows held while new blocks are made. -/
def Held (w0 w : World) (l : List (Option Addr × List (List UInt8))) : Prop :=
  Below w0.heap.size w0 w ∧ ∀ p ∈ l, Strs w w.heap.size p.1 (toBs p.2)
theorem Held.step {w0 w w' : World} {l : List (Option Addr × List (List UInt8))} (h : Held w0 w l) (hb : Below w.heap.size w w') : Held w0 w' l :=
  ⟨h.1.trans (hb.mono h.1.size), fun p hp => (h.2 p hp).on hb⟩
theorem Held.get {w0 w : World} {l : List (Option Addr × List (List UInt8))} {A : Option Addr} {ls : List (List UInt8)} (h : Held w0 w l) (hp : (A, ls) ∈ l) : Strs w w.heap.size A (toBs ls) := h.2 _ hp
theorem Held.nil (w : World) : Held w w [] := ⟨Below.refl _ _, fun p hp => by cases hp⟩
end Go.Proofs.YtempamboacbgiaaDoor
