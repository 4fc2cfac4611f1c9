
/- Words for memory: strings that lie in a row; rows that a call made. -/
import Derived.WalkKit
import Derived.Below
import Derived.Laws.AppendOwn
import Derived.Lib.OwnBridge
import Derived.Lib.Hide
import Derived.Sort.Walk0
import Derived.Shelf.GgClosure.Gives
import Derived.Test.YthenlajknoddcaaDoorProg
import Derived.Test.YthenlajknoddcaaDoorSetPlain
namespace Go.Proofs.YthenlajknoddcaaDoor
open Go.RowKit
set_option linter.unusedVariables false

/-- Strings lie at A, one a cell, in a block below B. -/
def Strs (w : World) (B : Nat) (A : Option Addr) (ss : List ByteArray) : Prop :=
  0 < ss.length → ∃ b off, A = some ⟨b, off, none⟩ ∧ b < B ∧ ∀ j (h : j < ss.length), w.cell? ⟨b, off + j, none⟩ = some (.string ss[j])
/-- The bytes of strings. -/
def lists (ss : List ByteArray) : List (List UInt8) := ss.map (·.data.toList)
def toB (l : List UInt8) : ByteArray := ⟨l.toArray⟩
def toBs (l : List (List UInt8)) : List ByteArray := l.map toB

theorem toList_eq (bs : ByteArray) : bs.toList = bs.data.toList := ByteArray.toList_eq bs
theorem toB_of (s : ByteArray) : toB s.data.toList = s := by cases s; simp [toB]
theorem of_toB (l : List UInt8) : (toB l).data.toList = l := by simp [toB]
theorem toB_inj {l m : List UInt8} (h : toB l = toB m) : l = m := by rw [← of_toB l, h, of_toB]
theorem bytes_inj {s t : ByteArray} (h : s.data.toList = t.data.toList) : s = t := by rw [← toB_of s, h, toB_of]
theorem toBs_lists (ss : List ByteArray) : toBs (lists ss) = ss := by
  unfold toBs lists
  rw [List.map_map]
  exact (List.map_congr_left fun s _ => toB_of s).trans (List.map_id _)
theorem lists_toBs (ls : List (List UInt8)) : lists (toBs ls) = ls := by
  unfold toBs lists
  rw [List.map_map]
  exact (List.map_congr_left fun s _ => of_toB s).trans (List.map_id _)
theorem lists_len (ss : List ByteArray) : (lists ss).length = ss.length := by simp [lists]
theorem toBs_len (ls : List (List UInt8)) : (toBs ls).length = ls.length := by simp [toBs]
theorem lists_inj {ss tt : List ByteArray} (h : lists ss = lists tt) : ss = tt := by rw [← toBs_lists ss, h, toBs_lists]
theorem encStr_eq (l : List UInt8) : encStr l = .string (toB l) := rfl
theorem map_enc (ss : List ByteArray) : (lists ss).map encStr = ss.map Value.string := Lib.map_encStr ss

section
variable {w w' : World} {B B' : Nat} {A : Option Addr} {ss : List ByteArray}
theorem Strs.none_ : Strs w B A [] := fun h => absurd h (by simp)
theorem Strs.at_ {k : Nat} (h : Strs w B A ss) (hk : k < ss.length) : ∃ b off, A = some ⟨b, off, none⟩ ∧ b < B ∧ w.cell? ⟨b, off + k, none⟩ = some (.string ss[k]) := by
  obtain ⟨b, off, e, hb, hc⟩ := h (by omega)
  exact ⟨b, off, e, hb, hc k hk⟩
theorem Strs.below (h : Strs w B A ss) (hb : Below B w w') : Strs w' B A ss := fun hp => by
  obtain ⟨b, off, e, hlt, hc⟩ := h hp
  exact ⟨b, off, e, hlt, fun j hj => (hb.cell (p := ⟨b, off + j, none⟩) hlt).trans (hc j hj)⟩
theorem Strs.more (h : Strs w B A ss) (hB : B ≤ B') : Strs w B' A ss := fun hp => by
  obtain ⟨b, off, e, hlt, hc⟩ := h hp
  exact ⟨b, off, e, by omega, hc⟩
/-- Behind a call that made new blocks alone. -/
theorem Strs.on (h : Strs w w.heap.size A ss) (hb : Below w.heap.size w w') : Strs w' w'.heap.size A ss := (h.below hb).more hb.size
end

theorem below_drewN {B : Nat} {a w : World} (h : Below B a w) (n : Nat) : Below B a (w.drewN n) := ⟨h.os, h.tape, h.output, h.size, h.block⟩
/-- Cells of a row that is written out. -/
theorem strs_new (w : World) (ss : List ByteArray) : Strs (w.alloc (.cells (ss.map Value.string).toArray 9)) (w.heap.size + 1) (some ⟨w.heap.size, 0, none⟩) ss := fun _ =>
  ⟨w.heap.size, 0, rfl, by omega, fun j hj => by rw [World.cell?_alloc_new]; simp [hj]⟩

/-- A slice's room: nil has none, its length fits. -/
def Room (A : Option Addr) (n cap : Nat) : Prop := (A = none → cap = 0) ∧ n ≤ cap
/-- A slice of strings that the call made: its row begins a block at or above B, no other slice shares it. -/
def OwnS (w : World) (B : Nat) (v : Value) (ls : List (List UInt8)) : Prop := w.ownsRow B 9 1 v ls.length (ls.map encStr)
theorem OwnS.nil (w : World) (B : Nat) : OwnS w B (.slice none 0 0) [] := w.ownsRow_nil B 9 1
theorem OwnS.strs {w : World} {B : Nat} {v : Value} {ls : List (List UInt8)} (h : OwnS w B v ls) : ∃ A cap, v = .slice A ls.length cap ∧ Strs w w.heap.size A (toBs ls) ∧ cap ≤ maxLen ∧ (A = none → ls = []) := by
  rcases h.2 with ⟨rfl, h0⟩ | ⟨g, cap, cur, rfl, hb, hg, hn, hm, hsz, ht⟩
  · exact ⟨none, 0, by rw [h0], fun hp => by rw [toBs_len] at hp; omega, by simp, fun _ => List.length_eq_zero_iff.1 h0⟩
  · refine ⟨some ⟨g, 0, none⟩, cap, rfl, fun hp => ⟨g, 0, rfl, (Array.getElem?_eq_some_iff.1 hg).1, fun j hj => ?_⟩, hm, fun e => by cases e⟩
    have hj2 : j < ls.length := by rw [toBs_len] at hj; exact hj
    have e1 : (cur.toList.take (ls.length * 1))[j]? = (ls.map encStr)[j]? := by rw [ht]
    rw [List.getElem?_take, if_pos (by omega), Array.getElem?_toList, List.getElem?_map, List.getElem?_eq_getElem hj2] at e1
    simp only [World.cell?, hg, Nat.zero_add, Option.isSome_none, Bool.false_eq_true, if_false]
    rw [e1]
    simp [toBs, encStr_eq]
theorem OwnS.at_ {w : World} {B n cap : Nat} {A : Option Addr} {ls : List (List UInt8)} (h : OwnS w B (.slice A n cap) ls) : Strs w w.heap.size A (toBs ls) ∧ Room A n cap ∧ n = ls.length := by
  obtain ⟨A2, cap2, he, hs, _, _⟩ := h.strs
  simp only [Value.slice.injEq] at he
  obtain ⟨rfl, rfl, rfl⟩ := he
  refine ⟨hs, ⟨fun hA => ?_, ?_⟩, rfl⟩
  · rcases h.2 with ⟨he, _⟩ | ⟨g, c, cur, he, _⟩
    · simp only [Value.slice.injEq] at he; exact he.2.2
    · simp only [Value.slice.injEq] at he
      rw [hA] at he
      cases he.1
  · rcases h.2 with ⟨he, hn⟩ | ⟨g, c, cur, he, _, _, hn, _⟩
    · omega
    · simp only [Value.slice.injEq] at he
      omega
theorem OwnS.ne {w : World} {B g : Nat} {v : Value} {ls : List (List UInt8)} (h : OwnS w B v ls) (hg : g < B) : v.ownBlock ≠ some g := fun he => by
  have := (World.ownsRow.lt h g he).1
  omega
theorem below_grown {w0 w w' : World} {g : Nat} (h : Below w0.heap.size w0 w) (hg : w.grownBy w' (some g)) (hB : w0.heap.size ≤ g) : Below w0.heap.size w0 w' :=
  h.grown hg h.size (fun k hk => by simp only [Option.some.injEq] at hk; omega)
theorem OwnS.kept {w w' : World} {B : Nat} {v : Value} {ls : List (List UInt8)} (h : OwnS w B v ls) (hb : Below w.heap.size w w') : OwnS w' B v ls :=
  World.ownsRow.kept h (row := none) ⟨hb.os, hb.tape, hb.output, hb.size, fun i hi _ => hb.block i hi⟩ (by cases v.ownBlock <;> simp)
theorem OwnS.more {w : World} {B B' : Nat} {v : Value} {ls : List (List UInt8)} (h : OwnS w B v ls) (hB : B' ≤ B) : OwnS w B' v ls := by
  refine ⟨h.1, h.2.imp id ?_⟩
  rintro ⟨g, cap, cur, e, hb, r⟩
  exact ⟨g, cap, cur, e, by omega, r⟩
end Go.Proofs.YthenlajknoddcaaDoor
