/- Sets of texts, plainly: rising byte by byte, each once. Words for memory: strings that lie in a row; rows that a call made. append of strings to a row that the call made. Rows of records of any kind, each of some cells: as they lie, as a call makes them: append, parts. -/
import Derived.Lib.SlicesCompact
import Derived.WalkKit
import Derived.Below
import Derived.Laws.AppendOwn
import Derived.Lib.OwnBridge
import Derived.Lib.Hide
import Derived.Sort.Walk0
import Derived.Shelf.GgClosure.Gives
import Derived.Test.YtifkpelcdihdoaaGreatDoorProg
import Derived.Laws.AppendOwnNone
import Derived.OwnWalk
import Derived.Deep.AppendLies
import Derived.BigQuiet
import Derived.Deep.QuietTactic
import Derived.Handy
namespace Go.Proofs.YtifkpelcdihdoaaGreatDoor
set_option linter.unusedVariables false

/-- A text put into a set. -/
def ins (x : List UInt8) : List (List UInt8) → List (List UInt8)
  | [] => [x]
  | y :: r => if y < x then y :: ins x r else if y = x then y :: r else x :: y :: r
/-- The texts as a set. -/
def setS (l : List (List UInt8)) : List (List UInt8) := l.foldl (fun a x => ins x a) []

theorem t_irrefl (x : List UInt8) : ¬ x < x := List.lt_irrefl x
theorem t_trans {x y z : List UInt8} (h : x < y) (h2 : y < z) : x < z := List.lt_trans h h2
theorem t_tri {x y : List UInt8} (h : ¬ x < y) (h2 : x ≠ y) : y < x := by
  rcases Decidable.em (y < x) with h3 | h3
  · exact h3
  · exact absurd (List.le_antisymm (List.not_lt.1 h3) (List.not_lt.1 h)) h2
theorem t_lt_of_le {x y : List UInt8} (h : x ≤ y) (h2 : x ≠ y) : x < y := by
  rcases Decidable.em (x < y) with h3 | h3
  · exact h3
  · exact absurd (List.le_antisymm h (List.not_lt.1 h3)) h2
theorem t_le_trans {x y z : List UInt8} (h : x ≤ y) (h2 : y < z) : x < z := List.lt_of_le_of_lt h h2

theorem mem_ins (z x : List UInt8) : ∀ l, z ∈ ins x l ↔ z = x ∨ z ∈ l
  | [] => by simp [ins]
  | y :: r => by
    unfold ins
    have ih := mem_ins z x r
    split
    · simp only [List.mem_cons, ih]
      constructor
      · rintro (h | h | h) <;> simp [h]
      · rintro (h | h | h) <;> simp [h]
    · split
      · rename_i h; subst h; simp
      · simp
def Rising (l : List (List UInt8)) : Prop := l.Pairwise (· < ·)
theorem rising_ins (x : List UInt8) : ∀ l, Rising l → Rising (ins x l)
  | [], _ => by simp [ins, Rising]
  | y :: r, h => by
    unfold Rising at h
    obtain ⟨h1, h2⟩ := List.pairwise_cons.1 h
    unfold ins
    split
    · rename_i hlt
      refine List.pairwise_cons.2 ⟨fun z hz => ?_, rising_ins x r h2⟩
      rcases (mem_ins z x r).1 hz with rfl | hz
      · exact hlt
      · exact h1 z hz
    · split
      · exact h
      · rename_i hn hne
        have hxy : x < y := t_tri hn hne
        refine List.pairwise_cons.2 ⟨fun z hz => ?_, h⟩
        rcases List.mem_cons.1 hz with rfl | hz
        · exact hxy
        · exact t_trans hxy (h1 z hz)
theorem setS_snoc (l : List (List UInt8)) (x : List UInt8) : setS (l ++ [x]) = ins x (setS l) := by simp [setS]
theorem mem_setS (z : List UInt8) (l : List (List UInt8)) : z ∈ setS l ↔ z ∈ l := by
  suffices h : ∀ (l a : List (List UInt8)), z ∈ l.foldl (fun a x => ins x a) a ↔ z ∈ l ∨ z ∈ a by simpa [setS] using h l []
  intro l
  induction l with
  | nil => simp
  | cons x r ih =>
    intro a
    simp only [List.foldl_cons, ih, mem_ins, List.mem_cons]
    constructor
    · rintro (h | h | h) <;> simp [h]
    · rintro ((h | h) | h) <;> simp [h]
theorem rising_setS (l : List (List UInt8)) : Rising (setS l) := by
  suffices h : ∀ (l a : List (List UInt8)), Rising a → Rising (l.foldl (fun a x => ins x a) a) from h l [] List.Pairwise.nil
  intro l
  induction l with
  | nil => exact fun a h => h
  | cons x r ih => exact fun a h => ih _ (rising_ins x a h)
/-- Two rising rows of the same texts are one. -/
theorem rising_ext : ∀ {a b : List (List UInt8)}, Rising a → Rising b → (∀ z, z ∈ a ↔ z ∈ b) → a = b
  | [], [], _, _, _ => rfl
  | [], y :: r, _, _, h => absurd ((h y).2 (by simp)) (by simp)
  | x :: s, [], _, _, h => absurd ((h x).1 (by simp)) (by simp)
  | x :: s, y :: r, ha, hb, h => by
    obtain ⟨h1, h2⟩ := List.pairwise_cons.1 ha
    obtain ⟨h3, h4⟩ := List.pairwise_cons.1 hb
    have hxy : x = y := by
      rcases List.mem_cons.1 ((h x).1 (by simp)) with e | hx
      · exact e
      · rcases List.mem_cons.1 ((h y).2 (by simp)) with e | hy
        · exact e.symm
        · exact absurd (t_trans (h3 x hx) (h1 y hy)) (t_irrefl y)
    subst hxy
    rw [rising_ext h2 h4 fun z => ?_]
    constructor
    · intro hz
      rcases List.mem_cons.1 ((h z).1 (List.mem_cons_of_mem _ hz)) with e | hz2
      · subst e; exact absurd (h1 z hz) (t_irrefl z)
      · exact hz2
    · intro hz
      rcases List.mem_cons.1 ((h z).2 (List.mem_cons_of_mem _ hz)) with e | hz2
      · subst e; exact absurd (h3 z hz) (t_irrefl z)
      · exact hz2
theorem rising_filter {a : List (List UInt8)} (h : Rising a) (p : List UInt8 → Bool) : Rising (a.filter p) := h.filter p

/-- Sorted, and each run cut to one: the set. -/
theorem compact_sorted (l : List (List UInt8)) : Lib.compact (l.mergeSort fun x y => decide (x ≤ y)) = setS l := by
  have hs : (l.mergeSort fun x y => decide (x ≤ y)).Pairwise (fun x y => x ≤ y) := by
    have := List.pairwise_mergeSort (le := fun (x y : List UInt8) => decide (x ≤ y)) (by
      intro a b c h1 h2
      simp only [decide_eq_true_eq] at *
      exact List.le_trans h1 h2) (by
      intro a b
      simp only [Bool.or_eq_true, decide_eq_true_eq]
      exact List.le_total a b) l
    exact this.imp (by simp)
  have hm : ∀ z, z ∈ (l.mergeSort fun x y => decide (x ≤ y)) ↔ z ∈ l := fun z => List.mem_mergeSort
  generalize (l.mergeSort fun x y => decide (x ≤ y)) = s at *
  have hget : ∀ i j, i ≤ j → j < s.length → s.toArray[i]! ≤ s.toArray[j]! := by
    intro i j hij hj
    rw [getElem!_pos s.toArray i (by simpa using (by omega : i < s.length)), getElem!_pos s.toArray j (by simpa using hj)]
    rcases Nat.lt_or_eq_of_le hij with h | h
    · exact List.pairwise_iff_getElem.1 hs i j (by omega) hj h
    · subst h; exact List.le_refl _
  refine rising_ext ?_ (rising_setS l) fun z => ?_
  · unfold Lib.compact Lib.compactUpTo Rising
    rw [List.pairwise_map]
    have hr : (List.range s.length).Pairwise (· < ·) := List.pairwise_lt_range
    refine (hr.filter _).imp_of_mem ?_
    intro i j hi hj hij
    obtain ⟨hi1, hi2⟩ := List.mem_filter.1 hi
    obtain ⟨hj1, hj2⟩ := List.mem_filter.1 hj
    have hjl := List.mem_range.1 hj1
    simp only [Lib.keeps, decide_eq_true_eq] at hj2
    have hne : s.toArray[j]! ≠ s.toArray[j - 1]! := by
      rcases hj2 with h | h
      · omega
      · exact h
    exact t_le_trans (hget i (j - 1) (by omega) (by omega)) (t_lt_of_le (hget (j - 1) j (by omega) hjl) (Ne.symm hne))
  · rw [mem_setS, ← hm z]
    unfold Lib.compact Lib.compactUpTo
    simp only [List.mem_map, List.mem_filter, List.mem_range]
    constructor
    · rintro ⟨i, ⟨hi, _⟩, rfl⟩
      rw [getElem!_pos s.toArray i (by simpa using hi)]
      simp
    · intro hz
      obtain ⟨i, hi, rfl⟩ := List.getElem_of_mem hz
      have : ∀ i, (h : i < s.length) → ∃ a, (a < s.length ∧ Lib.keeps s.toArray a = true) ∧ s.toArray[a]! = s[i] := by
        intro i
        induction i with
        | zero => exact fun h => ⟨0, ⟨h, by simp [Lib.keeps]⟩, by rw [getElem!_pos s.toArray 0 (by simpa using h)]; simp⟩
        | succ i ih =>
          intro h
          by_cases he : s[i + 1] = s[i]
          · rw [he]; exact ih (by omega)
          · refine ⟨i + 1, ⟨h, ?_⟩, by rw [getElem!_pos s.toArray (i + 1) (by simpa using h)]; simp⟩
            simp only [Lib.keeps, decide_eq_true_eq]
            refine .inr ?_
            rw [getElem!_pos s.toArray (i + 1) (by simpa using h), getElem!_pos s.toArray (i + 1 - 1) (by simp; omega)]
            simpa using he
      exact this i hi

/-- Where a text goes into a set: behind k texts below it. -/
theorem ins_at (x : List UInt8) : ∀ (l : List (List UInt8)) (k : Nat), k ≤ l.length → (∀ j (h : j < l.length), j < k → l[j] < x) →
    (∀ h : k < l.length, ¬ l[k] < x) → ins x l = if h : k < l.length then (if l[k] = x then l else l.take k ++ x :: l.drop k) else l ++ [x]
  | [], k, hk, _, _ => by simp at hk; subst hk; simp [ins]
  | y :: r, 0, _, _, h => by
    have h0 : ¬ y < x := h (by simp)
    simp only [ins, h0, if_false]
    simp
  | y :: r, k + 1, hk, h1, h2 => by
    have hy : y < x := h1 0 (by simp) (by omega)
    simp only [ins, hy, if_true]
    rw [ins_at x r k (by simpa using hk) (fun j h hj => h1 (j + 1) (by simpa using h) (by omega)) (fun h => h2 (by simpa using h))]
    by_cases hkl : k < r.length
    · simp only [hkl, dif_pos, List.length_cons, Nat.add_lt_add_iff_right, List.getElem_cons_succ]
      split <;> simp
    · simp [hkl]
theorem ins_found {x : List UInt8} {l : List (List UInt8)} {k : Nat} (hk : k < l.length) (h1 : ∀ j (h : j < l.length), j < k → l[j] < x) (h2 : l[k] = x) : ins x l = l := by
  rw [ins_at x l k (by omega) h1 (fun _ => by rw [h2]; exact t_irrefl x), dif_pos hk, if_pos h2]
theorem ins_new {x : List UInt8} {l : List (List UInt8)} {k : Nat} (hk : k ≤ l.length) (h1 : ∀ j (h : j < l.length), j < k → l[j] < x) (h2 : ∀ h : k < l.length, ¬ l[k] < x ∧ l[k] ≠ x) : ins x l = l.take k ++ x :: l.drop k := by
  rw [ins_at x l k hk h1 (fun h => (h2 h).1)]
  by_cases h : k < l.length
  · rw [dif_pos h, if_neg (h2 h).2]
  · rw [dif_neg h]
    obtain rfl : k = l.length := by omega
    simp
end Go.Proofs.YtifkpelcdihdoaaGreatDoor
namespace Go.Proofs.YtifkpelcdihdoaaGreatDoor
open Go.RowKit
set_option linter.unusedVariables false

/-- Strings lie at A, one a cell, in a block below B. -/
def Strs (w : World) (B : Nat) (A : Option Addr) (ss : List ByteArray) : Prop :=
  0 < ss.length → ∃ b off, A = some ⟨b, off, none⟩ ∧ b < B ∧ ∀ j (h : j < ss.length), w.cell? ⟨b, off + j, none⟩ = some (.string ss[j])
/-- The bytes of strings. -/
def lists (ss : List ByteArray) : List (List UInt8) := ss.map (·.data.toList)
def toB (l : List UInt8) : ByteArray := ⟨l.toArray⟩
def toBs (l : List (List UInt8)) : List ByteArray := l.map toB

theorem toList_eq (bs : ByteArray) : bs.toList = bs.data.toList := ByteArray.toList_eq bs
theorem toB_of (s : ByteArray) : toB s.data.toList = s := by cases s; simp [toB]
theorem of_toB (l : List UInt8) : (toB l).data.toList = l := by simp [toB]
theorem bytes_inj {s t : ByteArray} (h : s.data.toList = t.data.toList) : s = t := by rw [← toB_of s, h, toB_of]
theorem toBs_lists (ss : List ByteArray) : toBs (lists ss) = ss := by
  unfold toBs lists
  rw [List.map_map]
  exact (List.map_congr_left fun s _ => toB_of s).trans (List.map_id _)
theorem lists_toBs (ls : List (List UInt8)) : lists (toBs ls) = ls := by
  unfold toBs lists
  rw [List.map_map]
  exact (List.map_congr_left fun s _ => of_toB s).trans (List.map_id _)
theorem lists_len (ss : List ByteArray) : (lists ss).length = ss.length := by simp [lists]
theorem toBs_len (ls : List (List UInt8)) : (toBs ls).length = ls.length := by simp [toBs]
theorem encStr_eq (l : List UInt8) : encStr l = .string (toB l) := rfl
theorem map_enc (ss : List ByteArray) : (lists ss).map encStr = ss.map Value.string := Lib.map_encStr ss

section
variable {w w' : World} {B B' : Nat} {A : Option Addr} {ss : List ByteArray}
theorem Strs.none_ : Strs w B A [] := fun h => absurd h (by simp)
theorem Strs.at_ {k : Nat} (h : Strs w B A ss) (hk : k < ss.length) : ∃ b off, A = some ⟨b, off, none⟩ ∧ b < B ∧ w.cell? ⟨b, off + k, none⟩ = some (.string ss[k]) := by
  obtain ⟨b, off, e, hb, hc⟩ := h (by omega)
  exact ⟨b, off, e, hb, hc k hk⟩
theorem Strs.below (h : Strs w B A ss) (hb : Below B w w') : Strs w' B A ss := fun hp => by
  obtain ⟨b, off, e, hlt, hc⟩ := h hp
  exact ⟨b, off, e, hlt, fun j hj => (hb.cell (p := ⟨b, off + j, none⟩) hlt).trans (hc j hj)⟩
theorem Strs.more (h : Strs w B A ss) (hB : B ≤ B') : Strs w B' A ss := fun hp => by
  obtain ⟨b, off, e, hlt, hc⟩ := h hp
  exact ⟨b, off, e, by omega, hc⟩
/-- Behind a call that made new blocks alone. -/
theorem Strs.on (h : Strs w w.heap.size A ss) (hb : Below w.heap.size w w') : Strs w' w'.heap.size A ss := (h.below hb).more hb.size
end

theorem below_drewN {B : Nat} {a w : World} (h : Below B a w) (n : Nat) : Below B a (w.drewN n) := ⟨h.os, h.tape, h.output, h.size, h.block⟩
/-- Cells of a row that is written out. -/
theorem strs_new (w : World) (ss : List ByteArray) : Strs (w.alloc (.cells (ss.map Value.string).toArray 9)) (w.heap.size + 1) (some ⟨w.heap.size, 0, none⟩) ss := fun _ =>
  ⟨w.heap.size, 0, rfl, by omega, fun j hj => by rw [World.cell?_alloc_new]; simp [hj]⟩

/-- A slice's room: nil has none, its length fits. -/
def Room (A : Option Addr) (n cap : Nat) : Prop := (A = none → cap = 0) ∧ n ≤ cap
/-- A slice of strings that the call made: its row begins a block at or above B, no other slice shares it. -/
def OwnS (w : World) (B : Nat) (v : Value) (ls : List (List UInt8)) : Prop := w.ownsRow B 9 1 v ls.length (ls.map encStr)
theorem OwnS.nil (w : World) (B : Nat) : OwnS w B (.slice none 0 0) [] := w.ownsRow_nil B 9 1
theorem OwnS.strs {w : World} {B : Nat} {v : Value} {ls : List (List UInt8)} (h : OwnS w B v ls) : ∃ A cap, v = .slice A ls.length cap ∧ Strs w w.heap.size A (toBs ls) ∧ cap ≤ maxLen ∧ (A = none → ls = []) := by
  rcases h.2 with ⟨rfl, h0⟩ | ⟨g, cap, cur, rfl, hb, hg, hn, hm, hsz, ht⟩
  · exact ⟨none, 0, by rw [h0], fun hp => by rw [toBs_len] at hp; omega, by simp, fun _ => List.length_eq_zero_iff.1 h0⟩
  · refine ⟨some ⟨g, 0, none⟩, cap, rfl, fun hp => ⟨g, 0, rfl, (Array.getElem?_eq_some_iff.1 hg).1, fun j hj => ?_⟩, hm, fun e => by cases e⟩
    have hj2 : j < ls.length := by rw [toBs_len] at hj; exact hj
    have e1 : (cur.toList.take (ls.length * 1))[j]? = (ls.map encStr)[j]? := by rw [ht]
    rw [List.getElem?_take, if_pos (by omega), Array.getElem?_toList, List.getElem?_map, List.getElem?_eq_getElem hj2] at e1
    simp only [World.cell?, hg, Nat.zero_add, Option.isSome_none, Bool.false_eq_true, if_false]
    rw [e1]
    simp [toBs, encStr_eq]
theorem OwnS.at_ {w : World} {B n cap : Nat} {A : Option Addr} {ls : List (List UInt8)} (h : OwnS w B (.slice A n cap) ls) : Strs w w.heap.size A (toBs ls) ∧ Room A n cap ∧ n = ls.length := by
  obtain ⟨A2, cap2, he, hs, _, _⟩ := h.strs
  simp only [Value.slice.injEq] at he
  obtain ⟨rfl, rfl, rfl⟩ := he
  refine ⟨hs, ⟨fun hA => ?_, ?_⟩, rfl⟩
  · rcases h.2 with ⟨he, _⟩ | ⟨g, c, cur, he, _⟩
    · simp only [Value.slice.injEq] at he; exact he.2.2
    · simp only [Value.slice.injEq] at he
      rw [hA] at he
      cases he.1
  · rcases h.2 with ⟨he, hn⟩ | ⟨g, c, cur, he, _, _, hn, _⟩
    · omega
    · simp only [Value.slice.injEq] at he
      omega
theorem OwnS.ne {w : World} {B g : Nat} {v : Value} {ls : List (List UInt8)} (h : OwnS w B v ls) (hg : g < B) : v.ownBlock ≠ some g := fun he => by
  have := (World.ownsRow.lt h g he).1
  omega
theorem OwnS.kept {w w' : World} {B : Nat} {v : Value} {ls : List (List UInt8)} (h : OwnS w B v ls) (hb : Below w.heap.size w w') : OwnS w' B v ls :=
  World.ownsRow.kept h (row := none) ⟨hb.os, hb.tape, hb.output, hb.size, fun i hi _ => hb.block i hi⟩ (by cases v.ownBlock <;> simp)
theorem OwnS.more {w : World} {B B' : Nat} {v : Value} {ls : List (List UInt8)} (h : OwnS w B v ls) (hB : B' ≤ B) : OwnS w B' v ls := by
  refine ⟨h.1, h.2.imp id ?_⟩
  rintro ⟨g, cap, cur, e, hb, r⟩
  exact ⟨g, cap, cur, e, by omega, r⟩
end Go.Proofs.YtifkpelcdihdoaaGreatDoor
namespace Go.Proofs.YtifkpelcdihdoaaGreatDoor
open Go.RowKit
set_option linter.unusedVariables false

theorem info_str : (Tryz.prog.info? 9).map (fun i => (i.zero, i.size, i.bytes)) = some (some (.string ByteArray.empty), 1, 16) := by kernel_rfl
theorem oneCell_str (ls : List (List UInt8)) : ∀ u ∈ ls.map encStr, u.oneCell' = true := by
  intro u hu
  obtain ⟨l, _, rfl⟩ := List.mem_map.1 hu
  rfl
theorem wpList_append_strs {w : World} {ops : Array Oper} {rest : List Oper} {o : Oper} {a : Act} {Q : Exit → Act → World → Prop} (hgd : o.guard = none) (s x : Operand)
    (ho : o.op = .call { callee := .builtin .append, args := #[s, x], argTypes := #[23, 23] })
    (B : Nat) (v : Value) (ls tt : List (List UInt8)) (hs : a.eval s = v) (hown : OwnS w B v ls) (A : Option Addr) (cap n : Nat) (hx : a.eval x = .slice A n cap) (hn : n = tt.length) (hnil : A = none → cap = 0) (ht : Strs w w.heap.size A (toBs tt)) (hB : B ≤ w.heap.size) (hle : ls.length + tt.length ≤ 1000000)
    (h : ∀ v' w', OwnS w' B v' (ls ++ tt) → w.grownBy w' v.ownBlock → wpList Tryz.prog ops Q rest (a.put o.dst v') w') : wpList Tryz.prog ops Q (o :: rest) a w := by
  subst hn
  obtain ⟨i0, hi, hz0, hz1, hz2⟩ := info_parts info_str
  cases A with
  | none =>
    have h0 : tt = [] := by
      cases tt with
      | nil => rfl
      | cons y r => exact absurd (ht (by simp [toBs])) (by rintro ⟨_, _, e, _⟩; cases e)
    subst h0
    rw [hnil rfl] at hx
    refine wpList_append_own_none hgd s x 23 ho B 9 i0 1 Tryz.underlying23 hi v _ _ hs hown hx ?_
    exact h v w (by simpa using hown) ⟨rfl, rfl, rfl, Nat.le_refl _, fun _ _ _ => rfl⟩
  | some ad =>
    refine wpList_append_own w hgd s x 23 ho B 9 i0 (.string ByteArray.empty) 1 16 Tryz.underlying23 hi hz0 hz1 hz2 rfl (by decide) v ls.length (ls.map encStr) hs hown ad tt.length cap (tt.map encStr) hx (by simp) ?_ (oneCell_str tt) (by unfold maxLen; omega) (by omega) hB ?_
    · intro j u hu
      obtain ⟨hj, hju⟩ := List.getElem?_eq_some_iff.1 hu
      have hj2 : j < tt.length := by simpa using hj
      obtain ⟨b, off, e, hb, hc⟩ := ht (by rw [toBs_len]; omega)
      simp only [Option.some.injEq] at e
      subst e
      have hadd : (⟨b, off, none⟩ : Addr).add j = ⟨b, off + j, none⟩ := by unfold Addr.add; split <;> simp_all
      rw [hadd, hc j (by rw [toBs_len]; exact hj2), ← hju]
      simp [toBs, encStr_eq]
    · intro v' w' hown' hgrow _
      refine h v' w' ?_ hgrow
      unfold OwnS
      rw [List.length_append, List.map_append]
      exact hown'
/-- The same, the new row's address and room named. -/
theorem wpList_append_row {w : World} {ops : Array Oper} {rest : List Oper} {o : Oper} {a : Act} {Q : Exit → Act → World → Prop} (hgd : o.guard = none) (s x : Operand)
    (ho : o.op = .call { callee := .builtin .append, args := #[s, x], argTypes := #[23, 23] })
    (B : Nat) (v : Value) (ls tt : List (List UInt8)) (hs : a.eval s = v) (hown : OwnS w B v ls) (A : Option Addr) (cap n : Nat) (hx : a.eval x = .slice A n cap) (hn : n = tt.length) (hnil : A = none → cap = 0) (ht : Strs w w.heap.size A (toBs tt)) (hB : B ≤ w.heap.size) (hle : ls.length + tt.length ≤ 1000000)
    (m : Nat) (hm : m = ls.length + tt.length)
    (h : ∀ A' cap' w', OwnS w' B (.slice A' m cap') (ls ++ tt) → Strs w' w'.heap.size A' (toBs (ls ++ tt)) → w.grownBy w' v.ownBlock → wpList Tryz.prog ops Q rest (a.put o.dst (.slice A' m cap')) w') : wpList Tryz.prog ops Q (o :: rest) a w := by
  refine wpList_append_strs hgd s x ho B v ls tt hs hown A cap n hx hn hnil ht hB hle fun v' w' ho' hg' => ?_
  obtain ⟨A', cap', rfl, hs', _, _⟩ := ho'.strs
  have e : (ls ++ tt).length = m := by rw [List.length_append, hm]
  rw [e] at ho' ⊢
  exact h A' cap' w' ho' hs' hg'
theorem ownBlock_ge {w : World} {B : Nat} {v : Value} {ls : List (List UInt8)} (h : OwnS w B v ls) : ∀ k, v.ownBlock = some k → B ≤ k := fun k hk => (World.ownsRow.lt h k hk).1
theorem own_made (w : World) (B : Nat) (hB : B ≤ w.heap.size) : OwnS (w.alloc (.cells #[] 9)) B (.slice (some ⟨w.heap.size, 0, none⟩) 0 0) [] :=
  w.ownsRow_made #[] 0 hB (Nat.zero_le _) rfl
theorem Strs.take {w : World} {B : Nat} {A : Option Addr} {ls : List (List UInt8)} (h : Strs w B A (toBs ls)) (j : Nat) : Strs w B A (toBs (ls.take j)) := fun hp => by
  have hl : 0 < (toBs ls).length := by rw [toBs_len] at *; rw [List.length_take] at hp; omega
  obtain ⟨b, off, e, hb, hc⟩ := h hl
  refine ⟨b, off, e, hb, fun i hi => ?_⟩
  have hi2 : i < (toBs ls).length := by rw [toBs_len] at *; rw [List.length_take] at hi; omega
  rw [hc i hi2]
  simp [toBs]
theorem Strs.drop {w : World} {B b off : Nat} {ls : List (List UInt8)} (h : Strs w B (some ⟨b, off, none⟩) (toBs ls)) (j : Nat) : Strs w B (some ⟨b, off + j, none⟩) (toBs (ls.drop j)) := fun hp => by
  have hl : j < (toBs ls).length := by rw [toBs_len] at *; rw [List.length_drop] at hp; omega
  obtain ⟨b', off', e, hb, hc⟩ := h (by omega)
  cases e
  refine ⟨b, off + j, rfl, hb, fun i hi => ?_⟩
  have hi2 : j + i < (toBs ls).length := by rw [toBs_len] at *; rw [List.length_drop] at hi; omega
  rw [Nat.add_assoc, hc (j + i) hi2]
  simp [toBs]
theorem below_append {w0 w w' : World} {B : Nat} {v : Value} {ls : List (List UInt8)} (hb : Below B w0 w) (ho : OwnS w B v ls) (hg : w.grownBy w' v.ownBlock) (hB : B ≤ w0.heap.size) : Below B w0 w' :=
  hb.grown hg (Nat.le_trans hB hb.size) (ownBlock_ge ho)
theorem strs_one (w : World) (s : ByteArray) : Strs (w.alloc (.cells #[.string s] 9)) (w.alloc (.cells #[.string s] 9)).heap.size (some ⟨w.heap.size, 0, none⟩) (toBs [s.data.toList]) := by
  have h := strs_new w [s]
  have e : toBs [s.data.toList] = [s] := by simp [toBs, toB_of]
  rw [e]
  exact h.more (by simp)
/-- A part of a row of strings. -/
theorem Strs.part {w : World} {B : Nat} {A : Option Addr} {ls : List (List UInt8)} (h : Strs w B A (toBs ls)) (j n : Nat) (A2 : Option Addr) (hA : ∀ b off, A = some ⟨b, off, none⟩ → j < ls.length → A2 = some ⟨b, off + j, none⟩) : Strs w B A2 (toBs ((ls.drop j).take n)) := fun hp => by
  have hl : j < ls.length := by rw [toBs_len, List.length_take, List.length_drop] at hp; omega
  obtain ⟨b, off, e, hb, hc⟩ := h (by rw [toBs_len]; omega)
  refine ⟨b, off + j, hA b off e hl, hb, fun i hi => ?_⟩
  have hi2 : j + i < (toBs ls).length := by rw [toBs_len] at *; rw [List.length_take, List.length_drop] at hi; omega
  rw [Nat.add_assoc, hc (j + i) hi2]
  simp [toBs]

end Go.Proofs.YtifkpelcdihdoaaGreatDoor
namespace Go.Proofs.YtifkpelcdihdoaaGreatDoor
open Go.RowKit
set_option linter.unusedVariables false

/-- A kind of records: its types' numbers, what cells one has. -/
structure Rk (α : Type) where
  ty : TypeId
  tys : TypeId
  k : Nat
  bytes : Nat
  zero : Value
  enc : α → List Value
  len : ∀ x, (enc x).length = k
  one : ∀ x u, u ∈ enc x → u.oneCell' = true
  pos : 0 < k
  small : bytes ≤ 1000
  zsz : zero.cells.size = k
  info : (Tryz.prog.info? ty).map (fun i => (i.zero, i.size, i.bytes)) = some (some zero, k, bytes)
  und : Tryz.prog.underlying tys = some (.slice ty)

theorem rec_add (b off a : Nat) : (⟨b, off, none⟩ : Addr).add a = ⟨b, off + a, none⟩ := by unfold Addr.add; split <;> simp_all
theorem rec_cell_lt {w : World} {b o : Nat} {u : Value} (h : w.cell? ⟨b, o, none⟩ = some u) : b < w.heap.size := by
  unfold World.cell? at h
  rcases Nat.lt_or_ge b w.heap.size with h2 | h2
  · exact h2
  · rw [Array.getElem?_eq_none h2] at h; simp at h
namespace Rk
variable {α : Type} (R : Rk α)
def cells (l : List α) : List Value := l.flatMap R.enc
theorem cells_len (l : List α) : (R.cells l).length = l.length * R.k := by
  induction l with
  | nil => simp [cells]
  | cons x l ih =>
    have e : R.cells (x :: l) = R.enc x ++ R.cells l := rfl
    rw [e, List.length_append, ih, R.len, List.length_cons, Nat.add_mul]
    omega
theorem cells_get : ∀ (l : List α) (j : Nat) (hj : j < l.length) (r : Nat), r < R.k → (R.cells l)[j * R.k + r]? = (R.enc l[j])[r]?
  | x :: l, 0, _, r, hr => by
    have e : R.cells (x :: l) = R.enc x ++ R.cells l := rfl
    rw [e, Nat.zero_mul, Nat.zero_add, List.getElem?_append_left (by rw [R.len]; exact hr)]
    rfl
  | x :: l, j + 1, hj, r, hr => by
    have e : R.cells (x :: l) = R.enc x ++ R.cells l := rfl
    have ih := cells_get l j (by simpa using hj) r hr
    rw [e, List.getElem?_append_right (by rw [R.len, Nat.add_mul]; omega), R.len]
    have e2 : (j + 1) * R.k + r - R.k = j * R.k + r := by rw [Nat.add_mul]; omega
    rw [e2, ih]
    rfl
theorem cells_app (a b : List α) : R.cells (a ++ b) = R.cells a ++ R.cells b := by simp [cells]
theorem cells_one (x : α) : R.cells [x] = R.enc x := by simp [cells]
theorem oneCells (l : List α) : ∀ u ∈ R.cells l, u.oneCell' = true := fun u hu => by
  unfold cells at hu
  rw [List.mem_flatMap] at hu
  obtain ⟨f, _, h⟩ := hu
  exact R.one f u h
theorem at_place (l : List α) {i : Nat} (h : i < l.length * R.k) : ∃ j r, j < l.length ∧ r < R.k ∧ i = j * R.k + r := by
  refine ⟨i / R.k, i % R.k, (Nat.div_lt_iff_lt_mul R.pos).2 h, Nat.mod_lt _ R.pos, ?_⟩
  rw [Nat.mul_comm]
  exact (Nat.div_add_mod i R.k).symm

/-- Records lie at A, one behind the other, in a block below B. -/
def Row (w : World) (B : Nat) (A : Option Addr) (l : List α) : Prop := 0 < l.length → ∃ b off, A = some ⟨b, off, none⟩ ∧ b < B ∧ ∀ i u, (R.cells l)[i]? = some u → w.cell? ⟨b, off + i, none⟩ = some u
variable {R} {w w' w0 : World} {B B' : Nat} {A : Option Addr} {l : List α} {v : Value}
theorem Row.nil : R.Row w B A [] := fun h => absurd h (by simp)
theorem Row.below (h : R.Row w B A l) (hb : Below B w w') : R.Row w' B A l := fun hp => by
  obtain ⟨b, off, e, hlt, hc⟩ := h hp
  exact ⟨b, off, e, hlt, fun i u hu => (hb.cell (p := ⟨b, off + i, none⟩) hlt).trans (hc i u hu)⟩
theorem Row.more (h : R.Row w B A l) (hB : B ≤ B') : R.Row w B' A l := fun hp => by
  obtain ⟨b, off, e, hlt, hc⟩ := h hp
  exact ⟨b, off, e, by omega, hc⟩
theorem Row.on (h : R.Row w w.heap.size A l) (hb : Below w.heap.size w w') : R.Row w' w'.heap.size A l := (h.below hb).more hb.size
theorem Row.get (h : R.Row w B A l) {j : Nat} (hj : j < l.length) : ∃ b off, A = some ⟨b, off, none⟩ ∧ b < B ∧ ∀ r u, (R.enc l[j])[r]? = some u → w.cell? ⟨b, off + j * R.k + r, none⟩ = some u := by
  obtain ⟨b, off, e, hlt, hc⟩ := h (by omega)
  refine ⟨b, off, e, hlt, fun r u hu => ?_⟩
  have hr : r < R.k := by
    have := (List.getElem?_eq_some_iff.1 hu).1
    rw [R.len] at this
    exact this
  rw [Nat.add_assoc]
  exact hc _ _ (by rw [R.cells_get l j hj r hr]; exact hu)
theorem Row.take (h : R.Row w B A l) (n : Nat) : R.Row w B A (l.take n) := fun hp => by
  rw [List.length_take] at hp
  obtain ⟨b, off, e, hlt, hc⟩ := h (by omega)
  refine ⟨b, off, e, hlt, fun j u hu => hc j u ?_⟩
  have hj := (List.getElem?_eq_some_iff.1 hu).1
  have e2 : R.cells l = R.cells (l.take n) ++ R.cells (l.drop n) := by rw [← cells_app, List.take_append_drop]
  rw [e2, List.getElem?_append_left hj]
  exact hu
theorem Row.drop {b off : Nat} (h : R.Row w B (some ⟨b, off, none⟩) l) (n : Nat) : R.Row w B (some ⟨b, off + n * R.k, none⟩) (l.drop n) := fun hp => by
  rw [List.length_drop] at hp
  obtain ⟨b', off', e, hlt, hc⟩ := h (by omega)
  cases e
  refine ⟨b, off + n * R.k, rfl, hlt, fun j u hu => ?_⟩
  have e2 : R.cells l = R.cells (l.take n) ++ R.cells (l.drop n) := by rw [← cells_app, List.take_append_drop]
  have hl : (R.cells (l.take n)).length = n * R.k := by rw [cells_len, List.length_take, Nat.min_eq_left (by omega)]
  rw [Nat.add_assoc]
  refine hc _ _ ?_
  rw [e2, List.getElem?_append_right (by omega), hl, Nat.add_sub_cancel_left]
  exact hu
theorem Row.app {A2 : Option Addr} {l2 : List α} {b off : Nat} (h : R.Row w B (some ⟨b, off, none⟩) (l ++ l2)) : R.Row w B (some ⟨b, off, none⟩) l := by
  have := h.take l.length
  rwa [List.take_left] at this

/-- A record of its own lies in block g. -/
def At (R : Rk α) (w : World) (g : Nat) (x : α) : Prop := w.heap[g]? = some (.cells (R.enc x).toArray R.ty (0, 0))
variable {g : Nat} {x : α}
theorem At.cell (k : R.At w g x) {r : Nat} {u : Value} (h : (R.enc x)[r]? = some u) : w.cell? ⟨g, r, none⟩ = some u := by
  have hk : w.heap[g]? = _ := k
  simp [World.cell?, hk, h]
theorem At.fz (k : R.At w g x) (i : Nat) : w.frozen? ⟨g, i, none⟩ = false := by
  have hk : w.heap[g]? = _ := k
  simp [World.frozen?, hk]
theorem At.lt (k : R.At w g x) : g < w.heap.size := (Array.getElem?_eq_some_iff.1 k).1
theorem At.on (k : R.At w g x) (hb : Below w.heap.size w w') : R.At w' g x := (hb.block g k.lt).trans k
theorem At.grown {row : Option Nat} (k : R.At w g x) (hg : w.grownBy w' row) (hr : row ≠ some g) : R.At w' g x := (hg.block g k.lt (fun e => hr e.symm)).trans k
theorem At.new_ (w : World) (x : α) : R.At (w.alloc (.cells (R.enc x).toArray R.ty)) w.heap.size x := heap_alloc_new w _
theorem At.row (k : R.At w g x) : R.Row w w.heap.size (some ⟨g, 0, none⟩) [x] := fun _ => ⟨g, 0, rfl, k.lt, fun i u hu => by rw [cells_one] at hu; rw [Nat.zero_add]; exact k.cell hu⟩

/-- A slice of records that the call made. -/
def Own (R : Rk α) (w : World) (B : Nat) (v : Value) (l : List α) : Prop := w.ownsRow B R.ty R.k v l.length (R.cells l)
theorem Own.nil (w : World) (B : Nat) : R.Own w B (.slice none 0 0) [] := w.ownsRow_nil B R.ty R.k
theorem Own.made (w : World) (B : Nat) (hB : B ≤ w.heap.size) : R.Own (w.alloc (.cells #[] R.ty)) B (.slice (some ⟨w.heap.size, 0, none⟩) 0 0) [] := w.ownsRow_made #[] 0 hB (Nat.zero_le _) (by simp)
theorem Own.slice (h : R.Own w B v l) : ∃ A cap, v = .slice A l.length cap ∧ R.Row w w.heap.size A l ∧ Room A l.length cap ∧ cap ≤ maxLen ∧ (A = none ∨ ∃ b off, A = some ⟨b, off, none⟩) := by
  have h' := h
  rcases h.2 with ⟨rfl, h0⟩ | ⟨g, cap, cur, rfl, _, hg, hcap, hm, _⟩
  · have e : l = [] := List.length_eq_zero_iff.1 h0
    subst e
    exact ⟨none, 0, rfl, Row.nil, ⟨fun _ => rfl, Nat.le_refl _⟩, Nat.zero_le _, .inl rfl⟩
  · refine ⟨_, cap, rfl, fun hp => ⟨g, 0, rfl, (Array.getElem?_eq_some_iff.1 hg).1, fun j u hu => ?_⟩, ⟨fun e => (by cases e), hcap⟩, hm, .inr ⟨g, 0, rfl⟩⟩
    have k0 := h'.cells (g := g) rfl _ _ hu
    rw [rec_add] at k0
    exact k0
theorem Own.parts {n cap : Nat} (h : R.Own w B (.slice A n cap) l) : n = l.length ∧ R.Row w w.heap.size A l ∧ Room A l.length cap ∧ cap ≤ maxLen ∧ (A = none ∨ ∃ b off, A = some ⟨b, off, none⟩) := by
  obtain ⟨A', cap', e, r⟩ := h.slice
  simp only [Value.slice.injEq] at e
  obtain ⟨rfl, rfl, rfl⟩ := e
  exact ⟨rfl, r⟩
theorem Own.kept (h : R.Own w B v l) (hb : Below w.heap.size w w') : R.Own w' B v l :=
  World.ownsRow.kept h (row := none) ⟨hb.os, hb.tape, hb.output, hb.size, fun i hi _ => hb.block i hi⟩ (by cases v.ownBlock <;> simp)
theorem Own.grown {row : Option Nat} (h : R.Own w B v l) (hg : w.grownBy w' row) (hr : ∀ g, v.ownBlock = some g → row ≠ some g) : R.Own w' B v l :=
  World.ownsRow.kept h (row := row) hg (by
    cases e : v.ownBlock with
    | none => simp
    | some g => have := hr g e; simpa using fun h => this h.symm)
theorem Own.lower (h : R.Own w B v l) (hB : B' ≤ B) : R.Own w B' v l := by
  refine ⟨h.1, h.2.imp id ?_⟩
  rintro ⟨g, cap, cur, e, hb, r⟩
  exact ⟨g, cap, cur, e, by omega, r⟩
theorem Own.block (h : R.Own w B v l) : ∀ k, v.ownBlock = some k → B ≤ k := fun k hk => (World.ownsRow.lt h k hk).1
theorem Own.ne (h : R.Own w B v l) {g : Nat} (hg : g < B) : v.ownBlock ≠ some g := fun he => by
  have := h.block g he
  omega
theorem Own.app (hb : Below B w0 w) (ho : R.Own w B v l) (hg : w.grownBy w' v.ownBlock) (hB : B ≤ w0.heap.size) : Below B w0 w' := hb.grown hg (Nat.le_trans hB hb.size) ho.block
theorem info_of (R : Rk α) : ∃ i0, Tryz.prog.info? R.ty = some i0 ∧ i0.zero = some R.zero ∧ i0.size = R.k ∧ i0.bytes = R.bytes := info_parts R.info
theorem append_fits {n m bytes : Nat} (h : n + m ≤ 1000000) (hb : bytes ≤ 1000) : n + m ≤ maxLen ∧ (n + m) * bytes ≤ 140737488355328 := by
  refine ⟨by unfold maxLen; omega, ?_⟩
  calc (n + m) * bytes ≤ 1000000 * 1000 := Nat.mul_le_mul h hb
    _ ≤ _ := by decide
theorem wpList_append (R : Rk α) {w : World} {ops : Array Oper} {rest : List Oper} {o : Oper} {a : Act} {Q : Exit → Act → World → Prop} (hgd : o.guard = none) (s x : Operand)
    (ho : o.op = .call { callee := .builtin .append, args := #[s, x], argTypes := #[R.tys, R.tys] })
    (B : Nat) (v : Value) (fs tt : List α) (hs : a.eval s = v) (hown : R.Own w B v fs) (A : Option Addr) (cap n : Nat) (hx : a.eval x = .slice A n cap) (hn : n = tt.length) (hnil : A = none → cap = 0) {C : Nat} (ht : R.Row w C A tt) (hB : B ≤ w.heap.size) (hle : fs.length + tt.length ≤ 1000000)
    (m : Nat) (hm : m = fs.length + tt.length)
    (h : ∀ A' cap' w', R.Own w' B (.slice A' m cap') (fs ++ tt) → w.grownBy w' v.ownBlock → wpList Tryz.prog ops Q rest (a.put o.dst (.slice A' m cap')) w') : wpList Tryz.prog ops Q (o :: rest) a w := by
  have key : ∀ v' w', R.Own w' B v' (fs ++ tt) → w.grownBy w' v.ownBlock → wpList Tryz.prog ops Q rest (a.put o.dst v') w' := fun v' w' ho' hg' => by
    obtain ⟨A', cap', rfl, _, _, _, _⟩ := ho'.slice
    have e : (fs ++ tt).length = m := by rw [List.length_append, hm]
    rw [e] at ho' ⊢
    exact h A' cap' w' ho' hg'
  subst hn
  obtain ⟨i0, hi, hz0, hz1, hz2⟩ := R.info_of
  cases A with
  | none =>
    have h0 : tt = [] := by
      cases tt with
      | nil => rfl
      | cons y r => exact absurd (ht (by simp)) (by rintro ⟨_, _, e, _⟩; cases e)
    subst h0
    rw [hnil rfl] at hx
    refine wpList_append_own_none hgd s x R.tys ho B R.ty i0 R.k R.und hi v _ _ hs hown hx ?_
    exact key v w (by simpa using hown) ⟨rfl, rfl, rfl, Nat.le_refl _, fun _ _ _ => rfl⟩
  | some ad =>
    obtain ⟨f1, f2⟩ := append_fits hle R.small
    refine wpList_append_own w hgd s x R.tys ho B R.ty i0 _ R.k R.bytes R.und hi hz0 hz1 hz2 R.zsz R.pos v fs.length (R.cells fs) hs hown ad tt.length cap (R.cells tt) hx (R.cells_len tt) ?_ (R.oneCells tt) f1 f2 hB ?_
    · intro j u hu
      obtain ⟨hj, hju⟩ := List.getElem?_eq_some_iff.1 hu
      rw [R.cells_len] at hj
      obtain ⟨b, off, e, _, hc⟩ := ht (Nat.pos_of_ne_zero fun h0 => by rw [h0] at hj; simp at hj)
      simp only [Option.some.injEq] at e
      subst e
      rw [rec_add]
      exact hc j u hu
    · intro v' w' hown' hgrow _
      refine key v' w' ?_ hgrow
      unfold Own
      rw [List.length_append, cells_app]
      exact hown'
theorem step_append (R : Rk α) {w : World} {ops : Array Oper} {o : Oper} {a : Act} {K : Act → World → Prop} {E : Prop} (hgd : o.guard = none) (s x : Operand)
    (ho : o.op = .call { callee := .builtin .append, args := #[s, x], argTypes := #[R.tys, R.tys] }) {Q : Exit → Act → World → Prop}
    (B : Nat) (v : Value) (fs tt : List α) (hs : a.eval s = v) (hown : R.Own w B v fs) (A : Option Addr) (cap n : Nat) (hx : a.eval x = .slice A n cap) (hn : n = tt.length) (hnil : A = none → cap = 0) {C : Nat} (ht : R.Row w C A tt) (hB : B ≤ w.heap.size) (hle : fs.length + tt.length ≤ 1000000)
    (m : Nat) (hm : m = fs.length + tt.length)
    (h : ∀ A' cap' w', R.Own w' B (.slice A' m cap') (fs ++ tt) → w.grownBy w' v.ownBlock → K (a.put o.dst (.slice A' m cap')) w') : if Region.wanted o (yielded ops a.tmps) = true then Oper.wp Tryz.prog o a w K Q else E := by
  have hw : Region.wanted o (yielded ops a.tmps) = true := by simp [Region.wanted, hgd]
  rw [if_pos hw]
  have key : ∀ v' w', R.Own w' B v' (fs ++ tt) → w.grownBy w' v.ownBlock → K (a.put o.dst v') w' := fun v' w' ho' hg' => by
    obtain ⟨A', cap', rfl, _, _, _, _⟩ := ho'.slice
    have e : (fs ++ tt).length = m := by rw [List.length_append, hm]
    rw [e] at ho' ⊢
    exact h A' cap' w' ho' hg'
  subst hn
  obtain ⟨i0, hi, hz0, hz1, hz2⟩ := R.info_of
  cases A with
  | none =>
    have h0 : tt = [] := by
      cases tt with
      | nil => rfl
      | cons y r => exact absurd (ht (by simp)) (by rintro ⟨_, _, e, _⟩; cases e)
    subst h0
    rw [hnil rfl] at hx
    have hrun := run_append_owned_none (P := Tryz.prog) (w := w) B R.tys o.type R.ty i0 R.k R.und hi v _ _ hown
    have hk := key v w (by simpa using hown) ⟨rfl, rfl, rfl, Nat.le_refl _, fun _ _ _ => rfl⟩
    unfold Oper.wp
    simp [execOp, ho, resolve, invoke, builtin, hs, hx, hrun, Result.andThen]
    exact hk
  | some ad =>
    obtain ⟨f1, f2⟩ := append_fits hle R.small
    refine wp_append_own w s x R.tys ho B R.ty i0 _ R.k R.bytes R.und hi hz0 hz1 hz2 R.zsz R.pos v fs.length (R.cells fs) hs hown ad tt.length cap (R.cells tt) hx (R.cells_len tt) ?_ (R.oneCells tt) f1 f2 hB ?_
    · intro j u hu
      obtain ⟨hj, hju⟩ := List.getElem?_eq_some_iff.1 hu
      rw [R.cells_len] at hj
      obtain ⟨b, off, e, _, hc⟩ := ht (Nat.pos_of_ne_zero fun h0 => by rw [h0] at hj; simp at hj)
      simp only [Option.some.injEq] at e
      subst e
      rw [rec_add]
      exact hc j u hu
    · intro v' w' hown' hgrow _
      refine key v' w' ?_ hgrow
      unfold Own
      rw [List.length_append, cells_app]
      exact hown'
theorem run_slice (R : Rk α) (A : Option Addr) (n cap i j : Nat) (low high : Option Value) (w : World) (hij : i ≤ j) (hj : j ≤ n) (hn : n ≤ cap) (hlow : low = some (.int .i64 (i : Int)) ∨ (low = none ∧ i = 0)) (hhigh : high = some (.int .i64 (j : Int)) ∨ (high = none ∧ j = n)) :
    (Instr.slice R.tys (.slice A n cap) low high none).run Tryz.prog w = .ok (.slice (if cap = i then A else A.map (·.add (i * R.k))) (j - i) (cap - i)) w := by
  have hb : ∀ w, (Instr.sliceBounds true n cap low high none).run Tryz.prog w = .ok (i, j, cap) w := by
    intro w
    have hi2 : (i : Int) ≤ (j : Int) := by omega
    have hj2 : (j : Int) ≤ (cap : Int) := by omega
    have hi3 : (i : Int) ≤ (n : Int) := by omega
    rcases hlow with rfl | ⟨rfl, rfl⟩ <;> rcases hhigh with rfl | ⟨rfl, rfl⟩ <;> simp [Instr.sliceBounds, Instr.sliceBound, asIntOf, go_sem, hij, show j ≤ cap by omega] <;> intros <;> omega
  obtain ⟨d, hd, _, hs, _⟩ := R.info_of
  unfold Instr.slice
  rw [Sem.run_bind, run_underlying R.und, Result.andThen_ok]
  simp only []
  rw [Sem.run_bind, hb, Result.andThen_ok]
  simp [sizeOf, typeInfo, hd, hs, Sem.run_bind]
/-- l[i:j], told once: a row again. -/
theorem part (R : Rk α) (A : Option Addr) (fs : List α) (cap i j : Nat) (hr : Room A fs.length cap) (hA : A = none ∨ ∃ b off, A = some ⟨b, off, none⟩) (hij : i ≤ j) (hj : j ≤ fs.length) :
    ∃ A' cap' fd, fd = (fs.drop i).take (j - i) ∧ (∀ w B, R.Row w B A fs → R.Row w B A' fd) ∧ Room A' fd.length cap' ∧ (A' = none ∨ ∃ b off, A' = some ⟨b, off, none⟩) ∧ ∀ (low high : Option Value) (w : World), (low = some (.int .i64 (i : Int)) ∨ (low = none ∧ i = 0)) → (high = some (.int .i64 (j : Int)) ∨ (high = none ∧ j = fs.length)) →
      (Instr.slice R.tys (.slice A fs.length cap) low high none).run Tryz.prog w = .ok (.slice A' fd.length cap') w := by
  have hl : ((fs.drop i).take (j - i)).length = j - i := by rw [List.length_take, List.length_drop]; omega
  refine ⟨if cap = i then A else A.map (·.add (i * R.k)), cap - i, (fs.drop i).take (j - i), rfl, fun w B hs => ?_, ?_, ?_, fun low high w h1 h2 => ?_⟩
  · by_cases hc : cap = i
    · have hz : (fs.drop i).take (j - i) = [] := by
        rw [← List.length_eq_zero_iff, hl]
        have := hr.2
        omega
      rw [hz]
      exact Row.nil
    · rw [if_neg hc]
      rcases hA with rfl | ⟨b, off, rfl⟩
      · have := hr.1 rfl
        have := hr.2
        have hz : (fs.drop i).take (j - i) = [] := by
          rw [← List.length_eq_zero_iff, hl]
          omega
        rw [hz]
        exact Row.nil
      · rw [Option.map_some, rec_add]
        exact (hs.drop i).take (j - i)
  · rw [hl]
    refine ⟨fun hA => ?_, by have := hr.2; omega⟩
    by_cases hc : cap = i
    · omega
    · rw [if_neg hc] at hA
      have : A = none := by cases A <;> simp_all
      have := hr.1 this
      omega
  · by_cases hc : cap = i
    · rw [if_pos hc]
      exact hA
    · rw [if_neg hc]
      rcases hA with rfl | ⟨b, off, rfl⟩
      · exact .inl rfl
      · exact .inr ⟨b, off + i * R.k, by rw [Option.map_some, rec_add]⟩
  · rw [hl]
    exact R.run_slice A fs.length cap i j low high w hij hj hr.2 h1 h2
end Rk
end Go.Proofs.YtifkpelcdihdoaaGreatDoor
