/- Sets of texts, plainly: rising byte by byte, each once. Words for memory: strings that lie in a row; rows that a call made. append of strings to a row that the call made. Words for memory: rows of files. Rows of files that a call makes: append; parts of rows. Rows held while blocks are made. Texts held against each other. -/
import Derived.Lib.SlicesCompact
import Derived.WalkKit
import Derived.Below
import Derived.Laws.AppendOwn
import Derived.Lib.OwnBridge
import Derived.Lib.Hide
import Derived.Sort.Walk0
import Derived.Shelf.GgClosure.Gives
import Derived.Test.YtalabahjfmcnbaaGreatDoorProg
import Derived.Laws.AppendOwnNone
import Derived.OwnWalk
import Derived.Deep.AppendLies
import Derived.BigQuiet
import Derived.Deep.QuietTactic
import Derived.Handy
namespace Go.Proofs.YtalabahjfmcnbaaGreatDoor
set_option linter.unusedVariables false

/-- A text put into a set. -/
def ins (x : List UInt8) : List (List UInt8) → List (List UInt8)
  | [] => [x]
  | y :: r => if y < x then y :: ins x r else if y = x then y :: r else x :: y :: r
/-- The texts as a set. -/
def setS (l : List (List UInt8)) : List (List UInt8) := l.foldl (fun a x => ins x a) []

theorem t_irrefl (x : List UInt8) : ¬ x < x := List.lt_irrefl x
theorem t_trans {x y z : List UInt8} (h : x < y) (h2 : y < z) : x < z := List.lt_trans h h2
theorem t_tri {x y : List UInt8} (h : ¬ x < y) (h2 : x ≠ y) : y < x := by
  rcases Decidable.em (y < x) with h3 | h3
  · exact h3
  · exact absurd (List.le_antisymm (List.not_lt.1 h3) (List.not_lt.1 h)) h2
theorem t_lt_of_le {x y : List UInt8} (h : x ≤ y) (h2 : x ≠ y) : x < y := by
  rcases Decidable.em (x < y) with h3 | h3
  · exact h3
  · exact absurd (List.le_antisymm h (List.not_lt.1 h3)) h2
theorem t_le_trans {x y z : List UInt8} (h : x ≤ y) (h2 : y < z) : x < z := List.lt_of_le_of_lt h h2

theorem mem_ins (z x : List UInt8) : ∀ l, z ∈ ins x l ↔ z = x ∨ z ∈ l
  | [] => by simp [ins]
  | y :: r => by
    unfold ins
    have ih := mem_ins z x r
    split
    · simp only [List.mem_cons, ih]
      constructor
      · rintro (h | h | h) <;> simp [h]
      · rintro (h | h | h) <;> simp [h]
    · split
      · rename_i h; subst h; simp
      · simp
def Rising (l : List (List UInt8)) : Prop := l.Pairwise (· < ·)
theorem rising_ins (x : List UInt8) : ∀ l, Rising l → Rising (ins x l)
  | [], _ => by simp [ins, Rising]
  | y :: r, h => by
    unfold Rising at h
    obtain ⟨h1, h2⟩ := List.pairwise_cons.1 h
    unfold ins
    split
    · rename_i hlt
      refine List.pairwise_cons.2 ⟨fun z hz => ?_, rising_ins x r h2⟩
      rcases (mem_ins z x r).1 hz with rfl | hz
      · exact hlt
      · exact h1 z hz
    · split
      · exact h
      · rename_i hn hne
        have hxy : x < y := t_tri hn hne
        refine List.pairwise_cons.2 ⟨fun z hz => ?_, h⟩
        rcases List.mem_cons.1 hz with rfl | hz
        · exact hxy
        · exact t_trans hxy (h1 z hz)
theorem mem_setS (z : List UInt8) (l : List (List UInt8)) : z ∈ setS l ↔ z ∈ l := by
  suffices h : ∀ (l a : List (List UInt8)), z ∈ l.foldl (fun a x => ins x a) a ↔ z ∈ l ∨ z ∈ a by simpa [setS] using h l []
  intro l
  induction l with
  | nil => simp
  | cons x r ih =>
    intro a
    simp only [List.foldl_cons, ih, mem_ins, List.mem_cons]
    constructor
    · rintro (h | h | h) <;> simp [h]
    · rintro ((h | h) | h) <;> simp [h]
theorem rising_setS (l : List (List UInt8)) : Rising (setS l) := by
  suffices h : ∀ (l a : List (List UInt8)), Rising a → Rising (l.foldl (fun a x => ins x a) a) from h l [] List.Pairwise.nil
  intro l
  induction l with
  | nil => exact fun a h => h
  | cons x r ih => exact fun a h => ih _ (rising_ins x a h)
/-- Two rising rows of the same texts are one. -/
theorem rising_ext : ∀ {a b : List (List UInt8)}, Rising a → Rising b → (∀ z, z ∈ a ↔ z ∈ b) → a = b
  | [], [], _, _, _ => rfl
  | [], y :: r, _, _, h => absurd ((h y).2 (by simp)) (by simp)
  | x :: s, [], _, _, h => absurd ((h x).1 (by simp)) (by simp)
  | x :: s, y :: r, ha, hb, h => by
    obtain ⟨h1, h2⟩ := List.pairwise_cons.1 ha
    obtain ⟨h3, h4⟩ := List.pairwise_cons.1 hb
    have hxy : x = y := by
      rcases List.mem_cons.1 ((h x).1 (by simp)) with e | hx
      · exact e
      · rcases List.mem_cons.1 ((h y).2 (by simp)) with e | hy
        · exact e.symm
        · exact absurd (t_trans (h3 x hx) (h1 y hy)) (t_irrefl y)
    subst hxy
    rw [rising_ext h2 h4 fun z => ?_]
    constructor
    · intro hz
      rcases List.mem_cons.1 ((h z).1 (List.mem_cons_of_mem _ hz)) with e | hz2
      · subst e; exact absurd (h1 z hz) (t_irrefl z)
      · exact hz2
    · intro hz
      rcases List.mem_cons.1 ((h z).2 (List.mem_cons_of_mem _ hz)) with e | hz2
      · subst e; exact absurd (h3 z hz) (t_irrefl z)
      · exact hz2
/-- Sorted, and each run cut to one: the set. -/
theorem compact_sorted (l : List (List UInt8)) : Lib.compact (l.mergeSort fun x y => decide (x ≤ y)) = setS l := by
  have hs : (l.mergeSort fun x y => decide (x ≤ y)).Pairwise (fun x y => x ≤ y) := by
    have := List.pairwise_mergeSort (le := fun (x y : List UInt8) => decide (x ≤ y)) (by
      intro a b c h1 h2
      simp only [decide_eq_true_eq] at *
      exact List.le_trans h1 h2) (by
      intro a b
      simp only [Bool.or_eq_true, decide_eq_true_eq]
      exact List.le_total a b) l
    exact this.imp (by simp)
  have hm : ∀ z, z ∈ (l.mergeSort fun x y => decide (x ≤ y)) ↔ z ∈ l := fun z => List.mem_mergeSort
  generalize (l.mergeSort fun x y => decide (x ≤ y)) = s at *
  have hget : ∀ i j, i ≤ j → j < s.length → s.toArray[i]! ≤ s.toArray[j]! := by
    intro i j hij hj
    rw [getElem!_pos s.toArray i (by simpa using (by omega : i < s.length)), getElem!_pos s.toArray j (by simpa using hj)]
    rcases Nat.lt_or_eq_of_le hij with h | h
    · exact List.pairwise_iff_getElem.1 hs i j (by omega) hj h
    · subst h; exact List.le_refl _
  refine rising_ext ?_ (rising_setS l) fun z => ?_
  · unfold Lib.compact Lib.compactUpTo Rising
    rw [List.pairwise_map]
    have hr : (List.range s.length).Pairwise (· < ·) := List.pairwise_lt_range
    refine (hr.filter _).imp_of_mem ?_
    intro i j hi hj hij
    obtain ⟨hi1, hi2⟩ := List.mem_filter.1 hi
    obtain ⟨hj1, hj2⟩ := List.mem_filter.1 hj
    have hjl := List.mem_range.1 hj1
    simp only [Lib.keeps, decide_eq_true_eq] at hj2
    have hne : s.toArray[j]! ≠ s.toArray[j - 1]! := by
      rcases hj2 with h | h
      · omega
      · exact h
    exact t_le_trans (hget i (j - 1) (by omega) (by omega)) (t_lt_of_le (hget (j - 1) j (by omega) hjl) (Ne.symm hne))
  · rw [mem_setS, ← hm z]
    unfold Lib.compact Lib.compactUpTo
    simp only [List.mem_map, List.mem_filter, List.mem_range]
    constructor
    · rintro ⟨i, ⟨hi, _⟩, rfl⟩
      rw [getElem!_pos s.toArray i (by simpa using hi)]
      simp
    · intro hz
      obtain ⟨i, hi, rfl⟩ := List.getElem_of_mem hz
      have : ∀ i, (h : i < s.length) → ∃ a, (a < s.length ∧ Lib.keeps s.toArray a = true) ∧ s.toArray[a]! = s[i] := by
        intro i
        induction i with
        | zero => exact fun h => ⟨0, ⟨h, by simp [Lib.keeps]⟩, by rw [getElem!_pos s.toArray 0 (by simpa using h)]; simp⟩
        | succ i ih =>
          intro h
          by_cases he : s[i + 1] = s[i]
          · rw [he]; exact ih (by omega)
          · refine ⟨i + 1, ⟨h, ?_⟩, by rw [getElem!_pos s.toArray (i + 1) (by simpa using h)]; simp⟩
            simp only [Lib.keeps, decide_eq_true_eq]
            refine .inr ?_
            rw [getElem!_pos s.toArray (i + 1) (by simpa using h), getElem!_pos s.toArray (i + 1 - 1) (by simp; omega)]
            simpa using he
      exact this i hi

end Go.Proofs.YtalabahjfmcnbaaGreatDoor
namespace Go.Proofs.YtalabahjfmcnbaaGreatDoor
open Go.RowKit
set_option linter.unusedVariables false

/-- Strings lie at A, one a cell, in a block below B. -/
def Strs (w : World) (B : Nat) (A : Option Addr) (ss : List ByteArray) : Prop :=
  0 < ss.length → ∃ b off, A = some ⟨b, off, none⟩ ∧ b < B ∧ ∀ j (h : j < ss.length), w.cell? ⟨b, off + j, none⟩ = some (.string ss[j])
/-- The bytes of strings. -/
def lists (ss : List ByteArray) : List (List UInt8) := ss.map (·.data.toList)
def toB (l : List UInt8) : ByteArray := ⟨l.toArray⟩
def toBs (l : List (List UInt8)) : List ByteArray := l.map toB

theorem toList_eq (bs : ByteArray) : bs.toList = bs.data.toList := ByteArray.toList_eq bs
theorem toB_of (s : ByteArray) : toB s.data.toList = s := by cases s; simp [toB]
theorem of_toB (l : List UInt8) : (toB l).data.toList = l := by simp [toB]
theorem bytes_inj {s t : ByteArray} (h : s.data.toList = t.data.toList) : s = t := by rw [← toB_of s, h, toB_of]
theorem toBs_lists (ss : List ByteArray) : toBs (lists ss) = ss := by
  unfold toBs lists
  rw [List.map_map]
  exact (List.map_congr_left fun s _ => toB_of s).trans (List.map_id _)
theorem lists_toBs (ls : List (List UInt8)) : lists (toBs ls) = ls := by
  unfold toBs lists
  rw [List.map_map]
  exact (List.map_congr_left fun s _ => of_toB s).trans (List.map_id _)
theorem lists_len (ss : List ByteArray) : (lists ss).length = ss.length := by simp [lists]
theorem toBs_len (ls : List (List UInt8)) : (toBs ls).length = ls.length := by simp [toBs]
theorem encStr_eq (l : List UInt8) : encStr l = .string (toB l) := rfl
section
variable {w w' : World} {B B' : Nat} {A : Option Addr} {ss : List ByteArray}
theorem Strs.none_ : Strs w B A [] := fun h => absurd h (by simp)
theorem Strs.at_ {k : Nat} (h : Strs w B A ss) (hk : k < ss.length) : ∃ b off, A = some ⟨b, off, none⟩ ∧ b < B ∧ w.cell? ⟨b, off + k, none⟩ = some (.string ss[k]) := by
  obtain ⟨b, off, e, hb, hc⟩ := h (by omega)
  exact ⟨b, off, e, hb, hc k hk⟩
theorem Strs.below (h : Strs w B A ss) (hb : Below B w w') : Strs w' B A ss := fun hp => by
  obtain ⟨b, off, e, hlt, hc⟩ := h hp
  exact ⟨b, off, e, hlt, fun j hj => (hb.cell (p := ⟨b, off + j, none⟩) hlt).trans (hc j hj)⟩
theorem Strs.more (h : Strs w B A ss) (hB : B ≤ B') : Strs w B' A ss := fun hp => by
  obtain ⟨b, off, e, hlt, hc⟩ := h hp
  exact ⟨b, off, e, by omega, hc⟩
/-- Behind a call that made new blocks alone. -/
theorem Strs.on (h : Strs w w.heap.size A ss) (hb : Below w.heap.size w w') : Strs w' w'.heap.size A ss := (h.below hb).more hb.size
end

theorem below_drewN {B : Nat} {a w : World} (h : Below B a w) (n : Nat) : Below B a (w.drewN n) := ⟨h.os, h.tape, h.output, h.size, h.block⟩
/-- Cells of a row that is written out. -/
theorem strs_new (w : World) (ss : List ByteArray) : Strs (w.alloc (.cells (ss.map Value.string).toArray 9)) (w.heap.size + 1) (some ⟨w.heap.size, 0, none⟩) ss := fun _ =>
  ⟨w.heap.size, 0, rfl, by omega, fun j hj => by rw [World.cell?_alloc_new]; simp [hj]⟩

/-- A slice's room: nil has none, its length fits. -/
def Room (A : Option Addr) (n cap : Nat) : Prop := (A = none → cap = 0) ∧ n ≤ cap
/-- A slice of strings that the call made: its row begins a block at or above B, no other slice shares it. -/
def OwnS (w : World) (B : Nat) (v : Value) (ls : List (List UInt8)) : Prop := w.ownsRow B 9 1 v ls.length (ls.map encStr)
theorem OwnS.nil (w : World) (B : Nat) : OwnS w B (.slice none 0 0) [] := w.ownsRow_nil B 9 1
theorem OwnS.strs {w : World} {B : Nat} {v : Value} {ls : List (List UInt8)} (h : OwnS w B v ls) : ∃ A cap, v = .slice A ls.length cap ∧ Strs w w.heap.size A (toBs ls) ∧ cap ≤ maxLen ∧ (A = none → ls = []) := by
  rcases h.2 with ⟨rfl, h0⟩ | ⟨g, cap, cur, rfl, hb, hg, hn, hm, hsz, ht⟩
  · exact ⟨none, 0, by rw [h0], fun hp => by rw [toBs_len] at hp; omega, by simp, fun _ => List.length_eq_zero_iff.1 h0⟩
  · refine ⟨some ⟨g, 0, none⟩, cap, rfl, fun hp => ⟨g, 0, rfl, (Array.getElem?_eq_some_iff.1 hg).1, fun j hj => ?_⟩, hm, fun e => by cases e⟩
    have hj2 : j < ls.length := by rw [toBs_len] at hj; exact hj
    have e1 : (cur.toList.take (ls.length * 1))[j]? = (ls.map encStr)[j]? := by rw [ht]
    rw [List.getElem?_take, if_pos (by omega), Array.getElem?_toList, List.getElem?_map, List.getElem?_eq_getElem hj2] at e1
    simp only [World.cell?, hg, Nat.zero_add, Option.isSome_none, Bool.false_eq_true, if_false]
    rw [e1]
    simp [toBs, encStr_eq]
theorem OwnS.at_ {w : World} {B n cap : Nat} {A : Option Addr} {ls : List (List UInt8)} (h : OwnS w B (.slice A n cap) ls) : Strs w w.heap.size A (toBs ls) ∧ Room A n cap ∧ n = ls.length := by
  obtain ⟨A2, cap2, he, hs, _, _⟩ := h.strs
  simp only [Value.slice.injEq] at he
  obtain ⟨rfl, rfl, rfl⟩ := he
  refine ⟨hs, ⟨fun hA => ?_, ?_⟩, rfl⟩
  · rcases h.2 with ⟨he, _⟩ | ⟨g, c, cur, he, _⟩
    · simp only [Value.slice.injEq] at he; exact he.2.2
    · simp only [Value.slice.injEq] at he
      rw [hA] at he
      cases he.1
  · rcases h.2 with ⟨he, hn⟩ | ⟨g, c, cur, he, _, _, hn, _⟩
    · omega
    · simp only [Value.slice.injEq] at he
      omega
theorem OwnS.kept {w w' : World} {B : Nat} {v : Value} {ls : List (List UInt8)} (h : OwnS w B v ls) (hb : Below w.heap.size w w') : OwnS w' B v ls :=
  World.ownsRow.kept h (row := none) ⟨hb.os, hb.tape, hb.output, hb.size, fun i hi _ => hb.block i hi⟩ (by cases v.ownBlock <;> simp)
theorem OwnS.more {w : World} {B B' : Nat} {v : Value} {ls : List (List UInt8)} (h : OwnS w B v ls) (hB : B' ≤ B) : OwnS w B' v ls := by
  refine ⟨h.1, h.2.imp id ?_⟩
  rintro ⟨g, cap, cur, e, hb, r⟩
  exact ⟨g, cap, cur, e, by omega, r⟩
end Go.Proofs.YtalabahjfmcnbaaGreatDoor
namespace Go.Proofs.YtalabahjfmcnbaaGreatDoor
open Go.RowKit
set_option linter.unusedVariables false

theorem info_str : (Tryz.prog.info? 9).map (fun i => (i.zero, i.size, i.bytes)) = some (some (.string ByteArray.empty), 1, 16) := by kernel_rfl
theorem oneCell_str (ls : List (List UInt8)) : ∀ u ∈ ls.map encStr, u.oneCell' = true := by
  intro u hu
  obtain ⟨l, _, rfl⟩ := List.mem_map.1 hu
  rfl
theorem wpList_append_strs {w : World} {ops : Array Oper} {rest : List Oper} {o : Oper} {a : Act} {Q : Exit → Act → World → Prop} (hgd : o.guard = none) (s x : Operand)
    (ho : o.op = .call { callee := .builtin .append, args := #[s, x], argTypes := #[31, 31] })
    (B : Nat) (v : Value) (ls tt : List (List UInt8)) (hs : a.eval s = v) (hown : OwnS w B v ls) (A : Option Addr) (cap n : Nat) (hx : a.eval x = .slice A n cap) (hn : n = tt.length) (hnil : A = none → cap = 0) (ht : Strs w w.heap.size A (toBs tt)) (hB : B ≤ w.heap.size) (hle : ls.length + tt.length ≤ 1000000)
    (h : ∀ v' w', OwnS w' B v' (ls ++ tt) → w.grownBy w' v.ownBlock → wpList Tryz.prog ops Q rest (a.put o.dst v') w') : wpList Tryz.prog ops Q (o :: rest) a w := by
  subst hn
  obtain ⟨i0, hi, hz0, hz1, hz2⟩ := info_parts info_str
  cases A with
  | none =>
    have h0 : tt = [] := by
      cases tt with
      | nil => rfl
      | cons y r => exact absurd (ht (by simp [toBs])) (by rintro ⟨_, _, e, _⟩; cases e)
    subst h0
    rw [hnil rfl] at hx
    refine wpList_append_own_none hgd s x 31 ho B 9 i0 1 Tryz.underlying31 hi v _ _ hs hown hx ?_
    exact h v w (by simpa using hown) ⟨rfl, rfl, rfl, Nat.le_refl _, fun _ _ _ => rfl⟩
  | some ad =>
    refine wpList_append_own w hgd s x 31 ho B 9 i0 (.string ByteArray.empty) 1 16 Tryz.underlying31 hi hz0 hz1 hz2 rfl (by decide) v ls.length (ls.map encStr) hs hown ad tt.length cap (tt.map encStr) hx (by simp) ?_ (oneCell_str tt) (by unfold maxLen; omega) (by omega) hB ?_
    · intro j u hu
      obtain ⟨hj, hju⟩ := List.getElem?_eq_some_iff.1 hu
      have hj2 : j < tt.length := by simpa using hj
      obtain ⟨b, off, e, hb, hc⟩ := ht (by rw [toBs_len]; omega)
      simp only [Option.some.injEq] at e
      subst e
      have hadd : (⟨b, off, none⟩ : Addr).add j = ⟨b, off + j, none⟩ := by unfold Addr.add; split <;> simp_all
      rw [hadd, hc j (by rw [toBs_len]; exact hj2), ← hju]
      simp [toBs, encStr_eq]
    · intro v' w' hown' hgrow _
      refine h v' w' ?_ hgrow
      unfold OwnS
      rw [List.length_append, List.map_append]
      exact hown'
/-- The same, the new row's address and room named. -/
theorem wpList_append_row {w : World} {ops : Array Oper} {rest : List Oper} {o : Oper} {a : Act} {Q : Exit → Act → World → Prop} (hgd : o.guard = none) (s x : Operand)
    (ho : o.op = .call { callee := .builtin .append, args := #[s, x], argTypes := #[31, 31] })
    (B : Nat) (v : Value) (ls tt : List (List UInt8)) (hs : a.eval s = v) (hown : OwnS w B v ls) (A : Option Addr) (cap n : Nat) (hx : a.eval x = .slice A n cap) (hn : n = tt.length) (hnil : A = none → cap = 0) (ht : Strs w w.heap.size A (toBs tt)) (hB : B ≤ w.heap.size) (hle : ls.length + tt.length ≤ 1000000)
    (m : Nat) (hm : m = ls.length + tt.length)
    (h : ∀ A' cap' w', OwnS w' B (.slice A' m cap') (ls ++ tt) → Strs w' w'.heap.size A' (toBs (ls ++ tt)) → w.grownBy w' v.ownBlock → wpList Tryz.prog ops Q rest (a.put o.dst (.slice A' m cap')) w') : wpList Tryz.prog ops Q (o :: rest) a w := by
  refine wpList_append_strs hgd s x ho B v ls tt hs hown A cap n hx hn hnil ht hB hle fun v' w' ho' hg' => ?_
  obtain ⟨A', cap', rfl, hs', _, _⟩ := ho'.strs
  have e : (ls ++ tt).length = m := by rw [List.length_append, hm]
  rw [e] at ho' ⊢
  exact h A' cap' w' ho' hs' hg'
theorem ownBlock_ge {w : World} {B : Nat} {v : Value} {ls : List (List UInt8)} (h : OwnS w B v ls) : ∀ k, v.ownBlock = some k → B ≤ k := fun k hk => (World.ownsRow.lt h k hk).1
theorem Strs.take {w : World} {B : Nat} {A : Option Addr} {ls : List (List UInt8)} (h : Strs w B A (toBs ls)) (j : Nat) : Strs w B A (toBs (ls.take j)) := fun hp => by
  have hl : 0 < (toBs ls).length := by rw [toBs_len] at *; rw [List.length_take] at hp; omega
  obtain ⟨b, off, e, hb, hc⟩ := h hl
  refine ⟨b, off, e, hb, fun i hi => ?_⟩
  have hi2 : i < (toBs ls).length := by rw [toBs_len] at *; rw [List.length_take] at hi; omega
  rw [hc i hi2]
  simp [toBs]
theorem Strs.drop {w : World} {B b off : Nat} {ls : List (List UInt8)} (h : Strs w B (some ⟨b, off, none⟩) (toBs ls)) (j : Nat) : Strs w B (some ⟨b, off + j, none⟩) (toBs (ls.drop j)) := fun hp => by
  have hl : j < (toBs ls).length := by rw [toBs_len] at *; rw [List.length_drop] at hp; omega
  obtain ⟨b', off', e, hb, hc⟩ := h (by omega)
  cases e
  refine ⟨b, off + j, rfl, hb, fun i hi => ?_⟩
  have hi2 : j + i < (toBs ls).length := by rw [toBs_len] at *; rw [List.length_drop] at hi; omega
  rw [Nat.add_assoc, hc (j + i) hi2]
  simp [toBs]
theorem below_append {w0 w w' : World} {B : Nat} {v : Value} {ls : List (List UInt8)} (hb : Below B w0 w) (ho : OwnS w B v ls) (hg : w.grownBy w' v.ownBlock) (hB : B ≤ w0.heap.size) : Below B w0 w' :=
  hb.grown hg (Nat.le_trans hB hb.size) (ownBlock_ge ho)
theorem strs_one (w : World) (s : ByteArray) : Strs (w.alloc (.cells #[.string s] 9)) (w.alloc (.cells #[.string s] 9)).heap.size (some ⟨w.heap.size, 0, none⟩) (toBs [s.data.toList]) := by
  have h := strs_new w [s]
  have e : toBs [s.data.toList] = [s] := by simp [toBs, toB_of]
  rw [e]
  exact h.more (by simp)
/-- A part of a row of strings. -/
theorem Strs.part {w : World} {B : Nat} {A : Option Addr} {ls : List (List UInt8)} (h : Strs w B A (toBs ls)) (j n : Nat) (A2 : Option Addr) (hA : ∀ b off, A = some ⟨b, off, none⟩ → j < ls.length → A2 = some ⟨b, off + j, none⟩) : Strs w B A2 (toBs ((ls.drop j).take n)) := fun hp => by
  have hl : j < ls.length := by rw [toBs_len, List.length_take, List.length_drop] at hp; omega
  obtain ⟨b, off, e, hb, hc⟩ := h (by rw [toBs_len]; omega)
  refine ⟨b, off + j, hA b off e hl, hb, fun i hi => ?_⟩
  have hi2 : j + i < (toBs ls).length := by rw [toBs_len] at *; rw [List.length_take, List.length_drop] at hi; omega
  rw [Nat.add_assoc, hc (j + i) hi2]
  simp [toBs]

theorem add_row (b off a : Nat) : (⟨b, off, none⟩ : Addr).add a = ⟨b, off + a, none⟩ := by unfold Addr.add; split <;> simp_all
end Go.Proofs.YtalabahjfmcnbaaGreatDoor
namespace Go.Proofs.YtalabahjfmcnbaaGreatDoor
open Go.RowKit
set_option linter.unusedVariables false

/-- What a file says: its path, is it a directory, its lines. -/
abbrev PF := List UInt8 × Bool × List (List UInt8)
/-- A file as it lies: its path, is it a directory, and its lines' slice, with the lines that it holds. -/
structure Fm where
  p : ByteArray
  d : Bool
  a : Option Addr
  c : Nat
  ls : List (List UInt8)
def Fm.cells (f : Fm) : List Value := [.string f.p, .bool f.d, .slice f.a f.ls.length f.c]
/-- Its lines lie below B. -/
structure Fm.Ok (f : Fm) (w : World) (B : Nat) : Prop where
  ls : Strs w B f.a (toBs f.ls)
  r : Room f.a f.ls.length f.c
def Fm.key (f : Fm) : PF := (f.p.data.toList, f.d, f.ls)
def fkeys (fs : List Fm) : List PF := fs.map Fm.key
/-- Files lie at A, three cells each, in a block below B. -/
structure Fs (w : World) (B : Nat) (A : Option Addr) (fs : List Fm) : Prop where
  at_ : 0 < fs.length → ∃ b off, A = some ⟨b, off, none⟩ ∧ b < B ∧ ∀ j (h : j < fs.length), w.cell? ⟨b, off + j * 3, none⟩ = some (.string fs[j].p) ∧
    w.cell? ⟨b, off + j * 3 + 1, none⟩ = some (.bool fs[j].d) ∧ w.cell? ⟨b, off + j * 3 + 2, none⟩ = some (.slice fs[j].a fs[j].ls.length fs[j].c)
  ok : ∀ f ∈ fs, f.Ok w B

section
variable {w w' : World} {B B' : Nat} {A : Option Addr} {fs : List Fm} {f : Fm}
theorem Fm.Ok.below (k : f.Ok w B) (hb : Below B w w') : f.Ok w' B := ⟨k.ls.below hb, k.r⟩
theorem Fm.Ok.more (k : f.Ok w B) (hB : B ≤ B') : f.Ok w B' := ⟨k.ls.more hB, k.r⟩
theorem Fm.Ok.on (k : f.Ok w w.heap.size) (hb : Below w.heap.size w w') : f.Ok w' w'.heap.size := (k.below hb).more hb.size
theorem Fs.below (k : Fs w B A fs) (hb : Below B w w') : Fs w' B A fs :=
  ⟨fun hp => by
    obtain ⟨b, off, e, hlt, hc⟩ := k.at_ hp
    refine ⟨b, off, e, hlt, fun j hj => ?_⟩
    obtain ⟨h1, h2, h3⟩ := hc j hj
    exact ⟨(hb.cell (p := ⟨b, _, none⟩) hlt).trans h1, (hb.cell (p := ⟨b, _, none⟩) hlt).trans h2, (hb.cell (p := ⟨b, _, none⟩) hlt).trans h3⟩, fun h hh => (k.ok h hh).below hb⟩
theorem Fs.more (k : Fs w B A fs) (hB : B ≤ B') : Fs w B' A fs :=
  ⟨fun hp => by
    obtain ⟨b, off, e, hlt, hc⟩ := k.at_ hp
    exact ⟨b, off, e, by omega, hc⟩, fun h hh => (k.ok h hh).more hB⟩
theorem Fs.on (k : Fs w w.heap.size A fs) (hb : Below w.heap.size w w') : Fs w' w'.heap.size A fs := (k.below hb).more hb.size
theorem Fs.nil : Fs w B A [] := ⟨fun h => absurd h (by simp), fun h hh => by cases hh⟩
theorem Fs.get (k : Fs w B A fs) {j : Nat} (hj : j < fs.length) : ∃ b off, A = some ⟨b, off, none⟩ ∧ b < B ∧ w.cell? ⟨b, off + j * 3, none⟩ = some (.string fs[j].p) ∧
    w.cell? ⟨b, off + j * 3 + 1, none⟩ = some (.bool fs[j].d) ∧ w.cell? ⟨b, off + j * 3 + 2, none⟩ = some (.slice fs[j].a fs[j].ls.length fs[j].c) := by
  obtain ⟨b, off, e, hlt, hc⟩ := k.at_ (by omega)
  exact ⟨b, off, e, hlt, hc j hj⟩
end

/-- A file of its own lies in block g. -/
def FileAt (w : World) (g : Nat) (f : Fm) : Prop := w.heap[g]? = some (.cells f.cells.toArray 62 (0, 0))
section
variable {w w' : World} {g : Nat} {f : Fm}
theorem FileAt.c0 (k : FileAt w g f) : w.cell? ⟨g, 0, none⟩ = some (.string f.p) := by simp [World.cell?, show w.heap[g]? = _ from k, Fm.cells]
theorem FileAt.c1 (k : FileAt w g f) : w.cell? ⟨g, 1, none⟩ = some (.bool f.d) := by simp [World.cell?, show w.heap[g]? = _ from k, Fm.cells]
theorem FileAt.c2 (k : FileAt w g f) : w.cell? ⟨g, 2, none⟩ = some (.slice f.a f.ls.length f.c) := by simp [World.cell?, show w.heap[g]? = _ from k, Fm.cells]
theorem FileAt.fz (k : FileAt w g f) (i : Nat) : w.frozen? ⟨g, i, none⟩ = false := by simp [World.frozen?, show w.heap[g]? = _ from k]
theorem FileAt.lt (k : FileAt w g f) : g < w.heap.size := (Array.getElem?_eq_some_iff.1 k).1
theorem FileAt.on (k : FileAt w g f) (hb : Below w.heap.size w w') : FileAt w' g f := (hb.block g k.lt).trans k
theorem FileAt.grown {row : Option Nat} (k : FileAt w g f) (hg : w.grownBy w' row) (hr : row ≠ some g) : FileAt w' g f := (hg.block g k.lt (fun e => hr e.symm)).trans k
theorem FileAt.new_ (w : World) (f : Fm) : FileAt (w.alloc (.cells f.cells.toArray 62)) w.heap.size f := heap_alloc_new w _
end

def fcells (fs : List Fm) : List Value := fs.flatMap Fm.cells
theorem fcells_len : ∀ (fs : List Fm), (fcells fs).length = fs.length * 3
  | [] => rfl
  | h :: fs => by
    have := fcells_len fs
    simp only [fcells, List.flatMap_cons, List.length_append, List.length_cons] at *
    rw [this]
    show 3 + _ = _
    omega
theorem fcells_get : ∀ (fs : List Fm) (j : Nat) (hj : j < fs.length), (fcells fs)[j * 3]? = some (.string fs[j].p) ∧ (fcells fs)[j * 3 + 1]? = some (.bool fs[j].d) ∧ (fcells fs)[j * 3 + 2]? = some (.slice fs[j].a fs[j].ls.length fs[j].c)
  | h :: fs, 0, hj => ⟨rfl, rfl, rfl⟩
  | h :: fs, j + 1, hj => by
    have ih := fcells_get fs j (by simpa using hj)
    have e : ∀ r, (fcells (h :: fs))[(j + 1) * 3 + r]? = (fcells fs)[j * 3 + r]? := by
      intro r
      have e1 : fcells (h :: fs) = h.cells ++ fcells fs := rfl
      rw [e1, List.getElem?_append_right (by show 3 ≤ _; omega)]
      congr 1
      show _ - 3 = _
      omega
    have e0 := e 0
    rw [Nat.add_zero, Nat.add_zero] at e0
    rw [e0, e 1, e 2]
    exact ih
theorem fcells_app (a b : List Fm) : fcells (a ++ b) = fcells a ++ fcells b := by simp [fcells]
/-- Each place of a row of cells is one of a file's. -/
theorem fcells_at (fs : List Fm) (i : Nat) (h : i < fs.length * 3) : ∃ j r, j < fs.length ∧ r < 3 ∧ i = j * 3 + r := ⟨i / 3, i % 3, by omega, by omega, by omega⟩
/-- A slice of files that the call made. -/
def OwnF (w : World) (B : Nat) (v : Value) (fs : List Fm) : Prop := w.ownsRow B 62 3 v fs.length (fcells fs)
theorem OwnF.nil (w : World) (B : Nat) : OwnF w B (.slice none 0 0) [] := w.ownsRow_nil B 62 3
theorem OwnF.fs {w : World} {B : Nat} {v : Value} {fs : List Fm} (h : OwnF w B v fs) (hok : ∀ f ∈ fs, f.Ok w w.heap.size) : ∃ A cap, v = .slice A fs.length cap ∧ Fs w w.heap.size A fs ∧ Room A fs.length cap := by
  have h' := h
  rcases h.2 with ⟨rfl, h0⟩ | ⟨g, cap, cur, rfl, _, hg, hcap, _⟩
  · have e : fs = [] := List.length_eq_zero_iff.1 h0
    subst e
    exact ⟨none, 0, rfl, Fs.nil, fun _ => rfl, Nat.le_refl _⟩
  · refine ⟨_, cap, rfl, ⟨fun hp => ⟨g, 0, rfl, (Array.getElem?_eq_some_iff.1 hg).1, fun j hj => ?_⟩, hok⟩, (fun e => by cases e), hcap⟩
    obtain ⟨c0, c1, c2⟩ := fcells_get fs j hj
    have e : ∀ i, (⟨g, 0, none⟩ : Addr).add i = ⟨g, i, none⟩ := fun i => by unfold Addr.add; split <;> simp_all
    have k0 := h'.cells (g := g) rfl _ _ c0
    have k1 := h'.cells (g := g) rfl _ _ c1
    have k2 := h'.cells (g := g) rfl _ _ c2
    rw [e] at k0 k1 k2
    rw [Nat.zero_add]
    exact ⟨k0, k1, k2⟩
end Go.Proofs.YtalabahjfmcnbaaGreatDoor
namespace Go.Proofs.YtalabahjfmcnbaaGreatDoor
open Go.RowKit
set_option linter.unusedVariables false

/-- The cells of files lie at A. -/
def FCells (w : World) (A : Option Addr) (tt : List Fm) : Prop := 0 < tt.length → ∃ b off, A = some ⟨b, off, none⟩ ∧ ∀ j u, (fcells tt)[j]? = some u → w.cell? ⟨b, off + j, none⟩ = some u
theorem Fs.cells {w : World} {B : Nat} {A : Option Addr} {tt : List Fm} (h : Fs w B A tt) : FCells w A tt := fun hp => by
  obtain ⟨b, off, e, hlt, hc⟩ := h.at_ hp
  refine ⟨b, off, e, fun j u hu => ?_⟩
  obtain ⟨hj, _⟩ := List.getElem?_eq_some_iff.1 hu
  rw [fcells_len] at hj
  obtain ⟨q, r, hq, hr, rfl⟩ := fcells_at tt j hj
  obtain ⟨c0, c1, c2⟩ := hc q hq
  obtain ⟨d0, d1, d2⟩ := fcells_get tt q hq
  rw [← Nat.add_assoc]
  match r, hr with
  | 0, _ => rw [Nat.add_zero] at hu ⊢; rw [d0] at hu; rw [c0, hu]
  | 1, _ => rw [d1] at hu; rw [c1, hu]
  | 2, _ => rw [d2] at hu; rw [c2, hu]
theorem FileAt.cells {w : World} {g : Nat} {f : Fm} (h : FileAt w g f) : FCells w (some ⟨g, 0, none⟩) [f] := fun _ => by
  refine ⟨g, 0, rfl, fun j u hu => ?_⟩
  have e : fcells [f] = f.cells := by simp [fcells]
  rw [e] at hu
  have hj := (List.getElem?_eq_some_iff.1 hu).1
  have hj3 : j < 3 := hj
  rw [Nat.zero_add]
  match j, hj3 with
  | 0, _ => rw [h.c0]; exact hu
  | 1, _ => rw [h.c1]; exact hu
  | 2, _ => rw [h.c2]; exact hu
theorem FCells.take {w : World} {A : Option Addr} {tt : List Fm} (h : FCells w A tt) (k : Nat) : FCells w A (tt.take k) := fun hp => by
  rw [List.length_take] at hp
  obtain ⟨b, off, e, hc⟩ := h (by omega)
  refine ⟨b, off, e, fun j u hu => hc j u ?_⟩
  have hj := (List.getElem?_eq_some_iff.1 hu).1
  have e2 : fcells tt = fcells (tt.take k) ++ fcells (tt.drop k) := by rw [← fcells_app, List.take_append_drop]
  rw [e2, List.getElem?_append_left hj]
  exact hu
theorem FCells.drop {w : World} {b off : Nat} {tt : List Fm} (h : FCells w (some ⟨b, off, none⟩) tt) (k : Nat) : FCells w (some ⟨b, off + k * 3, none⟩) (tt.drop k) := fun hp => by
  rw [List.length_drop] at hp
  obtain ⟨b', off', e, hc⟩ := h (by omega)
  cases e
  refine ⟨b, off + k * 3, rfl, fun j u hu => ?_⟩
  have e2 : fcells tt = fcells (tt.take k) ++ fcells (tt.drop k) := by rw [← fcells_app, List.take_append_drop]
  have hl : (fcells (tt.take k)).length = k * 3 := by rw [fcells_len, List.length_take]; omega
  rw [Nat.add_assoc]
  refine hc _ _ ?_
  rw [e2, List.getElem?_append_right (by omega), hl, Nat.add_sub_cancel_left]
  exact hu
theorem FCells.on {w w' : World} {A : Option Addr} {tt : List Fm} (h : FCells w A tt) (hb : Below w.heap.size w w') : FCells w' A tt := fun hp => by
  obtain ⟨b, off, e, hc⟩ := h hp
  refine ⟨b, off, e, fun j u hu => ?_⟩
  have h1 := hc j u hu
  have hlt : b < w.heap.size := by
    unfold World.cell? at h1
    rcases Nat.lt_or_ge b w.heap.size with h2 | h2
    · exact h2
    · rw [Array.getElem?_eq_none h2] at h1; simp at h1
  exact (hb.cell (p := ⟨b, off + j, none⟩) hlt).trans h1
theorem addr_add (b off a : Nat) : (⟨b, off, none⟩ : Addr).add a = ⟨b, off + a, none⟩ := by unfold Addr.add; split <;> simp_all
theorem OwnF.slice {w : World} {B : Nat} {v : Value} {fs : List Fm} (h : OwnF w B v fs) : ∃ A cap, v = .slice A fs.length cap ∧ FCells w A fs ∧ Room A fs.length cap ∧ cap ≤ maxLen := by
  have h' := h
  rcases h.2 with ⟨rfl, h0⟩ | ⟨g, cap, cur, rfl, _, hg, hcap, hm, _⟩
  · have e : fs = [] := List.length_eq_zero_iff.1 h0
    subst e
    exact ⟨none, 0, rfl, fun h => absurd h (by simp), ⟨fun _ => rfl, Nat.le_refl _⟩, Nat.zero_le _⟩
  · refine ⟨_, cap, rfl, fun hp => ⟨g, 0, rfl, fun j u hu => ?_⟩, ⟨fun e => (by cases e), hcap⟩, hm⟩
    have k0 := h'.cells (g := g) rfl _ _ hu
    rw [addr_add] at k0
    exact k0
theorem OwnF.fcells {w : World} {B n cap : Nat} {A : Option Addr} {fs : List Fm} (h : OwnF w B (.slice A n cap) fs) : FCells w A fs := by
  obtain ⟨A', cap', e, hc, _, _⟩ := h.slice
  simp only [Value.slice.injEq] at e
  obtain ⟨rfl, _, rfl⟩ := e
  exact hc
theorem FCells.get {w : World} {A : Option Addr} {fs : List Fm} (h : FCells w A fs) {j : Nat} (hj : j < fs.length) : ∃ b off, A = some ⟨b, off, none⟩ ∧ w.cell? ⟨b, off + j * 3, none⟩ = some (.string fs[j].p) ∧
    w.cell? ⟨b, off + j * 3 + 1, none⟩ = some (.bool fs[j].d) ∧ w.cell? ⟨b, off + j * 3 + 2, none⟩ = some (.slice fs[j].a fs[j].ls.length fs[j].c) := by
  obtain ⟨b, off, e, hc⟩ := h (by omega)
  obtain ⟨d0, d1, d2⟩ := fcells_get fs j hj
  have k0 := hc _ _ d0
  have k1 := hc _ _ d1
  have k2 := hc _ _ d2
  rw [← Nat.add_assoc] at k1 k2
  exact ⟨b, off, e, k0, k1, k2⟩
theorem OwnF.kept {w w' : World} {B : Nat} {v : Value} {fs : List Fm} (h : OwnF w B v fs) (hb : Below w.heap.size w w') : OwnF w' B v fs :=
  World.ownsRow.kept h (row := none) ⟨hb.os, hb.tape, hb.output, hb.size, fun i hi _ => hb.block i hi⟩ (by cases v.ownBlock <;> simp)
theorem OwnF.more {w : World} {B B' : Nat} {v : Value} {fs : List Fm} (h : OwnF w B v fs) (hB : B' ≤ B) : OwnF w B' v fs := by
  refine ⟨h.1, h.2.imp id ?_⟩
  rintro ⟨g, cap, cur, e, hb, r⟩
  exact ⟨g, cap, cur, e, by omega, r⟩
theorem ownBlock_gef {w : World} {B : Nat} {v : Value} {fs : List Fm} (h : OwnF w B v fs) : ∀ k, v.ownBlock = some k → B ≤ k := fun k hk => (World.ownsRow.lt h k hk).1
/-- A call hands back a row of files, that it made; their lines lie where they lay. -/
def RowF (w : World) (fs : List Fm) (e : Ending) (w' : World) : Prop := ∃ v, e = .returned v ∧ OwnF w' w.heap.size v fs ∧ Below w.heap.size w w'

end Go.Proofs.YtalabahjfmcnbaaGreatDoor
namespace Go.Proofs.YtalabahjfmcnbaaGreatDoor
open Go.RowKit
set_option linter.unusedVariables false

/-- A call hands back a row of texts; new blocks alone are made. -/
def RowLeft (w : World) (ls : List (List UInt8)) (e : Ending) (w' : World) : Prop :=
  ∃ A cap, e = .returned (.slice A ls.length cap) ∧ (A = none → cap = 0) ∧ Strs w' w'.heap.size A (toBs ls) ∧ Below w.heap.size w w'
theorem own_row {w : World} {ls : List (List UInt8)} {e : Ending} {w' : World} (h : ∃ v, e = .returned v ∧ OwnS w' w.heap.size v ls ∧ Below w.heap.size w w') : RowLeft w ls e w' := by
  obtain ⟨v, rfl, ho, hb⟩ := h
  obtain ⟨A, cap, rfl, hs, _, _⟩ := ho.strs
  exact ⟨A, cap, rfl, ho.at_.2.1.1, hs, hb⟩

theorem cell_on {w w' : World} {b off : Nat} {v : Value} (h : w.cell? ⟨b, off, none⟩ = some v) (hb : Below w.heap.size w w') : w'.cell? ⟨b, off, none⟩ = some v := (hb.cell (p := ⟨b, off, none⟩) (World.block_lt_of_cell? _ _ h)).trans h
theorem grown_cell (w : World) (g i : Nat) (v : Value) : w.grownBy (w.setCell ⟨g, i, none⟩ v) (some g) :=
  ⟨rfl, rfl, rfl, by simp [World.setCell], fun k _ hne => Below.heap_setCell w _ v k (fun e => hne (by simp [e]))⟩
theorem grown_on {w w' w2 : World} {g : Nat} (h : w.grownBy w' (some g)) (h2 : w'.grownBy w2 (some g)) : w.grownBy w2 (some g) :=
  ⟨h2.os.trans h.os, h2.tape.trans h.tape, h2.output.trans h.output, Nat.le_trans h.size h2.size, fun k hk hne => (h2.block k (Nat.lt_of_lt_of_le hk h.size) hne).trans (h.block k hk hne)⟩
/-- Rows held while new blocks are made. -/
def Held (w0 w : World) (l : List (Option Addr × List (List UInt8))) : Prop :=
  Below w0.heap.size w0 w ∧ ∀ p ∈ l, Strs w w.heap.size p.1 (toBs p.2)
theorem Held.step {w0 w w' : World} {l : List (Option Addr × List (List UInt8))} (h : Held w0 w l) (hb : Below w.heap.size w w') : Held w0 w' l :=
  ⟨h.1.trans (hb.mono h.1.size), fun p hp => (h.2 p hp).on hb⟩
theorem Held.get {w0 w : World} {l : List (Option Addr × List (List UInt8))} {A : Option Addr} {ls : List (List UInt8)} (h : Held w0 w l) (hp : (A, ls) ∈ l) : Strs w w.heap.size A (toBs ls) := h.2 _ hp
theorem Held.nil (w : World) : Held w w [] := ⟨Below.refl _ _, fun p hp => by cases hp⟩
end Go.Proofs.YtalabahjfmcnbaaGreatDoor
namespace Go.Proofs.YtalabahjfmcnbaaGreatDoor
open Go.RowKit
set_option linter.unusedVariables false

theorem str_beq (s t : ByteArray) : (s.toList == t.toList) = decide (s = t) := by
  rw [toList_eq, toList_eq]
  by_cases h : s = t
  · subst h; simp
  · rw [decide_eq_false h, beq_eq_false_iff_ne]
    exact fun e => h (bytes_inj e)
theorem str_ne {s t : ByteArray} (h : s ≠ t) : (s.toList == t.toList) = false := by
  rw [beq_eq_false_iff_ne]
  intro e
  rw [toList_eq, toList_eq] at e
  exact h (bytes_inj e)
theorem str_ne_empty {s : ByteArray} (h : s ≠ ⟨#[]⟩) : (s.toList == []) = false := by
  rw [beq_eq_false_iff_ne]
  intro e
  rw [toList_eq] at e
  exact h (bytes_inj e)
theorem toB_size (l : List UInt8) : (toB l).size = l.length := by simp [toB, ByteArray.size]
end Go.Proofs.YtalabahjfmcnbaaGreatDoor
