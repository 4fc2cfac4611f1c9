/- Operations plainly, as package op asks for them: their own parts, the parts that are formed; bytes read back. Rows held while blocks are made. Rows of records that a call made, in a block of their own, written over; a variable of a record handed back. Words for memory: operations, rows of operations. Arrays of five ids: held against each other, an element of one. -/
import Derived.Laws.Rows
import Derived.Laws.ResultCell
import Derived.ChangeKeysEq
import Derived.Test.YtioknegeebgdbaaGreatDoorCk03
namespace Go.Proofs.YtioknegeebgdbaaGreatDoor
open Go.RowKit
set_option linter.unusedVariables false

/-- The parts of an operation that its kind has, alone. -/
def ownedO (o : OpK) : OpK :=
  if o.kind = 1 ∨ o.kind = 2 ∨ o.kind = 3 then { OpK.zero with kind := o.kind, self := o.self, parent := o.parent, name := o.name }
  else if o.kind = 4 then { OpK.zero with kind := o.kind, self := o.self, parent := o.parent, name := o.name, dst := o.dst, dname := o.dname }
  else if o.kind = 5 then { OpK.zero with kind := o.kind, self := o.self, left := o.left, right := o.right, dels := o.dels, first := o.first, lines := o.lines }
  else OpK.zero
/-- May an id be a directory's, and a name in it? -/
def placedO (d : Ik) (n : List UInt8) : Bool := (noneI d || madeI d) && nameK n
def movedO (o : OpK) : Bool := (!decide (o.dst = o.parent) || !decide (o.dname = o.name)) && (placedO o.parent o.name && placedO o.dst o.dname)
def spannedO (o : OpK) : Bool := (decide (o.left = ([], 1)) || madeI o.left) && ((decide (o.right = ([], 2)) || madeI o.right) && (o.dels.all madeI && decide ((setI (o.left :: o.right :: o.dels)).length = (o.left :: o.right :: o.dels).length)))
def linedO (o : OpK) : Bool := (decide (0 < o.dels.length) || decide (0 < o.lines.length)) && (decide (0 ≤ o.first) && (decide (o.first ≤ 1048576) && decide (checkN (toBs o.lines) = 0)))
def formedO (o : OpK) : Bool :=
  if o.kind = 1 ∨ o.kind = 2 ∨ o.kind = 3 then madeI o.self && placedO o.parent o.name
  else if o.kind = 4 then madeI o.self && movedO o
  else if o.kind = 5 then madeI o.self && (decide (o.dels.length ≤ 2000) && (spannedO o && linedO o))
  else false
theorem insI_old {x : Ik} {l : List Ik} (h : x ∈ l) (hr : RiseI l) : (insI x l).length = l.length := by rw [insI_in hr h]
theorem insI_more {x : Ik} : ∀ {l : List Ik}, x ∉ l → (insI x l).length = l.length + 1
  | [], _ => rfl
  | y :: l, h => by
    unfold insI
    have hy : x ≠ y := fun e => h (by rw [e]; exact List.mem_cons_self ..)
    have hl : x ∉ l := fun e => h (List.mem_cons_of_mem _ e)
    have ih := insI_more hl
    split
    · rw [List.length_cons, List.length_cons, ih]
    · rw [if_neg (fun e => hy e.symm)]
      rfl
theorem snoc_rec {α : Type} {P : List α → Prop} (h0 : P []) (h1 : ∀ l x, P l → P (l ++ [x])) (l : List α) : P l := by
  rw [← List.reverse_reverse l]
  induction l.reverse with
  | nil => exact h0
  | cons x r ih =>
    rw [List.reverse_cons]
    exact h1 _ _ ih
theorem setI_nodup (l : List Ik) : (setI l).length = l.length ↔ l.Nodup := by
  induction l using snoc_rec with
  | h0 => simp [setI]
  | h1 l x ih =>
    rw [setI_snoc, List.length_append, List.length_singleton, List.nodup_append]
    by_cases h : x ∈ l
    · rw [insI_old ((mem_setI x l).2 h) (rise_setI l)]
      have := setI_len l
      constructor
      · intro e; omega
      · intro e
        exact absurd rfl (e.2.2 x h x (by simp))
    · rw [insI_more (fun e => h ((mem_setI x l).1 e))]
      constructor
      · intro e
        refine ⟨ih.1 (by omega), by simp, ?_⟩
        intro a ha b hb
        have hb2 : b = x := by simpa using hb
        rw [hb2]
        intro e2
        exact h (e2 ▸ ha)
      · intro e
        rw [ih.2 e.1]
theorem placed_or (d : Ik) (n : List UInt8) : placedO d n = (orI d 0 && nameK n) := by
  unfold placedO orI noneI zeroI
  rw [Bool.or_comm]
theorem spanned_iff (o : OpK) : spannedO o = (orI o.left 1 && (orI o.right 2 && (o.dels.all madeI && decide (o.left :: o.right :: o.dels).Nodup))) := by
  unfold spannedO orI
  rw [Bool.or_comm, Bool.or_comm (decide (o.right = ([], 2))), decide_eq_decide.2 (setI_nodup _)]
/-- An operation may be just if it has no parts but its own, and these are formed. -/
theorem may_parts (o : OpK) : mayO o = (decide (o = ownedO o) && formedO o) := by
  obtain ⟨k, sf, p, d, n, m, lf, r, ds, f, ls⟩ := o
  unfold mayO ownedO formedO
  simp only
  by_cases h1 : k = 1 ∨ k = 2 ∨ k = 3
  · rw [if_pos h1, if_pos h1]
    have h5 : k ≠ 5 := by omega
    have h4 : k ≠ 4 := by omega
    have hk : 1 ≤ k ∧ k ≤ 5 := by omega
    rw [if_neg h5, if_neg h4, decide_eq_true hk, placed_or]
    rw [Bool.eq_iff_iff]
    simp only [placeO, noneI, zeroI, OpK.zero, Bool.and_eq_true, decide_eq_true_eq, OpK.mk.injEq, true_and, and_true]
    grind
  · rw [if_neg h1, if_neg h1]
    by_cases h4 : k = 4
    · subst h4
      rw [if_pos rfl, if_pos rfl, if_neg (by decide), if_pos rfl]
      unfold movedO
      rw [placed_or, placed_or, Bool.eq_iff_iff]
      simp only [placeO, noneI, zeroI, OpK.zero, Bool.and_eq_true, Bool.or_eq_true, Bool.not_eq_true', decide_eq_true_eq, decide_eq_false_iff_not, OpK.mk.injEq, true_and]
      grind
    · rw [if_neg h4, if_neg h4]
      by_cases h5 : k = 5
      · subst h5
        rw [if_pos rfl, if_pos rfl, if_pos rfl, spanned_iff]
        unfold hunkO linedO
        rw [Bool.eq_iff_iff]
        simp only [noneI, zeroI, OpK.zero, Bool.and_eq_true, decide_eq_true_eq, OpK.mk.injEq, true_and, and_true]
        grind
      · rw [if_neg h5, if_neg h5, if_neg h5]
        have hk : ¬ (1 ≤ k ∧ k ≤ 5) := by omega
        rw [decide_eq_false hk]
        simp only [Bool.and_false, Bool.false_and, if_neg h4]
/-- Bytes read on: what is left, and the error. -/
abbrev St := List UInt8 × Int
def sNum (s : St) : Nat × St := if s.2 = 0 then ((rNum s.1).1, ((rNum s.1).2.2, (rNum s.1).2.1)) else (0, s)
def sText (s : St) : List UInt8 × St := if s.2 = 0 then ((rText s.1).1, ((rText s.1).2.2, (rText s.1).2.1)) else ([], s)
def sList (s : St) : List (List UInt8) × St := if s.2 = 0 then ((rList s.1).1, ((rList s.1).2.2, (rList s.1).2.1)) else ([], s)
open Classical in
/-- The id that a text is; of a text that is none's: the root. -/
noncomputable def idOfK (l : List UInt8) : Ik := if h : ∃ k, okK k = true ∧ textK k = l then h.choose else zeroI
theorem idOf_parse {l : List UInt8} {z : Ik} {er : Int} (h : ParseK l z er) : idOfK l = z := by
  unfold idOfK
  rcases h with ⟨_, h1, h2⟩ | ⟨_, h1, h2⟩
  · have hx : ∃ k, okK k = true ∧ textK k = l := ⟨z, h1, h2⟩
    rw [dif_pos hx]
    have h3 := hx.choose_spec
    exact textK_inj h3.1 h1 (h3.2.trans h2.symm)
  · rw [dif_neg]
    · exact h1.symm
    · rintro ⟨k, hk, e⟩
      exact h2 k hk e
theorem idOf_text {k : Ik} (h : okK k = true) : idOfK (textK k) = k := by
  have hx : ∃ m, okK m = true ∧ textK m = textK k := ⟨k, h, rfl⟩
  unfold idOfK
  rw [dif_pos hx]
  exact textK_inj hx.choose_spec.1 h hx.choose_spec.2
/-- n texts read on, one after the other. -/
def sTexts : Nat → St → List (List UInt8) × St
  | 0, s => ([], s)
  | n + 1, s => ((sTexts n s).1 ++ [(sText (sTexts n s).2).1], (sText (sTexts n s).2).2)
theorem sTexts_len (n : Nat) (s : St) : (sTexts n s).1.length = n := by
  induction n with
  | zero => rfl
  | succ n ih => simp [sTexts, ih]
/-- What is read of bytes as an operation, and the error. -/
noncomputable def readO (l : List UInt8) : OpK × Int :=
  let a := sNum (l, 0)
  let b := sNum a.2
  let x := sTexts 5 b.2
  let n := sText x.2
  let m := sText n.2
  let d := sList m.2
  let e := sList d.2
  (⟨IntKind.i64.wrap (a.1 : Int), idOfK (x.1.getD 0 []), idOfK (x.1.getD 1 []), idOfK (x.1.getD 2 []), n.1, m.1, idOfK (x.1.getD 3 []), idOfK (x.1.getD 4 []), d.1.map idOfK, IntKind.i64.wrap (b.1 : Int), e.1⟩, e.2.2)
theorem sNum_num (n : Nat) (r : List UInt8) (h : n < 18446744073709551616) : sNum (numB n ++ r, 0) = (n, (r, 0)) := by
  unfold sNum
  rw [if_pos rfl, rNum_num n r h]
theorem sText_text (s r : List UInt8) (h : s.length < 18446744073709551616) : sText (textB s ++ r, 0) = (s, (r, 0)) := by
  unfold sText
  rw [if_pos rfl, rText_text s r h]
theorem sList_list (l : List (List UInt8)) (r : List UInt8) (hl : l.length < 18446744073709551616) (h : ∀ s ∈ l, s.length < 18446744073709551616) : sList (listB l ++ r, 0) = (l, (r, 0)) := by
  unfold sList
  rw [if_pos rfl, rList_list l r hl h]
theorem map_idOf {l : List Ik} (h : ∀ k ∈ l, okK k = true) : (l.map textK).map idOfK = l := by
  induction l with
  | nil => rfl
  | cons a l ih =>
    rw [List.map_cons, List.map_cons, idOf_text (h a (by simp)), ih fun k hk => h k (List.mem_cons_of_mem _ hk)]
/-- The bytes of an operation that may be are read as it. -/
theorem readO_put {o : OpK} (h : mayO o = true) : readO (putO o) = (o, 0) := by
  have A := op_ok h
  obtain ⟨k, f, a1, a2, a3, a4, a5, n1, m1, c1, d1, l1⟩ := A
  obtain ⟨la, lb⟩ := lines_few l1
  have big : ∀ {k : Ik}, okK k = true → (textK k).length < 18446744073709551616 := fun h => Nat.lt_of_le_of_lt (textK_few h) (by decide)
  have e1 : sNum (putO o, 0) = (o.kind.toNat, (_, 0)) := sNum_num _ _ (by omega)
  unfold readO
  simp only
  rw [e1]
  simp only
  rw [sNum_num _ _ (by omega)]
  simp only [sTexts]
  rw [sText_text _ _ (big a1)]
  simp only
  rw [sText_text _ _ (big a2)]
  simp only
  rw [sText_text _ _ (big a3)]
  simp only
  rw [sText_text _ _ (big a4)]
  simp only
  rw [sText_text _ _ (big a5)]
  simp only
  rw [sText_text _ _ (by omega)]
  simp only
  rw [sText_text _ _ (by omega)]
  simp only
  rw [sList_list _ _ (by rw [List.length_map]; omega) (fun x hx => by obtain ⟨k, hk, rfl⟩ := List.mem_map.1 hx; exact big (d1 k hk))]
  simp only
  rw [sList_list _ _ (by omega) (fun x hx => Nat.lt_of_le_of_lt (lb x hx) (by decide))]
  have w1 : IntKind.i64.wrap ((o.kind.toNat : Nat) : Int) = o.kind := by rw [IntWalk.i64_in _ (by omega)]; omega
  have w2 : IntKind.i64.wrap ((o.first.toNat : Nat) : Int) = o.first := by rw [IntWalk.i64_in _ (by omega)]; omega
  simp only [List.nil_append, List.cons_append, List.getD_cons_zero, List.getD_cons_succ]
  rw [idOf_text a1, idOf_text a2, idOf_text a3, idOf_text a4, idOf_text a5, map_idOf d1, w1, w2]
theorem okK_short {k : Ik} (h : okK k = true) : k.1.length ≤ 40 := by
  unfold okK okI at h
  split at h
  · rename_i e; rw [e]; exact Nat.zero_le _
  · exact name_len (Bool.and_eq_true_iff.1 h).1
end Go.Proofs.YtioknegeebgdbaaGreatDoor
namespace Go.Proofs.YtioknegeebgdbaaGreatDoor
open Go.RowKit
set_option linter.unusedVariables false

theorem below_dr {w w' : World} (h : Below w.drew.heap.size w.drew w') : Below w.heap.size w w' := ⟨h.os, h.tape, h.output, h.size, h.block⟩
theorem cell_on2 {w w' : World} {b off : Nat} {v : Value} (h : w.cell? ⟨b, off, none⟩ = some v) (hb : Below w.drew.heap.size w.drew w') : w'.cell? ⟨b, off, none⟩ = some v := ((below_dr hb).cell (p := ⟨b, off, none⟩) (World.block_lt_of_cell? _ _ h)).trans h
/-- Rows held while new blocks are made. -/
def Held (w0 w : World) (l : List (Option Addr × List (List UInt8))) : Prop :=
  Below w0.heap.size w0 w ∧ ∀ p ∈ l, Strs w w.heap.size p.1 (toBs p.2)
theorem Held.get {w0 w : World} {l : List (Option Addr × List (List UInt8))} {A : Option Addr} {ls : List (List UInt8)} (h : Held w0 w l) (hp : (A, ls) ∈ l) : Strs w w.heap.size A (toBs ls) := h.2 _ hp
theorem Held.quiet {w0 w : World} {l : List (Option Addr × List (List UInt8))} (h : Held w0 w l) (q : Nat) : Held w0 (w.drewN q) l :=
  ⟨below_drewN h.1 q, fun p hp => h.2 p hp⟩
theorem Held.nil (w : World) : Held w w [] := ⟨Below.refl _ _, fun p hp => by cases hp⟩
end Go.Proofs.YtioknegeebgdbaaGreatDoor
namespace Go.Proofs.YtioknegeebgdbaaGreatDoor
open Go.RowKit
set_option linter.unusedVariables false

namespace Rk
theorem grown_below {w w' w2 : World} {g : Nat} (h : w.grownBy w' (some g)) (hb : Below w'.heap.size w' w2) : w.grownBy w2 (some g) :=
  ⟨hb.os.trans h.os, hb.tape.trans h.tape, hb.output.trans h.output, Nat.le_trans h.size hb.size, fun k hk hne => (hb.block k (Nat.lt_of_lt_of_le hk h.size)).trans (h.block k hk hne)⟩
theorem grown_both {a b c : World} {row : Option Nat} (h : a.grownBy b row) (k : b.grownBy c row) : a.grownBy c row := ⟨k.os.trans h.os, k.tape.trans h.tape, k.output.trans h.output, Nat.le_trans h.size k.size, fun i hi hr => (k.block i (Nat.lt_of_lt_of_le hi h.size) hr).trans (h.block i hi hr)⟩
theorem grown_refl (w : World) (g : Nat) : w.grownBy w (some g) := ⟨rfl, rfl, rfl, Nat.le_refl _, fun _ _ _ => rfl⟩
theorem setCells_block (g : Nat) : ∀ (vs : List Value) (o : Nat) (w : World), ∀ k, k ≠ g → (w.setCells g o vs).heap[k]? = w.heap[k]?
  | [], _, _, _, _ => rfl
  | v :: r, o, w, k, h => by
    rw [World.setCells, setCells_block g r _ _ k h]
    exact Below.heap_setCell w ⟨g, o, none⟩ v k h
theorem setCells_size (g : Nat) : ∀ (vs : List Value) (o : Nat) (w : World), (w.setCells g o vs).heap.size = w.heap.size
  | [], _, _ => rfl
  | v :: r, o, w => by rw [World.setCells, setCells_size g r]; simp [World.setCell]
theorem setCells_rest (g : Nat) : ∀ (vs : List Value) (o : Nat) (w : World), (w.setCells g o vs).os = w.os ∧ (w.setCells g o vs).tape = w.tape ∧ (w.setCells g o vs).output = w.output
  | [], _, _ => ⟨rfl, rfl, rfl⟩
  | v :: r, o, w => by rw [World.setCells]; exact setCells_rest g r (o + 1) _
theorem setCells_grown (w : World) (g o : Nat) (vs : List Value) : w.grownBy (w.setCells g o vs) (some g) :=
  ⟨(setCells_rest g vs o w).1, (setCells_rest g vs o w).2.1, (setCells_rest g vs o w).2.2, Nat.le_of_eq (setCells_size g vs o w).symm, fun k hk hne => setCells_block g vs o w k fun e => hne (by rw [e])⟩
/-- Cells written over in a list. -/
def over : List Value → Nat → List Value → List Value
  | l, _, [] => l
  | l, o, v :: r => over (l.set o v) (o + 1) r
theorem over_len : ∀ (vs : List Value) (l : List Value) (o : Nat), (over l o vs).length = l.length
  | [], l, o => rfl
  | v :: r, l, o => by rw [over, over_len r, List.length_set]
theorem over_get : ∀ (vs : List Value) (l : List Value) (o t : Nat), (over l o vs)[t]? = if o ≤ t ∧ t < o + vs.length ∧ t < l.length then vs[t - o]? else l[t]?
  | [], l, o, t => by rw [over, if_neg (by simp; omega)]
  | v :: r, l, o, t => by
    rw [over, over_get r, List.length_set]
    by_cases h : t = o
    · subst h
      rw [if_neg (by omega)]
      by_cases hl : t < l.length
      · rw [if_pos ⟨by omega, by simp, hl⟩, List.getElem?_set_self hl, Nat.sub_self]
        rfl
      · rw [if_neg (by omega), List.getElem?_eq_none (by simp; omega), List.getElem?_eq_none (by omega)]
    · by_cases h2 : o + 1 ≤ t ∧ t < o + 1 + r.length ∧ t < l.length
      · rw [if_pos h2, if_pos ⟨by omega, by simp; omega, h2.2.2⟩, show t - o = (t - (o + 1)) + 1 by omega, List.getElem?_cons_succ]
      · rw [if_neg h2, List.getElem?_set_ne (fun e => h e.symm), if_neg (by simp only [List.length_cons]; omega)]
theorem setCells_arr (g : Nat) (t : TypeId) : ∀ (vs : List Value) (o : Nat) (w : World) (cur : Array Value), w.heap[g]? = some (.cells cur t (0, 0)) →
    ∃ cur', (w.setCells g o vs).heap[g]? = some (.cells cur' t (0, 0)) ∧ cur'.toList = over cur.toList o vs
  | [], _, w, cur, h => ⟨cur, h, rfl⟩
  | v :: r, o, w, cur, h => by
    obtain ⟨c2, h1, h2⟩ := setCells_arr g t r (o + 1) (w.setCell ⟨g, o, none⟩ v) (cur.setIfInBounds o v) (by simp [World.setCell, Array.getElem?_modify, h])
    refine ⟨c2, h1, ?_⟩
    rw [h2, Array.toList_setIfInBounds, over]
variable {α : Type}
/-- A row of records in a block of its own, from its beginning on; the block has room for cap. -/
structure Blk (R : Rk α) (w : World) (g cap : Nat) (d : List α) : Prop where
  h : ∃ cur, w.heap[g]? = some (.cells cur R.ty (0, 0)) ∧ cur.size = cap * R.k ∧ cur.toList.take (d.length * R.k) = R.cells d
  len : d.length ≤ cap
  max : cap ≤ maxLen
variable {R : Rk α} {w w' : World} {g cap : Nat} {d : List α}
theorem Blk.own (k : R.Blk w g cap d) {B : Nat} (hB : B ≤ g) : R.Own w B (.slice (some ⟨g, 0, none⟩) d.length cap) d := by
  obtain ⟨cur, h1, h2, h3⟩ := k.h
  exact ⟨R.cells_len d, .inr ⟨g, cap, cur, rfl, hB, h1, k.len, k.max, h2, h3⟩⟩
theorem Blk.lt (k : R.Blk w g cap d) : g < w.heap.size := by
  obtain ⟨cur, h1, _⟩ := k.h
  exact (Array.getElem?_eq_some_iff.1 h1).1
theorem Blk.cell (k : R.Blk w g cap d) {j : Nat} (hj : j < d.length) {r : Nat} {u : Value} (hu : (R.enc d[j])[r]? = some u) : w.cell? ⟨g, j * R.k + r, none⟩ = some u := by
  have hr : r < R.k := by
    have := (List.getElem?_eq_some_iff.1 hu).1
    rwa [R.len] at this
  have hm : j * R.k + r < d.length * R.k := by
    have h1 : (j + 1) * R.k ≤ d.length * R.k := Nat.mul_le_mul_right _ hj
    rw [Nat.add_mul, Nat.one_mul] at h1
    omega
  rw [← R.cells_get d j hj r hr] at hu
  obtain ⟨cur, h1, h2, h3⟩ := k.h
  rw [← h3, List.getElem?_take, if_pos hm, Array.getElem?_toList] at hu
  simp only [World.cell?, h1, Option.isSome_none, Bool.false_eq_true, if_false]
  exact hu
theorem Blk.fz (k : R.Blk w g cap d) (i : Nat) : w.frozen? ⟨g, i, none⟩ = false := by
  obtain ⟨cur, h1, _⟩ := k.h
  simp [World.frozen?, h1]
theorem Blk.some_ (k : R.Blk w g cap d) {i : Nat} (hi : i < cap * R.k) : (w.cell? ⟨g, i, none⟩).isSome = true := by
  obtain ⟨cur, h1, h2, _⟩ := k.h
  simp only [World.cell?, h1, Option.isSome_none, Bool.false_eq_true, if_false]
  rw [Array.getElem?_eq_getElem (by omega)]
  rfl
theorem Blk.on (k : R.Blk w g cap d) (hb : Below w.heap.size w w') : R.Blk w' g cap d := by
  obtain ⟨cur, h1, h2, h3⟩ := k.h
  exact ⟨⟨cur, (hb.block g k.lt).trans h1, h2, h3⟩, k.len, k.max⟩
theorem Blk.take (k : R.Blk w g cap d) (i : Nat) (hi : i ≤ d.length) : R.Blk w g cap (d.take i) := by
  obtain ⟨cur, h1, h2, h3⟩ := k.h
  refine ⟨⟨cur, h1, h2, ?_⟩, by rw [List.length_take]; have := k.len; omega, k.max⟩
  have e : R.cells d = R.cells (d.take i) ++ R.cells (d.drop i) := by rw [← cells_app, List.take_append_drop]
  have hl : (R.cells (d.take i)).length = i * R.k := by rw [cells_len, List.length_take, Nat.min_eq_left hi]
  have h4 := congrArg (List.take (i * R.k)) h3
  rw [List.take_take, e, List.take_left' hl, Nat.min_eq_left (Nat.mul_le_mul_right _ hi)] at h4
  rw [List.length_take, Nat.min_eq_left hi]
  exact h4
theorem Blk.row (k : R.Blk w g cap d) : R.Row w w.heap.size (some ⟨g, 0, none⟩) d := (k.own (Nat.zero_le _)).parts.2.1
theorem cells_set : ∀ (d : List α) (i : Nat) (x : α), i < d.length → R.cells (d.set i x) = over (R.cells d) (i * R.k) (R.enc x) := fun d i x hi => by
  refine List.ext_getElem? fun t => ?_
  rw [over_get, R.len, R.cells_len]
  by_cases ht : t < d.length * R.k
  · obtain ⟨j, r, hj, hr, rfl⟩ := R.at_place d ht
    rw [R.cells_get _ j (by simpa using hj) r hr]
    by_cases e : j = i
    · subst e
      rw [if_pos ⟨by omega, by omega, ht⟩, Nat.add_sub_cancel_left, List.getElem_set_self]
    · rw [if_neg, R.cells_get d j hj r hr, List.getElem_set_ne (fun h => e h.symm)]
      rintro ⟨h1, h2, _⟩
      rcases Nat.lt_or_gt_of_ne e with h | h
      · have h3 : (j + 1) * R.k ≤ i * R.k := Nat.mul_le_mul_right _ h
        rw [Nat.add_mul] at h3
        omega
      · have h3 : (i + 1) * R.k ≤ j * R.k := Nat.mul_le_mul_right _ h
        rw [Nat.add_mul] at h3
        omega
  · rw [if_neg (by omega), List.getElem?_eq_none (by rw [R.cells_len, List.length_set]; omega), List.getElem?_eq_none (by rw [R.cells_len]; omega)]
theorem over_take (l vs : List Value) (o m : Nat) : (over l o vs).take m = over (l.take m) o vs := by
  refine List.ext_getElem? fun t => ?_
  rw [List.getElem?_take, over_get, over_get, List.length_take, List.getElem?_take]
  by_cases h : t < m
  · rw [if_pos h, if_pos h]
    by_cases h2 : o ≤ t ∧ t < o + vs.length ∧ t < l.length
    · rw [if_pos h2, if_pos (by omega)]
    · rw [if_neg h2, if_neg (by omega)]
  · rw [if_neg h, if_neg h]
    split <;> first | omega | rfl
/-- A record written over another. -/
theorem Blk.put (k : R.Blk w g cap d) {i : Nat} (hi : i < d.length) (x : α) : R.Blk (w.setCells g (i * R.k) (R.enc x)) g cap (d.set i x) := by
  obtain ⟨cur, h1, h2, h3⟩ := k.h
  obtain ⟨c2, e1, e2⟩ := setCells_arr g R.ty (R.enc x) (i * R.k) w cur h1
  refine ⟨⟨c2, e1, ?_, ?_⟩, by simpa using k.len, k.max⟩
  · have h := congrArg List.length e2
    rw [over_len, Array.length_toList, Array.length_toList, h2] at h
    exact h
  · rw [List.length_set, e2, cells_set d i x hi, ← h3, over_take]
theorem Blk.cleared (k : R.Blk w g cap d) (vs : List Value) : R.Blk (w.setCells g (d.length * R.k) vs) g cap d := by
  obtain ⟨cur, h1, h2, h3⟩ := k.h
  obtain ⟨c2, e1, e2⟩ := setCells_arr g R.ty vs (d.length * R.k) w cur h1
  refine ⟨⟨c2, e1, ?_, ?_⟩, k.len, k.max⟩
  · have h := congrArg List.length e2
    rw [over_len, Array.length_toList, Array.length_toList, h2] at h
    exact h
  · rw [e2, over_take, h3]
    refine List.ext_getElem? fun t => ?_
    rw [over_get, R.cells_len, if_neg (by omega)]
theorem own_cases {B : Nat} {v : Value} (h : R.Own w B v d) : (v = .slice none 0 0 ∧ d = []) ∨ ∃ g cap, v = .slice (some ⟨g, 0, none⟩) d.length cap ∧ B ≤ g ∧ R.Blk w g cap d := by
  rcases h.2 with ⟨e, h0⟩ | ⟨g, cap, cur, e, hb, hg, hle, hm, hs, ht⟩
  · exact .inl ⟨e, List.length_eq_zero_iff.1 h0⟩
  · exact .inr ⟨g, cap, e, hb, ⟨cur, hg, hs, ht⟩, hle, hm⟩
/-- A variable of a record written over. -/
theorem At.put {x0 : α} (k : R.At w g x0) (x : α) : R.At (w.setCells g 0 (R.enc x)) g x := by
  obtain ⟨c2, e1, e2⟩ := setCells_arr g R.ty (R.enc x) 0 w _ k
  have h : c2 = (R.enc x).toArray := by
    apply Array.toList_inj.1
    rw [e2]
    refine List.ext_getElem? fun t => ?_
    rw [over_get, List.toList_toArray, List.toList_toArray, R.len, R.len]
    by_cases ht : t < R.k
    · rw [if_pos ⟨Nat.zero_le _, by omega, ht⟩, Nat.sub_zero]
    · rw [if_neg (by omega), List.getElem?_eq_none (by rw [R.len]; omega), List.getElem?_eq_none (by rw [R.len]; omega)]
  subst h
  exact e1
end Rk
end Go.Proofs.YtioknegeebgdbaaGreatDoor
namespace Go.Proofs.YtioknegeebgdbaaGreatDoor
open Go.RowKit
set_option linter.unusedVariables false

/-- An operation as it lies. -/
structure Om where
  kind : Int
  self : Im
  parent : Im
  dst : Im
  name : ByteArray
  dname : ByteArray
  left : Im
  right : Im
  a1 : Option Addr
  c1 : Nat
  dels : List Im
  first : Int
  a2 : Option Addr
  c2 : Nat
  lines : List (List UInt8)
def Om.key (x : Om) : OpK := ⟨x.kind, x.self.key, x.parent.key, x.dst.key, x.name.data.toList, x.dname.data.toList, x.left.key, x.right.key, ikeys x.dels, x.first, x.lines⟩
def Om.cells (x : Om) : List Value := [.int .i64 x.kind, .string x.self.p, .int .i64 x.self.n, .string x.parent.p, .int .i64 x.parent.n, .string x.dst.p, .int .i64 x.dst.n, .string x.name, .string x.dname, .string x.left.p, .int .i64 x.left.n, .string x.right.p, .int .i64 x.right.n, .slice x.a1 x.dels.length x.c1, .int .i64 x.first, .slice x.a2 x.lines.length x.c2]
def Om.val (x : Om) : Value := .agg x.cells.toArray
/-- Its rows lie below B. -/
structure Om.Ok (x : Om) (w : World) (B : Nat) : Prop where
  dels : Ids w B x.a1 x.dels
  room1 : Room x.a1 x.dels.length x.c1
  lines : Strs w B x.a2 (toBs x.lines)
  room2 : Room x.a2 x.lines.length x.c2
theorem Om.Ok.on {x : Om} {w w' : World} (h : x.Ok w w.heap.size) (hb : Below w.heap.size w w') : x.Ok w' w'.heap.size := ⟨h.dels.on hb, h.room1, h.lines.on hb, h.room2⟩
/-- Its texts and rows are what Go may hold. -/
structure Om.Sz (x : Om) : Prop where
  self : x.self.p.size ≤ 9223372036854775807
  parent : x.parent.p.size ≤ 9223372036854775807
  dst : x.dst.p.size ≤ 9223372036854775807
  left : x.left.p.size ≤ 9223372036854775807
  right : x.right.p.size ≤ 9223372036854775807
  name : x.name.size ≤ 9223372036854775807
  dname : x.dname.size ≤ 9223372036854775807
  few : x.dels.length ≤ 900000
  dels : ∀ i ∈ x.dels, i.p.size ≤ 9223372036854775807
  rows : x.lines.length ≤ 900000
  lines : ∀ l ∈ x.lines, l.length ≤ 9223372036854775807
/-- Operations as records of sixteen cells. -/
def opR : Rk Om where
  ty := 27
  tys := 29
  k := 16
  bytes := 216
  zero := .agg #[.int .i64 0, .string ByteArray.empty, .int .i64 0, .string ByteArray.empty, .int .i64 0, .string ByteArray.empty, .int .i64 0, .string ByteArray.empty, .string ByteArray.empty, .string ByteArray.empty, .int .i64 0, .string ByteArray.empty, .int .i64 0, .slice none 0 0, .int .i64 0, .slice none 0 0]
  enc := Om.cells
  len := fun _ => rfl
  one := fun x u hu => by
    simp only [Om.cells, List.mem_cons, List.not_mem_nil, or_false] at hu
    rcases hu with rfl | rfl | rfl | rfl | rfl | rfl | rfl | rfl | rfl | rfl | rfl | rfl | rfl | rfl | rfl | rfl <;> rfl
  pos := by decide
  small := by decide
  zsz := rfl
  info := by kernel_rfl
  und := Tryz.underlying29
abbrev OpAt (w : World) (g : Nat) (x : Om) : Prop := opR.At w g x
theorem op_box (w : World) (x : Om) : Below w.heap.size w (w.alloc (.cells #[.int .i64 x.kind, .string x.self.p, .int .i64 x.self.n, .string x.parent.p, .int .i64 x.parent.n, .string x.dst.p, .int .i64 x.dst.n, .string x.name, .string x.dname, .string x.left.p, .int .i64 x.left.n, .string x.right.p, .int .i64 x.right.n, .slice x.a1 x.dels.length x.c1, .int .i64 x.first, .slice x.a2 x.lines.length x.c2] 27)) ∧ OpAt (w.alloc (.cells #[.int .i64 x.kind, .string x.self.p, .int .i64 x.self.n, .string x.parent.p, .int .i64 x.parent.n, .string x.dst.p, .int .i64 x.dst.n, .string x.name, .string x.dname, .string x.left.p, .int .i64 x.left.n, .string x.right.p, .int .i64 x.right.n, .slice x.a1 x.dels.length x.c1, .int .i64 x.first, .slice x.a2 x.lines.length x.c2] 27)) w.heap.size x := ⟨(Below.refl _ _).alloc (Nat.le_refl _) _, Rk.At.new_ (R := opR) w x⟩
/-- What a variable of an operation holds, cell by cell. -/
structure OpCells (w : World) (g : Nat) (x : Om) : Prop where
  kind : w.cell? ⟨g, 0, none⟩ = some (.int .i64 x.kind)
  selfp : w.cell? ⟨g, 1, none⟩ = some (.string x.self.p)
  selfn : w.cell? ⟨g, 2, none⟩ = some (.int .i64 x.self.n)
  parentp : w.cell? ⟨g, 3, none⟩ = some (.string x.parent.p)
  parentn : w.cell? ⟨g, 4, none⟩ = some (.int .i64 x.parent.n)
  dstp : w.cell? ⟨g, 5, none⟩ = some (.string x.dst.p)
  dstn : w.cell? ⟨g, 6, none⟩ = some (.int .i64 x.dst.n)
  name : w.cell? ⟨g, 7, none⟩ = some (.string x.name)
  dname : w.cell? ⟨g, 8, none⟩ = some (.string x.dname)
  leftp : w.cell? ⟨g, 9, none⟩ = some (.string x.left.p)
  leftn : w.cell? ⟨g, 10, none⟩ = some (.int .i64 x.left.n)
  rightp : w.cell? ⟨g, 11, none⟩ = some (.string x.right.p)
  rightn : w.cell? ⟨g, 12, none⟩ = some (.int .i64 x.right.n)
  dels : w.cell? ⟨g, 13, none⟩ = some (.slice x.a1 x.dels.length x.c1)
  first : w.cell? ⟨g, 14, none⟩ = some (.int .i64 x.first)
  lines : w.cell? ⟨g, 15, none⟩ = some (.slice x.a2 x.lines.length x.c2)
theorem op_cells {w : World} {g : Nat} {x : Om} (h : OpAt w g x) : OpCells w g x :=
  ⟨h.cell (r := 0) rfl, h.cell (r := 1) rfl, h.cell (r := 2) rfl, h.cell (r := 3) rfl, h.cell (r := 4) rfl, h.cell (r := 5) rfl, h.cell (r := 6) rfl, h.cell (r := 7) rfl, h.cell (r := 8) rfl, h.cell (r := 9) rfl, h.cell (r := 10) rfl, h.cell (r := 11) rfl, h.cell (r := 12) rfl, h.cell (r := 13) rfl, h.cell (r := 14) rfl, h.cell (r := 15) rfl⟩
end Go.Proofs.YtioknegeebgdbaaGreatDoor
namespace Go.Proofs.YtioknegeebgdbaaGreatDoor
open Go.RowKit
set_option linter.unusedVariables false

/-- The cells of five ids. -/
abbrev five (a b c d e : Im) : Array Value := #[.string a.p, .int .i64 a.n, .string b.p, .int .i64 b.n, .string c.p, .int .i64 c.n, .string d.p, .int .i64 d.n, .string e.p, .int .i64 e.n]
set_option maxRecDepth 100000 in
theorem in_id (x y : Im) (w : World) : (Op.equalIn 9999 23 (.agg #[.string x.p, .int .i64 x.n]) (.agg #[.string y.p, .int .i64 y.n])).run Tryz.prog w = .ok (decide (x = y)) w := by
  rw [im_eqb]
  cases h1 : (x.p.toList == y.p.toList) <;> cases h2 : (x.n == y.n) <;> simp [go_sem, h1, h2]
theorem info_id : ∃ i, Tryz.prog.info? 23 = some i := by
  cases h : Tryz.prog.info? 23 with
  | some i => exact ⟨i, rfl⟩
  | none => exact absurd h (by have h2 : (Tryz.prog.info? 23).isSome = true := by kernel_rfl
                               intro h3; rw [h3] at h2; cases h2)
theorem cells_id : Tryz.prog.cellsOf 23 = 2 := by kernel_rfl
set_option maxRecDepth 100000 in
theorem part_id (xs : Array Value) (k : Nat) (w : World) : (part 23 xs k).run Tryz.prog w = .ok (.agg (xs.extract k (k + 2))) w := by
  simp [part, go_sem]
set_option maxRecDepth 100000 in
theorem eql_ids5 (a b c d e a' b' c' d' e' : Im) (w : World) : (binOp .eql 47 (.agg (five a b c d e)) (.agg (five a' b' c' d' e'))).run Tryz.prog w = .ok (.bool (decide (a = a') && (decide (b = b') && (decide (c = c') && (decide (d = d') && decide (e = e')))))) w := by
  obtain ⟨i, hi⟩ := info_id
  rw [run_eql_struct, show (10000 : Nat) = 9999 + 1 from rfl, run_equalIn_array w 9999 _ _ Tryz.underlying47 hi, cells_id]
  have p0 : ∀ (a b c d e : Im), (five a b c d e).extract (0 * 2) (0 * 2 + 2) = #[.string a.p, .int .i64 a.n] := fun _ _ _ _ _ => rfl
  have p1 : ∀ (a b c d e : Im), (five a b c d e).extract (1 * 2) (1 * 2 + 2) = #[.string b.p, .int .i64 b.n] := fun _ _ _ _ _ => rfl
  have p2 : ∀ (a b c d e : Im), (five a b c d e).extract (2 * 2) (2 * 2 + 2) = #[.string c.p, .int .i64 c.n] := fun _ _ _ _ _ => rfl
  have p3 : ∀ (a b c d e : Im), (five a b c d e).extract (3 * 2) (3 * 2 + 2) = #[.string d.p, .int .i64 d.n] := fun _ _ _ _ _ => rfl
  have p4 : ∀ (a b c d e : Im), (five a b c d e).extract (4 * 2) (4 * 2 + 2) = #[.string e.p, .int .i64 e.n] := fun _ _ _ _ _ => rfl
  rw [show List.range 5 = [0, 1, 2, 3, 4] from rfl]
  simp only [Op.eqItems, Sem.run_bind, part_id, Result.andThen_ok, p0, in_id]
  by_cases h1 : a = a' <;> by_cases h2 : b = b' <;> by_cases h3 : c = c' <;> by_cases h4 : d = d' <;> by_cases h5 : e = e' <;> simp [h1, h2, h3, h4, h5, Sem.run_bind, part_id, p1, p2, p3, p4, in_id]
end Go.Proofs.YtioknegeebgdbaaGreatDoor
