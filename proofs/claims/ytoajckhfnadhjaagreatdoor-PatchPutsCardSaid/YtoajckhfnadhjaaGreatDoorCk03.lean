/- Lines, plainly: which texts are lines; the text of lines; the lines of a text; where lines stand. Operations and their bytes, plainly: which may be; one alone has given bytes. Operations plainly, as package op asks for them: their own parts, the parts that are formed; bytes read back. Rows held while blocks are made. Rows of records that a call made, in a block of their own, written over; a variable of a record handed back. -/
import Derived.Shelf.Spec.BytesIndexFunc
import Derived.Laws.Rows
import Derived.Laws.ResultCell
import Derived.Test.YtoajckhfnadhjaaGreatDoorCk02
namespace Go.Proofs.YtoajckhfnadhjaaGreatDoor
set_option linter.unusedVariables false

/-- A rune that no line has (r, of n bytes). -/
def badRune (x : Nat × Nat) : Bool := (x.1 == 65533 && x.2 == 1) || (decide (x.1 < 32) && !(x.1 == 9))
def runesOk (s : ByteArray) : Nat → Nat → Bool
  | 0, _ => true
  | f + 1, i => if i < s.size then (if badRune (Utf8.decode s i) then false else runesOk s f (i + (Utf8.decode s i).2)) else true
/-- Are the runes from byte i on a line's? -/
def runes (s : ByteArray) (i : Nat) : Bool := runesOk s (s.size - i) i
theorem decode_pos (s : ByteArray) (i : Nat) : 1 ≤ (Utf8.decode s i).2 := by
  unfold Utf8.decode
  dsimp only
  repeat' split
  all_goals simp
theorem decode_le (s : ByteArray) (i : Nat) : (Utf8.decode s i).2 ≤ 4 := by
  unfold Utf8.decode
  dsimp only
  repeat' split
  all_goals simp
theorem runesOk_fuel (s : ByteArray) : ∀ (f g i : Nat), s.size - i ≤ f → s.size - i ≤ g → runesOk s f i = runesOk s g i
  | 0, 0, _, _, _ => rfl
  | 0, g + 1, i, hf, _ => by simp [runesOk, show ¬ i < s.size by omega]
  | f + 1, 0, i, _, hg => by simp [runesOk, show ¬ i < s.size by omega]
  | f + 1, g + 1, i, hf, hg => by
    unfold runesOk
    by_cases h : i < s.size
    · have hp := decode_pos s i
      rw [if_pos h, if_pos h, runesOk_fuel s f g _ (by omega) (by omega)]
    · rw [if_neg h, if_neg h]
theorem runes_end {s : ByteArray} {i : Nat} (h : ¬ i < s.size) : runes s i = true := by
  unfold runes
  rw [show s.size - i = 0 by omega]; rfl
theorem runes_bad {s : ByteArray} {i : Nat} (h : i < s.size) (hb : badRune (Utf8.decode s i) = true) : runes s i = false := by
  unfold runes
  obtain ⟨f, hf⟩ : ∃ f, s.size - i = f + 1 := ⟨s.size - i - 1, by omega⟩
  rw [hf]
  unfold runesOk
  rw [if_pos h, if_pos hb]
theorem runes_good {s : ByteArray} {i : Nat} (h : i < s.size) (hb : badRune (Utf8.decode s i) = false) : runes s i = runes s (i + (Utf8.decode s i).2) := by
  have hp := decode_pos s i
  have e : runes s i = runesOk s ((s.size - i - 1) + 1) i := by unfold runes; congr 1; omega
  rw [e]
  unfold runesOk
  rw [if_pos h, if_neg (by rw [hb]; simp)]
  exact runesOk_fuel s _ _ _ (by omega) (by omega)
/-- Is a text a line? -/
def lineB (s : ByteArray) : Bool := decide (s.size ≤ 200) && runes s 0
/-- The error of lines that may not be a file's: 4, too many; 6, one is none; 0. -/
def checkN (ss : List ByteArray) : Int := if 2000 < ss.length then 4 else if ss.all lineB then 0 else 6
theorem checkN_big {ss : List ByteArray} (h : 2000 < ss.length) : checkN ss = 4 := by simp [checkN, h]
theorem checkN_bad {ss : List ByteArray} {k : Nat} (hn : ¬ 2000 < ss.length) (hk : k < ss.length) (h : lineB ss[k] = false) : checkN ss = 6 := by
  have : ss.all lineB = false := by
    rw [List.all_eq_false]
    exact ⟨ss[k], List.getElem_mem _, by rw [h]; simp⟩
  simp [checkN, hn, this]
theorem checkN_ok {ss : List ByteArray} (hn : ¬ 2000 < ss.length) (h : ∀ k (hk : k < ss.length), lineB ss[k] = true) : checkN ss = 0 := by
  have : ss.all lineB = true := by
    rw [List.all_eq_true]
    intro s hs
    obtain ⟨k, hk, rfl⟩ := List.getElem_of_mem hs
    exact h k hk
  simp [checkN, hn, this]
end Go.Proofs.YtoajckhfnadhjaaGreatDoor
namespace Go.Proofs.YtoajckhfnadhjaaGreatDoor
open Go.RowKit
set_option linter.unusedVariables false

/-- An operation: its kind, its ids, its names, which lines go, the number of the first one that comes, and these. -/
structure OpK where
  kind : Int
  self : Ik
  parent : Ik
  dst : Ik
  name : List UInt8
  dname : List UInt8
  left : Ik
  right : Ik
  dels : List Ik
  first : Int
  lines : List (List UInt8)
deriving DecidableEq
def zeroI : Ik := ([], 0)
def OpK.zero : OpK := ⟨0, zeroI, zeroI, zeroI, [], [], zeroI, zeroI, [], 0, []⟩
def noneI (k : Ik) : Bool := decide (k = zeroI)
def madeI (k : Ik) : Bool := okK k && decide (k.1 ≠ [])
def orI (k : Ik) (n : Int) : Bool := madeI k || decide (k = ([], n))
def nameK (l : List UInt8) : Bool := rightB (toB l)
/-- May a hunk's parts be? -/
def hunkO (o : OpK) : Bool := decide (o.left :: o.right :: o.dels).Nodup && o.dels.all madeI && orI o.left 1 && orI o.right 2 && decide (0 ≤ o.first ∧ o.first ≤ 1048576) && decide (o.dels.length ≤ 2000) && decide (0 < o.dels.length + o.lines.length) && decide (checkN (toBs o.lines) = 0)
/-- May a place be? -/
def placeO (o : OpK) : Bool := noneI o.left && noneI o.right && decide (o.dels = []) && decide (o.first = 0) && decide (o.lines = []) && orI o.parent 0 && nameK o.name
/-- May an operation be? -/
def mayO (o : OpK) : Bool := madeI o.self && decide (1 ≤ o.kind ∧ o.kind ≤ 5) &&
  (if o.kind = 5 then noneI o.parent && noneI o.dst && decide (o.name = []) && decide (o.dname = []) && hunkO o
   else placeO o && (if o.kind = 4 then orI o.dst 0 && nameK o.dname && decide (¬ (o.dst = o.parent ∧ o.dname = o.name)) else noneI o.dst && decide (o.dname = [])))
/-- What a patch makes by an operation. -/
def comesO (p : List UInt8) (o : OpK) : List Ik := if o.kind = 1 ∨ o.kind = 2 then [o.self] else if o.kind = 5 then rowI p o.first o.lines.length else []
/-- The ids that an operation names, and does not make, in no order. -/
def namedO (o : OpK) : List Ik :=
  if o.kind = 1 ∨ o.kind = 2 then [o.parent] else if o.kind = 3 then [o.self, o.parent] else if o.kind = 4 then [o.self, o.parent, o.dst]
  else if o.kind = 5 then [o.self, o.left, o.right] ++ o.dels else []
def idsO (o : OpK) : List Ik := setI ((namedO o).filter fun k => decide (k.1 ≠ []))
/-- Its bytes. -/
def putO (o : OpK) : List UInt8 := numB o.kind.toNat ++ (numB o.first.toNat ++ (textB (textK o.self) ++ (textB (textK o.parent) ++ (textB (textK o.dst) ++ (textB (textK o.left) ++ (textB (textK o.right) ++ (textB o.name ++ (textB o.dname ++ (listB (o.dels.map textK) ++ (listB o.lines ++ []))))))))))

theorem ok_zero : okK zeroI = true := by decide
theorem ok_none {k : Ik} (h : noneI k = true) : okK k = true := by
  rw [show k = zeroI from of_decide_eq_true h]
  exact ok_zero
theorem ok_made {k : Ik} (h : madeI k = true) : okK k = true := (Bool.and_eq_true_iff.1 h).1
theorem ok_or {k : Ik} {n : Int} (h : orI k n = true) (hn : 0 ≤ n ∧ n ≤ 2) : okK k = true := by
  unfold orI at h
  rcases Bool.or_eq_true_iff.1 h with h | h
  · exact ok_made h
  · rw [show k = ([], n) from of_decide_eq_true h]
    unfold okK okI
    rw [if_pos rfl]
    exact decide_eq_true hn
theorem name_len {l : List UInt8} (h : nameK l = true) : l.length ≤ 40 := by
  unfold nameK rightB at h
  simp only [Bool.and_eq_true, decide_eq_true_eq] at h
  have h2 := h.1.1.1.2
  rwa [show (toB l).size = l.length from by simp [toB, ByteArray.size]] at h2
theorem digits_few {n : Nat} (h : n < 10000000) : (digits n).length ≤ 7 := by
  have key : ∀ (k n : Nat), n < 10 ^ (k + 1) → (digits n).length ≤ k + 1 := by
    intro k
    induction k with
    | zero => intro n h; rw [digits_lt (show n < 10 from h)]; simp
    | succ k ih =>
      intro n h
      by_cases h0 : n < 10
      · rw [digits_lt h0]; simp
      · rw [digits_ge h0, List.length_append]
        have := ih (n / 10) (by rw [Nat.pow_succ] at h; omega)
        simp only [List.length_cons, List.length_nil]
        omega
  exact key 6 n (Nat.lt_of_lt_of_le h (by decide))
theorem textK_few {k : Ik} (h : okK k = true) : (textK k).length ≤ 48 := by
  have hn := okK_n h
  have h7 := digits_few (n := k.2.toNat) (by omega)
  rw [textK_ok h, List.length_append, List.length_cons]
  unfold okK okI at h
  split at h
  · rename_i e
    rw [e]
    simp only [List.length_nil]
    omega
  · have := name_len (Bool.and_eq_true_iff.1 h).1
    omega
/-- What an operation that may be keeps to. -/
structure OpOk (o : OpK) : Prop where
  kind : 1 ≤ o.kind ∧ o.kind ≤ 5
  first : 0 ≤ o.first ∧ o.first ≤ 1048576
  self : okK o.self = true
  parent : okK o.parent = true
  dst : okK o.dst = true
  left : okK o.left = true
  right : okK o.right = true
  name : o.name.length ≤ 40
  dname : o.dname.length ≤ 40
  few : o.dels.length ≤ 2000
  dels : ∀ k ∈ o.dels, okK k = true
  lines : o.lines = [] ∨ checkN (toBs o.lines) = 0
theorem op_ok {o : OpK} (h : mayO o = true) : OpOk o := by
  unfold mayO at h
  rw [Bool.and_eq_true, Bool.and_eq_true, decide_eq_true_eq] at h
  obtain ⟨⟨h1, h2⟩, h3⟩ := h
  by_cases h5 : o.kind = 5
  · rw [if_pos h5] at h3
    unfold hunkO at h3
    simp only [Bool.and_eq_true, decide_eq_true_eq, List.all_eq_true] at h3
    obtain ⟨⟨⟨⟨a1, a2⟩, a3⟩, a4⟩, ⟨⟨⟨⟨⟨⟨⟨b1, b2⟩, b3⟩, b4⟩, b5⟩, b6⟩, b7⟩, b8⟩⟩ := h3
    exact ⟨h2, b5, ok_made h1, ok_none a1, ok_none a2, ok_or b3 (by decide), ok_or b4 (by decide), by rw [a3]; exact Nat.zero_le _, by rw [a4]; exact Nat.zero_le _, b6, fun k hk => ok_made (b2 k hk), .inr b8⟩
  · rw [if_neg h5] at h3
    unfold placeO at h3
    simp only [Bool.and_eq_true, decide_eq_true_eq] at h3
    obtain ⟨⟨⟨⟨⟨⟨⟨a1, a2⟩, a3⟩, a4⟩, a5⟩, a6⟩, a7⟩, h4⟩ := h3
    have ha : 0 ≤ o.first ∧ o.first ≤ 1048576 := by rw [a4]; decide
    by_cases h6 : o.kind = 4
    · rw [if_pos h6] at h4
      simp only [Bool.and_eq_true, decide_eq_true_eq] at h4
      exact ⟨h2, ha, ok_made h1, ok_or a6 (by decide), ok_or h4.1.1 (by decide), ok_none a1, ok_none a2, name_len a7, name_len h4.1.2, by rw [a3]; exact Nat.zero_le _, by rw [a3]; simp, .inl a5⟩
    · rw [if_neg h6] at h4
      simp only [Bool.and_eq_true, decide_eq_true_eq] at h4
      exact ⟨h2, ha, ok_made h1, ok_or a6 (by decide), ok_none h4.1, ok_none a1, ok_none a2, name_len a7, by rw [h4.2]; exact Nat.zero_le _, by rw [a3]; exact Nat.zero_le _, by rw [a3]; simp, .inl a5⟩
theorem lines_few {l : List (List UInt8)} (h : l = [] ∨ checkN (toBs l) = 0) : l.length ≤ 2000 ∧ ∀ x ∈ l, x.length ≤ 200 := by
  rcases h with rfl | h
  · simp
  · have hn : ¬ 2000 < (toBs l).length := fun e => by rw [checkN_big e] at h; cases h
    refine ⟨by rw [toBs_len] at hn; omega, fun x hx => ?_⟩
    cases hl : lineB (toB x) with
    | true =>
      unfold lineB at hl
      have h1 := of_decide_eq_true (Bool.and_eq_true_iff.1 hl).1
      rwa [show (toB x).size = x.length from by simp [toB, ByteArray.size]] at h1
    | false =>
      obtain ⟨k, hk, e⟩ := List.getElem_of_mem hx
      have hk2 : k < (toBs l).length := by rw [toBs_len]; exact hk
      rw [checkN_bad hn hk2 (by rw [show (toBs l)[k] = toB l[k] by simp [toBs], e]; exact hl)] at h
      cases h
theorem map_textK : ∀ {a b : List Ik}, (∀ k ∈ a, okK k = true) → (∀ k ∈ b, okK k = true) → a.map textK = b.map textK → a = b
  | [], [], _, _, _ => rfl
  | [], _ :: _, _, _, h => by simp at h
  | _ :: _, [], _, _, h => by simp at h
  | x :: a, y :: b, ha, hb, h => by
    simp only [List.map_cons, List.cons.injEq] at h
    rw [textK_inj (ha x (by simp)) (hb y (by simp)) h.1, map_textK (fun k hk => ha k (List.mem_cons_of_mem _ hk)) (fun k hk => hb k (List.mem_cons_of_mem _ hk)) h.2]
theorem textB_cut {a b r s : List UInt8} (ha : a.length < 18446744073709551616) (hb : b.length < 18446744073709551616) (h : textB a ++ r = textB b ++ s) : a = b ∧ r = s := by
  have e := congrArg rText h
  rw [rText_text a r ha, rText_text b s hb] at e
  simpa using e
theorem listB_cut {a b : List (List UInt8)} {r s : List UInt8} (ha : a.length < 18446744073709551616) (ha2 : ∀ x ∈ a, x.length < 18446744073709551616) (hb : b.length < 18446744073709551616) (hb2 : ∀ x ∈ b, x.length < 18446744073709551616) (h : listB a ++ r = listB b ++ s) : a = b ∧ r = s := by
  have e := congrArg rList h
  rw [rList_list a r ha ha2, rList_list b s hb hb2] at e
  simpa using e
theorem numB_cut {a b : Nat} {r s : List UInt8} (ha : a < 18446744073709551616) (hb : b < 18446744073709551616) (h : numB a ++ r = numB b ++ s) : a = b ∧ r = s := by
  have e := congrArg rNum h
  rw [rNum_num a r ha, rNum_num b s hb] at e
  simpa using e
/-- The bytes are one operation's alone. -/
theorem putO_inj {a b : OpK} (ha : mayO a = true) (hb : mayO b = true) (h : putO a = putO b) : a = b := by
  have A := op_ok ha
  have B := op_ok hb
  obtain ⟨k1, f1, a1, a2, a3, a4, a5, n1, m1, c1, d1, l1⟩ := A
  obtain ⟨k2, f2, b1, b2, b3, b4, b5, n2, m2, c2, d2, l2⟩ := B
  obtain ⟨la1, la2⟩ := lines_few l1
  obtain ⟨lb1, lb2⟩ := lines_few l2
  have big : ∀ {k : Ik}, okK k = true → (textK k).length < 18446744073709551616 := fun h => Nat.lt_of_le_of_lt (textK_few h) (by decide)
  unfold putO at h
  obtain ⟨e1, h⟩ := numB_cut (by omega) (by omega) h
  obtain ⟨e2, h⟩ := numB_cut (by omega) (by omega) h
  obtain ⟨e3, h⟩ := textB_cut (big a1) (big b1) h
  obtain ⟨e4, h⟩ := textB_cut (big a2) (big b2) h
  obtain ⟨e5, h⟩ := textB_cut (big a3) (big b3) h
  obtain ⟨e6, h⟩ := textB_cut (big a4) (big b4) h
  obtain ⟨e7, h⟩ := textB_cut (big a5) (big b5) h
  obtain ⟨e8, h⟩ := textB_cut (by omega) (by omega) h
  obtain ⟨e9, h⟩ := textB_cut (by omega) (by omega) h
  obtain ⟨e10, h⟩ := listB_cut (by rw [List.length_map]; omega) (fun x hx => by obtain ⟨k, hk, rfl⟩ := List.mem_map.1 hx; exact big (d1 k hk)) (by rw [List.length_map]; omega) (fun x hx => by obtain ⟨k, hk, rfl⟩ := List.mem_map.1 hx; exact big (d2 k hk)) h
  obtain ⟨e11, _⟩ := listB_cut (by omega) (fun x hx => Nat.lt_of_le_of_lt (la2 x hx) (by decide)) (by omega) (fun x hx => Nat.lt_of_le_of_lt (lb2 x hx) (by decide)) h
  have g3 := textK_inj a1 b1 e3
  have g4 := textK_inj a2 b2 e4
  have g5 := textK_inj a3 b3 e5
  have g6 := textK_inj a4 b4 e6
  have g7 := textK_inj a5 b5 e7
  have g10 := map_textK d1 d2 e10
  obtain ⟨ak, asf, ap, ad, an, am, al, ar, ads, af, als⟩ := a
  obtain ⟨bk, bsf, bp, bd, bn, bm, bl, br, bds, bf, bls⟩ := b
  simp only at *
  have q1 : ak = bk := by omega
  have q2 : af = bf := by omega
  subst q1 q2 g3 g4 g5 g6 g7 e8 e9 g10 e11
  rfl
end Go.Proofs.YtoajckhfnadhjaaGreatDoor
namespace Go.Proofs.YtoajckhfnadhjaaGreatDoor
open Go.RowKit
set_option linter.unusedVariables false

/-- The parts of an operation that its kind has, alone. -/
def ownedO (o : OpK) : OpK :=
  if o.kind = 1 ∨ o.kind = 2 ∨ o.kind = 3 then { OpK.zero with kind := o.kind, self := o.self, parent := o.parent, name := o.name }
  else if o.kind = 4 then { OpK.zero with kind := o.kind, self := o.self, parent := o.parent, name := o.name, dst := o.dst, dname := o.dname }
  else if o.kind = 5 then { OpK.zero with kind := o.kind, self := o.self, left := o.left, right := o.right, dels := o.dels, first := o.first, lines := o.lines }
  else OpK.zero
/-- May an id be a directory's, and a name in it? -/
def placedO (d : Ik) (n : List UInt8) : Bool := (noneI d || madeI d) && nameK n
def movedO (o : OpK) : Bool := (!decide (o.dst = o.parent) || !decide (o.dname = o.name)) && (placedO o.parent o.name && placedO o.dst o.dname)
def spannedO (o : OpK) : Bool := (decide (o.left = ([], 1)) || madeI o.left) && ((decide (o.right = ([], 2)) || madeI o.right) && (o.dels.all madeI && decide ((setI (o.left :: o.right :: o.dels)).length = (o.left :: o.right :: o.dels).length)))
def linedO (o : OpK) : Bool := (decide (0 < o.dels.length) || decide (0 < o.lines.length)) && (decide (0 ≤ o.first) && (decide (o.first ≤ 1048576) && decide (checkN (toBs o.lines) = 0)))
def formedO (o : OpK) : Bool :=
  if o.kind = 1 ∨ o.kind = 2 ∨ o.kind = 3 then madeI o.self && placedO o.parent o.name
  else if o.kind = 4 then madeI o.self && movedO o
  else if o.kind = 5 then madeI o.self && (decide (o.dels.length ≤ 2000) && (spannedO o && linedO o))
  else false
theorem insI_old {x : Ik} {l : List Ik} (h : x ∈ l) (hr : RiseI l) : (insI x l).length = l.length := by rw [insI_in hr h]
theorem insI_more {x : Ik} : ∀ {l : List Ik}, x ∉ l → (insI x l).length = l.length + 1
  | [], _ => rfl
  | y :: l, h => by
    unfold insI
    have hy : x ≠ y := fun e => h (by rw [e]; exact List.mem_cons_self ..)
    have hl : x ∉ l := fun e => h (List.mem_cons_of_mem _ e)
    have ih := insI_more hl
    split
    · rw [List.length_cons, List.length_cons, ih]
    · rw [if_neg (fun e => hy e.symm)]
      rfl
theorem snoc_rec {α : Type} {P : List α → Prop} (h0 : P []) (h1 : ∀ l x, P l → P (l ++ [x])) (l : List α) : P l := by
  rw [← List.reverse_reverse l]
  induction l.reverse with
  | nil => exact h0
  | cons x r ih =>
    rw [List.reverse_cons]
    exact h1 _ _ ih
theorem setI_nodup (l : List Ik) : (setI l).length = l.length ↔ l.Nodup := by
  induction l using snoc_rec with
  | h0 => simp [setI]
  | h1 l x ih =>
    rw [setI_snoc, List.length_append, List.length_singleton, List.nodup_append]
    by_cases h : x ∈ l
    · rw [insI_old ((mem_setI x l).2 h) (rise_setI l)]
      have := setI_len l
      constructor
      · intro e; omega
      · intro e
        exact absurd rfl (e.2.2 x h x (by simp))
    · rw [insI_more (fun e => h ((mem_setI x l).1 e))]
      constructor
      · intro e
        refine ⟨ih.1 (by omega), by simp, ?_⟩
        intro a ha b hb
        have hb2 : b = x := by simpa using hb
        rw [hb2]
        intro e2
        exact h (e2 ▸ ha)
      · intro e
        rw [ih.2 e.1]
theorem placed_or (d : Ik) (n : List UInt8) : placedO d n = (orI d 0 && nameK n) := by
  unfold placedO orI noneI zeroI
  rw [Bool.or_comm]
theorem spanned_iff (o : OpK) : spannedO o = (orI o.left 1 && (orI o.right 2 && (o.dels.all madeI && decide (o.left :: o.right :: o.dels).Nodup))) := by
  unfold spannedO orI
  rw [Bool.or_comm, Bool.or_comm (decide (o.right = ([], 2))), decide_eq_decide.2 (setI_nodup _)]
/-- An operation may be just if it has no parts but its own, and these are formed. -/
theorem may_parts (o : OpK) : mayO o = (decide (o = ownedO o) && formedO o) := by
  obtain ⟨k, sf, p, d, n, m, lf, r, ds, f, ls⟩ := o
  unfold mayO ownedO formedO
  simp only
  by_cases h1 : k = 1 ∨ k = 2 ∨ k = 3
  · rw [if_pos h1, if_pos h1]
    have h5 : k ≠ 5 := by omega
    have h4 : k ≠ 4 := by omega
    have hk : 1 ≤ k ∧ k ≤ 5 := by omega
    rw [if_neg h5, if_neg h4, decide_eq_true hk, placed_or]
    rw [Bool.eq_iff_iff]
    simp only [placeO, noneI, zeroI, OpK.zero, Bool.and_eq_true, decide_eq_true_eq, OpK.mk.injEq, true_and, and_true]
    grind
  · rw [if_neg h1, if_neg h1]
    by_cases h4 : k = 4
    · subst h4
      rw [if_pos rfl, if_pos rfl, if_neg (by decide), if_pos rfl]
      unfold movedO
      rw [placed_or, placed_or, Bool.eq_iff_iff]
      simp only [placeO, noneI, zeroI, OpK.zero, Bool.and_eq_true, Bool.or_eq_true, Bool.not_eq_true', decide_eq_true_eq, decide_eq_false_iff_not, OpK.mk.injEq, true_and]
      grind
    · rw [if_neg h4, if_neg h4]
      by_cases h5 : k = 5
      · subst h5
        rw [if_pos rfl, if_pos rfl, if_pos rfl, spanned_iff]
        unfold hunkO linedO
        rw [Bool.eq_iff_iff]
        simp only [noneI, zeroI, OpK.zero, Bool.and_eq_true, decide_eq_true_eq, OpK.mk.injEq, true_and, and_true]
        grind
      · rw [if_neg h5, if_neg h5, if_neg h5]
        have hk : ¬ (1 ≤ k ∧ k ≤ 5) := by omega
        rw [decide_eq_false hk]
        simp only [Bool.and_false, Bool.false_and, if_neg h4]
/-- Bytes read on: what is left, and the error. -/
abbrev St := List UInt8 × Int
def sNum (s : St) : Nat × St := if s.2 = 0 then ((rNum s.1).1, ((rNum s.1).2.2, (rNum s.1).2.1)) else (0, s)
def sText (s : St) : List UInt8 × St := if s.2 = 0 then ((rText s.1).1, ((rText s.1).2.2, (rText s.1).2.1)) else ([], s)
def sList (s : St) : List (List UInt8) × St := if s.2 = 0 then ((rList s.1).1, ((rList s.1).2.2, (rList s.1).2.1)) else ([], s)
open Classical in
/-- The id that a text is; of a text that is none's: the root. -/
noncomputable def idOfK (l : List UInt8) : Ik := if h : ∃ k, okK k = true ∧ textK k = l then h.choose else zeroI
theorem idOf_parse {l : List UInt8} {z : Ik} {er : Int} (h : ParseK l z er) : idOfK l = z := by
  unfold idOfK
  rcases h with ⟨_, h1, h2⟩ | ⟨_, h1, h2⟩
  · have hx : ∃ k, okK k = true ∧ textK k = l := ⟨z, h1, h2⟩
    rw [dif_pos hx]
    have h3 := hx.choose_spec
    exact textK_inj h3.1 h1 (h3.2.trans h2.symm)
  · rw [dif_neg]
    · exact h1.symm
    · rintro ⟨k, hk, e⟩
      exact h2 k hk e
theorem idOf_text {k : Ik} (h : okK k = true) : idOfK (textK k) = k := by
  have hx : ∃ m, okK m = true ∧ textK m = textK k := ⟨k, h, rfl⟩
  unfold idOfK
  rw [dif_pos hx]
  exact textK_inj hx.choose_spec.1 h hx.choose_spec.2
/-- n texts read on, one after the other. -/
def sTexts : Nat → St → List (List UInt8) × St
  | 0, s => ([], s)
  | n + 1, s => ((sTexts n s).1 ++ [(sText (sTexts n s).2).1], (sText (sTexts n s).2).2)
theorem sTexts_len (n : Nat) (s : St) : (sTexts n s).1.length = n := by
  induction n with
  | zero => rfl
  | succ n ih => simp [sTexts, ih]
/-- What is read of bytes as an operation, and the error. -/
noncomputable def readO (l : List UInt8) : OpK × Int :=
  let a := sNum (l, 0)
  let b := sNum a.2
  let x := sTexts 5 b.2
  let n := sText x.2
  let m := sText n.2
  let d := sList m.2
  let e := sList d.2
  (⟨IntKind.i64.wrap (a.1 : Int), idOfK (x.1.getD 0 []), idOfK (x.1.getD 1 []), idOfK (x.1.getD 2 []), n.1, m.1, idOfK (x.1.getD 3 []), idOfK (x.1.getD 4 []), d.1.map idOfK, IntKind.i64.wrap (b.1 : Int), e.1⟩, e.2.2)
theorem sNum_num (n : Nat) (r : List UInt8) (h : n < 18446744073709551616) : sNum (numB n ++ r, 0) = (n, (r, 0)) := by
  unfold sNum
  rw [if_pos rfl, rNum_num n r h]
theorem sText_text (s r : List UInt8) (h : s.length < 18446744073709551616) : sText (textB s ++ r, 0) = (s, (r, 0)) := by
  unfold sText
  rw [if_pos rfl, rText_text s r h]
theorem sList_list (l : List (List UInt8)) (r : List UInt8) (hl : l.length < 18446744073709551616) (h : ∀ s ∈ l, s.length < 18446744073709551616) : sList (listB l ++ r, 0) = (l, (r, 0)) := by
  unfold sList
  rw [if_pos rfl, rList_list l r hl h]
theorem map_idOf {l : List Ik} (h : ∀ k ∈ l, okK k = true) : (l.map textK).map idOfK = l := by
  induction l with
  | nil => rfl
  | cons a l ih =>
    rw [List.map_cons, List.map_cons, idOf_text (h a (by simp)), ih fun k hk => h k (List.mem_cons_of_mem _ hk)]
/-- The bytes of an operation that may be are read as it. -/
theorem readO_put {o : OpK} (h : mayO o = true) : readO (putO o) = (o, 0) := by
  have A := op_ok h
  obtain ⟨k, f, a1, a2, a3, a4, a5, n1, m1, c1, d1, l1⟩ := A
  obtain ⟨la, lb⟩ := lines_few l1
  have big : ∀ {k : Ik}, okK k = true → (textK k).length < 18446744073709551616 := fun h => Nat.lt_of_le_of_lt (textK_few h) (by decide)
  have e1 : sNum (putO o, 0) = (o.kind.toNat, (_, 0)) := sNum_num _ _ (by omega)
  unfold readO
  simp only
  rw [e1]
  simp only
  rw [sNum_num _ _ (by omega)]
  simp only [sTexts]
  rw [sText_text _ _ (big a1)]
  simp only
  rw [sText_text _ _ (big a2)]
  simp only
  rw [sText_text _ _ (big a3)]
  simp only
  rw [sText_text _ _ (big a4)]
  simp only
  rw [sText_text _ _ (big a5)]
  simp only
  rw [sText_text _ _ (by omega)]
  simp only
  rw [sText_text _ _ (by omega)]
  simp only
  rw [sList_list _ _ (by rw [List.length_map]; omega) (fun x hx => by obtain ⟨k, hk, rfl⟩ := List.mem_map.1 hx; exact big (d1 k hk))]
  simp only
  rw [sList_list _ _ (by omega) (fun x hx => Nat.lt_of_le_of_lt (lb x hx) (by decide))]
  have w1 : IntKind.i64.wrap ((o.kind.toNat : Nat) : Int) = o.kind := by rw [IntWalk.i64_in _ (by omega)]; omega
  have w2 : IntKind.i64.wrap ((o.first.toNat : Nat) : Int) = o.first := by rw [IntWalk.i64_in _ (by omega)]; omega
  simp only [List.nil_append, List.cons_append, List.getD_cons_zero, List.getD_cons_succ]
  rw [idOf_text a1, idOf_text a2, idOf_text a3, idOf_text a4, idOf_text a5, map_idOf d1, w1, w2]
theorem okK_short {k : Ik} (h : okK k = true) : k.1.length ≤ 40 := by
  unfold okK okI at h
  split at h
  · rename_i e; rw [e]; exact Nat.zero_le _
  · exact name_len (Bool.and_eq_true_iff.1 h).1
end Go.Proofs.YtoajckhfnadhjaaGreatDoor
namespace Go.Proofs.YtoajckhfnadhjaaGreatDoor
open Go.RowKit
set_option linter.unusedVariables false

theorem cell_on {w w' : World} {b off : Nat} {v : Value} (h : w.cell? ⟨b, off, none⟩ = some v) (hb : Below w.heap.size w w') : w'.cell? ⟨b, off, none⟩ = some v := (hb.cell (p := ⟨b, off, none⟩) (World.block_lt_of_cell? _ _ h)).trans h
theorem below_dr {w w' : World} (h : Below w.drew.heap.size w.drew w') : Below w.heap.size w w' := ⟨h.os, h.tape, h.output, h.size, h.block⟩
theorem cell_on2 {w w' : World} {b off : Nat} {v : Value} (h : w.cell? ⟨b, off, none⟩ = some v) (hb : Below w.drew.heap.size w.drew w') : w'.cell? ⟨b, off, none⟩ = some v := ((below_dr hb).cell (p := ⟨b, off, none⟩) (World.block_lt_of_cell? _ _ h)).trans h
/-- Rows held while new blocks are made. -/
def Held (w0 w : World) (l : List (Option Addr × List (List UInt8))) : Prop :=
  Below w0.heap.size w0 w ∧ ∀ p ∈ l, Strs w w.heap.size p.1 (toBs p.2)
theorem Held.step {w0 w w' : World} {l : List (Option Addr × List (List UInt8))} (h : Held w0 w l) (hb : Below w.heap.size w w') : Held w0 w' l :=
  ⟨h.1.trans (hb.mono h.1.size), fun p hp => (h.2 p hp).on hb⟩
theorem Held.get {w0 w : World} {l : List (Option Addr × List (List UInt8))} {A : Option Addr} {ls : List (List UInt8)} (h : Held w0 w l) (hp : (A, ls) ∈ l) : Strs w w.heap.size A (toBs ls) := h.2 _ hp
theorem Held.quiet {w0 w : World} {l : List (Option Addr × List (List UInt8))} (h : Held w0 w l) (q : Nat) : Held w0 (w.drewN q) l :=
  ⟨below_drewN h.1 q, fun p hp => h.2 p hp⟩
theorem Held.nil (w : World) : Held w w [] := ⟨Below.refl _ _, fun p hp => by cases hp⟩
end Go.Proofs.YtoajckhfnadhjaaGreatDoor
namespace Go.Proofs.YtoajckhfnadhjaaGreatDoor
open Go.RowKit
set_option linter.unusedVariables false

namespace Rk
theorem grown_below {w w' w2 : World} {g : Nat} (h : w.grownBy w' (some g)) (hb : Below w'.heap.size w' w2) : w.grownBy w2 (some g) :=
  ⟨hb.os.trans h.os, hb.tape.trans h.tape, hb.output.trans h.output, Nat.le_trans h.size hb.size, fun k hk hne => (hb.block k (Nat.lt_of_lt_of_le hk h.size)).trans (h.block k hk hne)⟩
theorem grown_both {a b c : World} {row : Option Nat} (h : a.grownBy b row) (k : b.grownBy c row) : a.grownBy c row := ⟨k.os.trans h.os, k.tape.trans h.tape, k.output.trans h.output, Nat.le_trans h.size k.size, fun i hi hr => (k.block i (Nat.lt_of_lt_of_le hi h.size) hr).trans (h.block i hi hr)⟩
theorem grown_refl (w : World) (g : Nat) : w.grownBy w (some g) := ⟨rfl, rfl, rfl, Nat.le_refl _, fun _ _ _ => rfl⟩
theorem setCells_block (g : Nat) : ∀ (vs : List Value) (o : Nat) (w : World), ∀ k, k ≠ g → (w.setCells g o vs).heap[k]? = w.heap[k]?
  | [], _, _, _, _ => rfl
  | v :: r, o, w, k, h => by
    rw [World.setCells, setCells_block g r _ _ k h]
    exact Below.heap_setCell w ⟨g, o, none⟩ v k h
theorem setCells_size (g : Nat) : ∀ (vs : List Value) (o : Nat) (w : World), (w.setCells g o vs).heap.size = w.heap.size
  | [], _, _ => rfl
  | v :: r, o, w => by rw [World.setCells, setCells_size g r]; simp [World.setCell]
theorem setCells_rest (g : Nat) : ∀ (vs : List Value) (o : Nat) (w : World), (w.setCells g o vs).os = w.os ∧ (w.setCells g o vs).tape = w.tape ∧ (w.setCells g o vs).output = w.output
  | [], _, _ => ⟨rfl, rfl, rfl⟩
  | v :: r, o, w => by rw [World.setCells]; exact setCells_rest g r (o + 1) _
theorem setCells_grown (w : World) (g o : Nat) (vs : List Value) : w.grownBy (w.setCells g o vs) (some g) :=
  ⟨(setCells_rest g vs o w).1, (setCells_rest g vs o w).2.1, (setCells_rest g vs o w).2.2, Nat.le_of_eq (setCells_size g vs o w).symm, fun k hk hne => setCells_block g vs o w k fun e => hne (by rw [e])⟩
/-- Cells written over in a list. -/
def over : List Value → Nat → List Value → List Value
  | l, _, [] => l
  | l, o, v :: r => over (l.set o v) (o + 1) r
theorem over_len : ∀ (vs : List Value) (l : List Value) (o : Nat), (over l o vs).length = l.length
  | [], l, o => rfl
  | v :: r, l, o => by rw [over, over_len r, List.length_set]
theorem over_get : ∀ (vs : List Value) (l : List Value) (o t : Nat), (over l o vs)[t]? = if o ≤ t ∧ t < o + vs.length ∧ t < l.length then vs[t - o]? else l[t]?
  | [], l, o, t => by rw [over, if_neg (by simp; omega)]
  | v :: r, l, o, t => by
    rw [over, over_get r, List.length_set]
    by_cases h : t = o
    · subst h
      rw [if_neg (by omega)]
      by_cases hl : t < l.length
      · rw [if_pos ⟨by omega, by simp, hl⟩, List.getElem?_set_self hl, Nat.sub_self]
        rfl
      · rw [if_neg (by omega), List.getElem?_eq_none (by simp; omega), List.getElem?_eq_none (by omega)]
    · by_cases h2 : o + 1 ≤ t ∧ t < o + 1 + r.length ∧ t < l.length
      · rw [if_pos h2, if_pos ⟨by omega, by simp; omega, h2.2.2⟩, show t - o = (t - (o + 1)) + 1 by omega, List.getElem?_cons_succ]
      · rw [if_neg h2, List.getElem?_set_ne (fun e => h e.symm), if_neg (by simp only [List.length_cons]; omega)]
theorem setCells_arr (g : Nat) (t : TypeId) : ∀ (vs : List Value) (o : Nat) (w : World) (cur : Array Value), w.heap[g]? = some (.cells cur t (0, 0)) →
    ∃ cur', (w.setCells g o vs).heap[g]? = some (.cells cur' t (0, 0)) ∧ cur'.toList = over cur.toList o vs
  | [], _, w, cur, h => ⟨cur, h, rfl⟩
  | v :: r, o, w, cur, h => by
    obtain ⟨c2, h1, h2⟩ := setCells_arr g t r (o + 1) (w.setCell ⟨g, o, none⟩ v) (cur.setIfInBounds o v) (by simp [World.setCell, Array.getElem?_modify, h])
    refine ⟨c2, h1, ?_⟩
    rw [h2, Array.toList_setIfInBounds, over]
variable {α : Type}
/-- A row of records in a block of its own, from its beginning on; the block has room for cap. -/
structure Blk (R : Rk α) (w : World) (g cap : Nat) (d : List α) : Prop where
  h : ∃ cur, w.heap[g]? = some (.cells cur R.ty (0, 0)) ∧ cur.size = cap * R.k ∧ cur.toList.take (d.length * R.k) = R.cells d
  len : d.length ≤ cap
  max : cap ≤ maxLen
variable {R : Rk α} {w w' : World} {g cap : Nat} {d : List α}
theorem Blk.own (k : R.Blk w g cap d) {B : Nat} (hB : B ≤ g) : R.Own w B (.slice (some ⟨g, 0, none⟩) d.length cap) d := by
  obtain ⟨cur, h1, h2, h3⟩ := k.h
  exact ⟨R.cells_len d, .inr ⟨g, cap, cur, rfl, hB, h1, k.len, k.max, h2, h3⟩⟩
theorem Blk.lt (k : R.Blk w g cap d) : g < w.heap.size := by
  obtain ⟨cur, h1, _⟩ := k.h
  exact (Array.getElem?_eq_some_iff.1 h1).1
theorem Blk.cell (k : R.Blk w g cap d) {j : Nat} (hj : j < d.length) {r : Nat} {u : Value} (hu : (R.enc d[j])[r]? = some u) : w.cell? ⟨g, j * R.k + r, none⟩ = some u := by
  have hr : r < R.k := by
    have := (List.getElem?_eq_some_iff.1 hu).1
    rwa [R.len] at this
  have hm : j * R.k + r < d.length * R.k := by
    have h1 : (j + 1) * R.k ≤ d.length * R.k := Nat.mul_le_mul_right _ hj
    rw [Nat.add_mul, Nat.one_mul] at h1
    omega
  rw [← R.cells_get d j hj r hr] at hu
  obtain ⟨cur, h1, h2, h3⟩ := k.h
  rw [← h3, List.getElem?_take, if_pos hm, Array.getElem?_toList] at hu
  simp only [World.cell?, h1, Option.isSome_none, Bool.false_eq_true, if_false]
  exact hu
theorem Blk.fz (k : R.Blk w g cap d) (i : Nat) : w.frozen? ⟨g, i, none⟩ = false := by
  obtain ⟨cur, h1, _⟩ := k.h
  simp [World.frozen?, h1]
theorem Blk.some_ (k : R.Blk w g cap d) {i : Nat} (hi : i < cap * R.k) : (w.cell? ⟨g, i, none⟩).isSome = true := by
  obtain ⟨cur, h1, h2, _⟩ := k.h
  simp only [World.cell?, h1, Option.isSome_none, Bool.false_eq_true, if_false]
  rw [Array.getElem?_eq_getElem (by omega)]
  rfl
theorem Blk.on (k : R.Blk w g cap d) (hb : Below w.heap.size w w') : R.Blk w' g cap d := by
  obtain ⟨cur, h1, h2, h3⟩ := k.h
  exact ⟨⟨cur, (hb.block g k.lt).trans h1, h2, h3⟩, k.len, k.max⟩
theorem Blk.take (k : R.Blk w g cap d) (i : Nat) (hi : i ≤ d.length) : R.Blk w g cap (d.take i) := by
  obtain ⟨cur, h1, h2, h3⟩ := k.h
  refine ⟨⟨cur, h1, h2, ?_⟩, by rw [List.length_take]; have := k.len; omega, k.max⟩
  have e : R.cells d = R.cells (d.take i) ++ R.cells (d.drop i) := by rw [← cells_app, List.take_append_drop]
  have hl : (R.cells (d.take i)).length = i * R.k := by rw [cells_len, List.length_take, Nat.min_eq_left hi]
  have h4 := congrArg (List.take (i * R.k)) h3
  rw [List.take_take, e, List.take_left' hl, Nat.min_eq_left (Nat.mul_le_mul_right _ hi)] at h4
  rw [List.length_take, Nat.min_eq_left hi]
  exact h4
theorem Blk.row (k : R.Blk w g cap d) : R.Row w w.heap.size (some ⟨g, 0, none⟩) d := (k.own (Nat.zero_le _)).parts.2.1
theorem cells_set : ∀ (d : List α) (i : Nat) (x : α), i < d.length → R.cells (d.set i x) = over (R.cells d) (i * R.k) (R.enc x) := fun d i x hi => by
  refine List.ext_getElem? fun t => ?_
  rw [over_get, R.len, R.cells_len]
  by_cases ht : t < d.length * R.k
  · obtain ⟨j, r, hj, hr, rfl⟩ := R.at_place d ht
    rw [R.cells_get _ j (by simpa using hj) r hr]
    by_cases e : j = i
    · subst e
      rw [if_pos ⟨by omega, by omega, ht⟩, Nat.add_sub_cancel_left, List.getElem_set_self]
    · rw [if_neg, R.cells_get d j hj r hr, List.getElem_set_ne (fun h => e h.symm)]
      rintro ⟨h1, h2, _⟩
      rcases Nat.lt_or_gt_of_ne e with h | h
      · have h3 : (j + 1) * R.k ≤ i * R.k := Nat.mul_le_mul_right _ h
        rw [Nat.add_mul] at h3
        omega
      · have h3 : (i + 1) * R.k ≤ j * R.k := Nat.mul_le_mul_right _ h
        rw [Nat.add_mul] at h3
        omega
  · rw [if_neg (by omega), List.getElem?_eq_none (by rw [R.cells_len, List.length_set]; omega), List.getElem?_eq_none (by rw [R.cells_len]; omega)]
theorem over_take (l vs : List Value) (o m : Nat) : (over l o vs).take m = over (l.take m) o vs := by
  refine List.ext_getElem? fun t => ?_
  rw [List.getElem?_take, over_get, over_get, List.length_take, List.getElem?_take]
  by_cases h : t < m
  · rw [if_pos h, if_pos h]
    by_cases h2 : o ≤ t ∧ t < o + vs.length ∧ t < l.length
    · rw [if_pos h2, if_pos (by omega)]
    · rw [if_neg h2, if_neg (by omega)]
  · rw [if_neg h, if_neg h]
    split <;> first | omega | rfl
/-- A record written over another. -/
theorem Blk.put (k : R.Blk w g cap d) {i : Nat} (hi : i < d.length) (x : α) : R.Blk (w.setCells g (i * R.k) (R.enc x)) g cap (d.set i x) := by
  obtain ⟨cur, h1, h2, h3⟩ := k.h
  obtain ⟨c2, e1, e2⟩ := setCells_arr g R.ty (R.enc x) (i * R.k) w cur h1
  refine ⟨⟨c2, e1, ?_, ?_⟩, by simpa using k.len, k.max⟩
  · have h := congrArg List.length e2
    rw [over_len, Array.length_toList, Array.length_toList, h2] at h
    exact h
  · rw [List.length_set, e2, cells_set d i x hi, ← h3, over_take]
theorem Blk.cleared (k : R.Blk w g cap d) (vs : List Value) : R.Blk (w.setCells g (d.length * R.k) vs) g cap d := by
  obtain ⟨cur, h1, h2, h3⟩ := k.h
  obtain ⟨c2, e1, e2⟩ := setCells_arr g R.ty vs (d.length * R.k) w cur h1
  refine ⟨⟨c2, e1, ?_, ?_⟩, k.len, k.max⟩
  · have h := congrArg List.length e2
    rw [over_len, Array.length_toList, Array.length_toList, h2] at h
    exact h
  · rw [e2, over_take, h3]
    refine List.ext_getElem? fun t => ?_
    rw [over_get, R.cells_len, if_neg (by omega)]
theorem own_cases {B : Nat} {v : Value} (h : R.Own w B v d) : (v = .slice none 0 0 ∧ d = []) ∨ ∃ g cap, v = .slice (some ⟨g, 0, none⟩) d.length cap ∧ B ≤ g ∧ R.Blk w g cap d := by
  rcases h.2 with ⟨e, h0⟩ | ⟨g, cap, cur, e, hb, hg, hle, hm, hs, ht⟩
  · exact .inl ⟨e, List.length_eq_zero_iff.1 h0⟩
  · exact .inr ⟨g, cap, e, hb, ⟨cur, hg, hs, ht⟩, hle, hm⟩
/-- A variable of a record written over. -/
theorem At.put {x0 : α} (k : R.At w g x0) (x : α) : R.At (w.setCells g 0 (R.enc x)) g x := by
  obtain ⟨c2, e1, e2⟩ := setCells_arr g R.ty (R.enc x) 0 w _ k
  have h : c2 = (R.enc x).toArray := by
    apply Array.toList_inj.1
    rw [e2]
    refine List.ext_getElem? fun t => ?_
    rw [over_get, List.toList_toArray, List.toList_toArray, R.len, R.len]
    by_cases ht : t < R.k
    · rw [if_pos ⟨Nat.zero_le _, by omega, ht⟩, Nat.sub_zero]
    · rw [if_neg (by omega), List.getElem?_eq_none (by rw [R.len]; omega), List.getElem?_eq_none (by rw [R.len]; omega)]
  subst h
  exact e1
end Rk
end Go.Proofs.YtoajckhfnadhjaaGreatDoor
