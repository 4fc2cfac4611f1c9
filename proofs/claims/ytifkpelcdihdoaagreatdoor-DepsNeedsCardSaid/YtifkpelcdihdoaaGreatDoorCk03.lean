/- Plain facts on reading numbers, texts and lists out of bytes: lists and numbers alone. Lines, plainly: which texts are lines; the text of lines; the lines of a text; where lines stand. Operations and their bytes, plainly: which may be; one alone has given bytes. Words for memory: operations, rows of operations. Rows of operations. Patches and their bytes, plainly: which may be; one alone has given bytes. Words for memory: patches. What a slice of strings that comes in holds. -/
import Derived.Shelf.Spec.BytesIndexFunc
import Derived.ChangeOld
import Derived.SliceStrings
import Derived.WideShapes
import Derived.Test.YtifkpelcdihdoaaGreatDoorCk02
namespace Go.Proofs.YtifkpelcdihdoaaGreatDoor

/-- Where the number that a list begins with ends: behind the first byte below 128. -/
def numEnd : List UInt8 → Option Nat
  | [] => none
  | b :: l => if b.toNat < 128 then some 1 else (numEnd l).map (· + 1)
/-- The value of a number's bytes, the last one first; too great: none. -/
def valR : List UInt8 → Nat → Option Nat
  | [], n => some n
  | b :: l, n => if n < 144115188075855872 then valR l (n * 128 + b.toNat % 128) else none
/-- The number that bytes are: none, if nobody lays it so. -/
def numVal (l : List UInt8) : Option Nat := if 1 < l.length ∧ l.getLast? = some 0 then none else valR l.reverse 0
/-- What a reader's Num makes of what is left: the number, the error, what is left behind it. -/
def rNum (l : List UInt8) : Nat × Int × List UInt8 :=
  match numEnd l with
  | none => (0, 5, [])
  | some e => match numVal (l.take e) with
    | none => (0, 6, [])
    | some n => (n, 0, l.drop e)
/-- .. its count .. -/
def rCount (l : List UInt8) : Nat × Int × List UInt8 :=
  if (rNum l).2.1 ≠ 0 then (0, (rNum l).2.1, []) else if (rNum l).2.2.length < (rNum l).1 then (0, 5, []) else rNum l
/-- .. its Text .. -/
def rText (l : List UInt8) : List UInt8 × Int × List UInt8 :=
  if (rCount l).2.1 ≠ 0 then ([], (rCount l).2.1, []) else ((rCount l).2.2.take (rCount l).1, 0, (rCount l).2.2.drop (rCount l).1)
/-- .. n texts .. -/
def rTexts : Nat → List UInt8 → List (List UInt8) × Int × List UInt8
  | 0, l => ([], 0, l)
  | n + 1, l => if (rText l).2.1 ≠ 0 then ([], (rText l).2.1, []) else
    if (rTexts n (rText l).2.2).2.1 ≠ 0 then ([], (rTexts n (rText l).2.2).2.1, []) else ((rText l).1 :: (rTexts n (rText l).2.2).1, 0, (rTexts n (rText l).2.2).2.2)
/-- .. its List. -/
def rList (l : List UInt8) : List (List UInt8) × Int × List UInt8 :=
  if (rCount l).2.1 ≠ 0 then ([], (rCount l).2.1, []) else rTexts (rCount l).1 (rCount l).2.2

theorem numEnd_pos : ∀ (l : List UInt8) (e : Nat), numEnd l = some e → 0 < e ∧ e ≤ l.length
  | [], e, h => by simp [numEnd] at h
  | b :: l, e, h => by
    unfold numEnd at h
    split at h
    · simp at h; subst h; simp
    · rw [Option.map_eq_some_iff] at h
      obtain ⟨e', h', rfl⟩ := h
      have := numEnd_pos l e' h'
      simp; omega
theorem valR_snoc : ∀ (l : List UInt8) (b : UInt8) (n : Nat), valR (l ++ [b]) n = (valR l n).bind fun m => valR [b] m
  | [], b, n => by simp [valR]
  | x :: l, b, n => by
    simp only [List.cons_append, valR]
    split
    · exact valR_snoc l b _
    · rfl
/-- What was laid as a number is read as it, whatever stands behind it. -/
theorem numEnd_numF : ∀ (f n : Nat) (r : List UInt8), n < 128 ^ (f + 1) → numEnd (numF f n ++ r) = some (numF f n).length
  | 0, n, r, h => by
    have h' : n < 128 := by simpa using h
    have e : (UInt8.ofNat n).toNat = n := by have := toNat_lo n h'; omega
    simp [numF, numEnd, e, h']
  | f + 1, n, r, h => by
    by_cases hn : n < 128
    · have e : (UInt8.ofNat n).toNat = n := by have := toNat_lo n hn; omega
      rw [numF_lt _ n hn]
      simp [numEnd, e, hn]
    · have e : (UInt8.ofNat (128 + n % 128)).toNat = 128 + n % 128 := by have := toNat_hi n; omega
      rw [numF_ge f n (by omega)]
      simp only [List.cons_append, numEnd, e]
      rw [if_neg (by omega), numEnd_numF f (n / 128) r (div_pow n f h)]
      simp
theorem numF_last : ∀ (f n : Nat), n < 128 ^ (f + 1) → 1 < (numF f n).length → (numF f n).getLast? ≠ some 0
  | 0, n, h, hl => by simp [numF] at hl
  | f + 1, n, h, hl => by
    by_cases hn : n < 128
    · rw [numF_lt _ n hn] at hl; simp at hl
    · rw [numF_ge f n (by omega)]
      by_cases hl2 : 1 < (numF f (n / 128)).length
      · have := numF_last f (n / 128) (div_pow n f h) hl2
        rw [List.getLast?_cons_of_ne_nil (by intro h0; rw [h0] at hl2; simp at hl2)]
        exact this
      · have hp := numF_pos f (n / 128)
        have h128 : n / 128 < 128 := by
          rcases Nat.lt_or_ge (n / 128) 128 with h2 | h2
          · exact h2
          · exfalso
            cases f with
            | zero => simp at h; omega
            | succ g =>
              rw [numF_ge g (n / 128) h2] at hl2
              have := numF_pos g (n / 128 / 128)
              simp at hl2
              rw [hl2] at this
              simp at this
        rw [numF_lt f _ h128]
        simp
        intro h0
        have e := toNat_lo (n / 128) h128
        rw [h0] at e
        simp at e
        omega
theorem valR_numF : ∀ (f n : Nat), n < 128 ^ (f + 1) → n < 18446744073709551616 → valR (numF f n).reverse 0 = some n
  | 0, n, h, _ => by
    have h' : n < 128 := by simpa using h
    have e : (UInt8.ofNat n).toNat = n := by have := toNat_lo n h'; omega
    simp [numF, valR, e]; omega
  | f + 1, n, h, hn64 => by
    by_cases hn : n < 128
    · have e : (UInt8.ofNat n).toNat = n := by have := toNat_lo n hn; omega
      rw [numF_lt _ n hn]
      simp [valR, e]; omega
    · have e : (UInt8.ofNat (128 + n % 128)).toNat = 128 + n % 128 := by have := toNat_hi n; omega
      rw [numF_ge f n (by omega), List.reverse_cons, valR_snoc, valR_numF f (n / 128) (div_pow n f h) (by omega)]
      simp only [Option.bind_some, valR, e]
      rw [if_pos (by omega)]
      congr 1
      omega
theorem rNum_num (n : Nat) (r : List UInt8) (h : n < 18446744073709551616) : rNum (numB n ++ r) = (n, 0, r) := by
  have hp := u64_pow n h
  unfold rNum numB
  rw [numEnd_numF 9 n r hp]
  simp only [List.take_left, List.drop_left]
  have : numVal (numF 9 n) = some n := by
    unfold numVal
    rw [if_neg (fun h2 => numF_last 9 n hp h2.1 h2.2), valR_numF 9 n hp h]
  rw [this]
theorem rText_text (s r : List UInt8) (h : s.length < 18446744073709551616) : rText (textB s ++ r) = (s, 0, r) := by
  have hn := rNum_num s.length (s ++ r) h
  have hc : rCount (textB s ++ r) = (s.length, 0, s ++ r) := by
    unfold rCount textB
    rw [List.append_assoc, hn]
    simp
  unfold rText
  rw [hc]
  simp
theorem rTexts_texts : ∀ (l : List (List UInt8)) (r : List UInt8), (∀ s ∈ l, s.length < 18446744073709551616) → rTexts l.length (textsB l ++ r) = (l, 0, r)
  | [], r, _ => rfl
  | s :: l, r, h => by
    have h1 := rText_text s (textsB l ++ r) (h s (by simp))
    have h2 := rTexts_texts l r (fun x hx => h x (by simp [hx]))
    simp only [List.length_cons, rTexts, textsB, List.append_assoc, h1, h2]
    simp
theorem rList_list (l : List (List UInt8)) (r : List UInt8) (hl : l.length < 18446744073709551616) (h : ∀ s ∈ l, s.length < 18446744073709551616) : rList (listB l ++ r) = (l, 0, r) := by
  have hn := rNum_num l.length (textsB l ++ r) hl
  have hle : l.length ≤ (textsB l).length := by
    clear hn hl h
    induction l with
    | nil => simp
    | cons s l ih =>
      have := numF_pos 9 s.length
      simp [textsB, textB, numB]; omega
  have hc : rCount (listB l ++ r) = (l.length, 0, textsB l ++ r) := by
    unfold rCount listB
    rw [List.append_assoc, hn]
    simp
    omega
  unfold rList
  rw [hc]
  simp [rTexts_texts l r h]
end Go.Proofs.YtifkpelcdihdoaaGreatDoor
namespace Go.Proofs.YtifkpelcdihdoaaGreatDoor
set_option linter.unusedVariables false

/-- A rune that no line has (r, of n bytes). -/
def badRune (x : Nat × Nat) : Bool := (x.1 == 65533 && x.2 == 1) || (decide (x.1 < 32) && !(x.1 == 9))
def runesOk (s : ByteArray) : Nat → Nat → Bool
  | 0, _ => true
  | f + 1, i => if i < s.size then (if badRune (Utf8.decode s i) then false else runesOk s f (i + (Utf8.decode s i).2)) else true
/-- Are the runes from byte i on a line's? -/
def runes (s : ByteArray) (i : Nat) : Bool := runesOk s (s.size - i) i
theorem decode_pos (s : ByteArray) (i : Nat) : 1 ≤ (Utf8.decode s i).2 := by
  unfold Utf8.decode
  dsimp only
  repeat' split
  all_goals simp
theorem decode_le (s : ByteArray) (i : Nat) : (Utf8.decode s i).2 ≤ 4 := by
  unfold Utf8.decode
  dsimp only
  repeat' split
  all_goals simp
theorem runesOk_fuel (s : ByteArray) : ∀ (f g i : Nat), s.size - i ≤ f → s.size - i ≤ g → runesOk s f i = runesOk s g i
  | 0, 0, _, _, _ => rfl
  | 0, g + 1, i, hf, _ => by simp [runesOk, show ¬ i < s.size by omega]
  | f + 1, 0, i, _, hg => by simp [runesOk, show ¬ i < s.size by omega]
  | f + 1, g + 1, i, hf, hg => by
    unfold runesOk
    by_cases h : i < s.size
    · have hp := decode_pos s i
      rw [if_pos h, if_pos h, runesOk_fuel s f g _ (by omega) (by omega)]
    · rw [if_neg h, if_neg h]
theorem runes_end {s : ByteArray} {i : Nat} (h : ¬ i < s.size) : runes s i = true := by
  unfold runes
  rw [show s.size - i = 0 by omega]; rfl
theorem runes_bad {s : ByteArray} {i : Nat} (h : i < s.size) (hb : badRune (Utf8.decode s i) = true) : runes s i = false := by
  unfold runes
  obtain ⟨f, hf⟩ : ∃ f, s.size - i = f + 1 := ⟨s.size - i - 1, by omega⟩
  rw [hf]
  unfold runesOk
  rw [if_pos h, if_pos hb]
theorem runes_good {s : ByteArray} {i : Nat} (h : i < s.size) (hb : badRune (Utf8.decode s i) = false) : runes s i = runes s (i + (Utf8.decode s i).2) := by
  have hp := decode_pos s i
  have e : runes s i = runesOk s ((s.size - i - 1) + 1) i := by unfold runes; congr 1; omega
  rw [e]
  unfold runesOk
  rw [if_pos h, if_neg (by rw [hb]; simp)]
  exact runesOk_fuel s _ _ _ (by omega) (by omega)
/-- Is a text a line? -/
def lineB (s : ByteArray) : Bool := decide (s.size ≤ 200) && runes s 0
/-- The error of lines that may not be a file's: 4, too many; 6, one is none; 0. -/
def checkN (ss : List ByteArray) : Int := if 2000 < ss.length then 4 else if ss.all lineB then 0 else 6
theorem checkN_big {ss : List ByteArray} (h : 2000 < ss.length) : checkN ss = 4 := by simp [checkN, h]
theorem checkN_bad {ss : List ByteArray} {k : Nat} (hn : ¬ 2000 < ss.length) (hk : k < ss.length) (h : lineB ss[k] = false) : checkN ss = 6 := by
  have : ss.all lineB = false := by
    rw [List.all_eq_false]
    exact ⟨ss[k], List.getElem_mem _, by rw [h]; simp⟩
  simp [checkN, hn, this]
theorem checkN_ok {ss : List ByteArray} (hn : ¬ 2000 < ss.length) (h : ∀ k (hk : k < ss.length), lineB ss[k] = true) : checkN ss = 0 := by
  have : ss.all lineB = true := by
    rw [List.all_eq_true]
    intro s hs
    obtain ⟨k, hk, rfl⟩ := List.getElem_of_mem hs
    exact h k hk
  simp [checkN, hn, this]
end Go.Proofs.YtifkpelcdihdoaaGreatDoor
namespace Go.Proofs.YtifkpelcdihdoaaGreatDoor
open Go.RowKit
set_option linter.unusedVariables false

/-- An operation: its kind, its ids, its names, which lines go, the number of the first one that comes, and these. -/
structure OpK where
  kind : Int
  self : Ik
  parent : Ik
  dst : Ik
  name : List UInt8
  dname : List UInt8
  left : Ik
  right : Ik
  dels : List Ik
  first : Int
  lines : List (List UInt8)
deriving DecidableEq
def zeroI : Ik := ([], 0)
def OpK.zero : OpK := ⟨0, zeroI, zeroI, zeroI, [], [], zeroI, zeroI, [], 0, []⟩
def noneI (k : Ik) : Bool := decide (k = zeroI)
def madeI (k : Ik) : Bool := okK k && decide (k.1 ≠ [])
def orI (k : Ik) (n : Int) : Bool := madeI k || decide (k = ([], n))
def nameK (l : List UInt8) : Bool := rightB (toB l)
/-- May a hunk's parts be? -/
def hunkO (o : OpK) : Bool := decide (o.left :: o.right :: o.dels).Nodup && o.dels.all madeI && orI o.left 1 && orI o.right 2 && decide (0 ≤ o.first ∧ o.first ≤ 1048576) && decide (o.dels.length ≤ 2000) && decide (0 < o.dels.length + o.lines.length) && decide (checkN (toBs o.lines) = 0)
/-- May a place be? -/
def placeO (o : OpK) : Bool := noneI o.left && noneI o.right && decide (o.dels = []) && decide (o.first = 0) && decide (o.lines = []) && orI o.parent 0 && nameK o.name
/-- May an operation be? -/
def mayO (o : OpK) : Bool := madeI o.self && decide (1 ≤ o.kind ∧ o.kind ≤ 5) &&
  (if o.kind = 5 then noneI o.parent && noneI o.dst && decide (o.name = []) && decide (o.dname = []) && hunkO o
   else placeO o && (if o.kind = 4 then orI o.dst 0 && nameK o.dname && decide (¬ (o.dst = o.parent ∧ o.dname = o.name)) else noneI o.dst && decide (o.dname = [])))
/-- What a patch makes by an operation. -/
def comesO (p : List UInt8) (o : OpK) : List Ik := if o.kind = 1 ∨ o.kind = 2 then [o.self] else if o.kind = 5 then rowI p o.first o.lines.length else []
/-- The ids that an operation names, and does not make, in no order. -/
def namedO (o : OpK) : List Ik :=
  if o.kind = 1 ∨ o.kind = 2 then [o.parent] else if o.kind = 3 then [o.self, o.parent] else if o.kind = 4 then [o.self, o.parent, o.dst]
  else if o.kind = 5 then [o.self, o.left, o.right] ++ o.dels else []
def idsO (o : OpK) : List Ik := setI ((namedO o).filter fun k => decide (k.1 ≠ []))
/-- Its bytes. -/
def putO (o : OpK) : List UInt8 := numB o.kind.toNat ++ (numB o.first.toNat ++ (textB (textK o.self) ++ (textB (textK o.parent) ++ (textB (textK o.dst) ++ (textB (textK o.left) ++ (textB (textK o.right) ++ (textB o.name ++ (textB o.dname ++ (listB (o.dels.map textK) ++ (listB o.lines ++ []))))))))))

theorem ok_zero : okK zeroI = true := by decide
theorem ok_none {k : Ik} (h : noneI k = true) : okK k = true := by
  rw [show k = zeroI from of_decide_eq_true h]
  exact ok_zero
theorem ok_made {k : Ik} (h : madeI k = true) : okK k = true := (Bool.and_eq_true_iff.1 h).1
theorem ok_or {k : Ik} {n : Int} (h : orI k n = true) (hn : 0 ≤ n ∧ n ≤ 2) : okK k = true := by
  unfold orI at h
  rcases Bool.or_eq_true_iff.1 h with h | h
  · exact ok_made h
  · rw [show k = ([], n) from of_decide_eq_true h]
    unfold okK okI
    rw [if_pos rfl]
    exact decide_eq_true hn
theorem name_len {l : List UInt8} (h : nameK l = true) : l.length ≤ 40 := by
  unfold nameK rightB at h
  simp only [Bool.and_eq_true, decide_eq_true_eq] at h
  have h2 := h.1.1.1.2
  rwa [show (toB l).size = l.length from by simp [toB, ByteArray.size]] at h2
theorem digits_few {n : Nat} (h : n < 10000000) : (digits n).length ≤ 7 := by
  have key : ∀ (k n : Nat), n < 10 ^ (k + 1) → (digits n).length ≤ k + 1 := by
    intro k
    induction k with
    | zero => intro n h; rw [digits_lt (show n < 10 from h)]; simp
    | succ k ih =>
      intro n h
      by_cases h0 : n < 10
      · rw [digits_lt h0]; simp
      · rw [digits_ge h0, List.length_append]
        have := ih (n / 10) (by rw [Nat.pow_succ] at h; omega)
        simp only [List.length_cons, List.length_nil]
        omega
  exact key 6 n (Nat.lt_of_lt_of_le h (by decide))
theorem textK_few {k : Ik} (h : okK k = true) : (textK k).length ≤ 48 := by
  have hn := okK_n h
  have h7 := digits_few (n := k.2.toNat) (by omega)
  rw [textK_ok h, List.length_append, List.length_cons]
  unfold okK okI at h
  split at h
  · rename_i e
    rw [e]
    simp only [List.length_nil]
    omega
  · have := name_len (Bool.and_eq_true_iff.1 h).1
    omega
/-- What an operation that may be keeps to. -/
structure OpOk (o : OpK) : Prop where
  kind : 1 ≤ o.kind ∧ o.kind ≤ 5
  first : 0 ≤ o.first ∧ o.first ≤ 1048576
  self : okK o.self = true
  parent : okK o.parent = true
  dst : okK o.dst = true
  left : okK o.left = true
  right : okK o.right = true
  name : o.name.length ≤ 40
  dname : o.dname.length ≤ 40
  few : o.dels.length ≤ 2000
  dels : ∀ k ∈ o.dels, okK k = true
  lines : o.lines = [] ∨ checkN (toBs o.lines) = 0
theorem op_ok {o : OpK} (h : mayO o = true) : OpOk o := by
  unfold mayO at h
  rw [Bool.and_eq_true, Bool.and_eq_true, decide_eq_true_eq] at h
  obtain ⟨⟨h1, h2⟩, h3⟩ := h
  by_cases h5 : o.kind = 5
  · rw [if_pos h5] at h3
    unfold hunkO at h3
    simp only [Bool.and_eq_true, decide_eq_true_eq, List.all_eq_true] at h3
    obtain ⟨⟨⟨⟨a1, a2⟩, a3⟩, a4⟩, ⟨⟨⟨⟨⟨⟨⟨b1, b2⟩, b3⟩, b4⟩, b5⟩, b6⟩, b7⟩, b8⟩⟩ := h3
    exact ⟨h2, b5, ok_made h1, ok_none a1, ok_none a2, ok_or b3 (by decide), ok_or b4 (by decide), by rw [a3]; exact Nat.zero_le _, by rw [a4]; exact Nat.zero_le _, b6, fun k hk => ok_made (b2 k hk), .inr b8⟩
  · rw [if_neg h5] at h3
    unfold placeO at h3
    simp only [Bool.and_eq_true, decide_eq_true_eq] at h3
    obtain ⟨⟨⟨⟨⟨⟨⟨a1, a2⟩, a3⟩, a4⟩, a5⟩, a6⟩, a7⟩, h4⟩ := h3
    have ha : 0 ≤ o.first ∧ o.first ≤ 1048576 := by rw [a4]; decide
    by_cases h6 : o.kind = 4
    · rw [if_pos h6] at h4
      simp only [Bool.and_eq_true, decide_eq_true_eq] at h4
      exact ⟨h2, ha, ok_made h1, ok_or a6 (by decide), ok_or h4.1.1 (by decide), ok_none a1, ok_none a2, name_len a7, name_len h4.1.2, by rw [a3]; exact Nat.zero_le _, by rw [a3]; simp, .inl a5⟩
    · rw [if_neg h6] at h4
      simp only [Bool.and_eq_true, decide_eq_true_eq] at h4
      exact ⟨h2, ha, ok_made h1, ok_or a6 (by decide), ok_none h4.1, ok_none a1, ok_none a2, name_len a7, by rw [h4.2]; exact Nat.zero_le _, by rw [a3]; exact Nat.zero_le _, by rw [a3]; simp, .inl a5⟩
theorem lines_few {l : List (List UInt8)} (h : l = [] ∨ checkN (toBs l) = 0) : l.length ≤ 2000 ∧ ∀ x ∈ l, x.length ≤ 200 := by
  rcases h with rfl | h
  · simp
  · have hn : ¬ 2000 < (toBs l).length := fun e => by rw [checkN_big e] at h; cases h
    refine ⟨by rw [toBs_len] at hn; omega, fun x hx => ?_⟩
    cases hl : lineB (toB x) with
    | true =>
      unfold lineB at hl
      have h1 := of_decide_eq_true (Bool.and_eq_true_iff.1 hl).1
      rwa [show (toB x).size = x.length from by simp [toB, ByteArray.size]] at h1
    | false =>
      obtain ⟨k, hk, e⟩ := List.getElem_of_mem hx
      have hk2 : k < (toBs l).length := by rw [toBs_len]; exact hk
      rw [checkN_bad hn hk2 (by rw [show (toBs l)[k] = toB l[k] by simp [toBs], e]; exact hl)] at h
      cases h
theorem map_textK : ∀ {a b : List Ik}, (∀ k ∈ a, okK k = true) → (∀ k ∈ b, okK k = true) → a.map textK = b.map textK → a = b
  | [], [], _, _, _ => rfl
  | [], _ :: _, _, _, h => by simp at h
  | _ :: _, [], _, _, h => by simp at h
  | x :: a, y :: b, ha, hb, h => by
    simp only [List.map_cons, List.cons.injEq] at h
    rw [textK_inj (ha x (by simp)) (hb y (by simp)) h.1, map_textK (fun k hk => ha k (List.mem_cons_of_mem _ hk)) (fun k hk => hb k (List.mem_cons_of_mem _ hk)) h.2]
theorem textB_cut {a b r s : List UInt8} (ha : a.length < 18446744073709551616) (hb : b.length < 18446744073709551616) (h : textB a ++ r = textB b ++ s) : a = b ∧ r = s := by
  have e := congrArg rText h
  rw [rText_text a r ha, rText_text b s hb] at e
  simpa using e
theorem listB_cut {a b : List (List UInt8)} {r s : List UInt8} (ha : a.length < 18446744073709551616) (ha2 : ∀ x ∈ a, x.length < 18446744073709551616) (hb : b.length < 18446744073709551616) (hb2 : ∀ x ∈ b, x.length < 18446744073709551616) (h : listB a ++ r = listB b ++ s) : a = b ∧ r = s := by
  have e := congrArg rList h
  rw [rList_list a r ha ha2, rList_list b s hb hb2] at e
  simpa using e
theorem numB_cut {a b : Nat} {r s : List UInt8} (ha : a < 18446744073709551616) (hb : b < 18446744073709551616) (h : numB a ++ r = numB b ++ s) : a = b ∧ r = s := by
  have e := congrArg rNum h
  rw [rNum_num a r ha, rNum_num b s hb] at e
  simpa using e
/-- The bytes are one operation's alone. -/
theorem putO_inj {a b : OpK} (ha : mayO a = true) (hb : mayO b = true) (h : putO a = putO b) : a = b := by
  have A := op_ok ha
  have B := op_ok hb
  obtain ⟨k1, f1, a1, a2, a3, a4, a5, n1, m1, c1, d1, l1⟩ := A
  obtain ⟨k2, f2, b1, b2, b3, b4, b5, n2, m2, c2, d2, l2⟩ := B
  obtain ⟨la1, la2⟩ := lines_few l1
  obtain ⟨lb1, lb2⟩ := lines_few l2
  have big : ∀ {k : Ik}, okK k = true → (textK k).length < 18446744073709551616 := fun h => Nat.lt_of_le_of_lt (textK_few h) (by decide)
  unfold putO at h
  obtain ⟨e1, h⟩ := numB_cut (by omega) (by omega) h
  obtain ⟨e2, h⟩ := numB_cut (by omega) (by omega) h
  obtain ⟨e3, h⟩ := textB_cut (big a1) (big b1) h
  obtain ⟨e4, h⟩ := textB_cut (big a2) (big b2) h
  obtain ⟨e5, h⟩ := textB_cut (big a3) (big b3) h
  obtain ⟨e6, h⟩ := textB_cut (big a4) (big b4) h
  obtain ⟨e7, h⟩ := textB_cut (big a5) (big b5) h
  obtain ⟨e8, h⟩ := textB_cut (by omega) (by omega) h
  obtain ⟨e9, h⟩ := textB_cut (by omega) (by omega) h
  obtain ⟨e10, h⟩ := listB_cut (by rw [List.length_map]; omega) (fun x hx => by obtain ⟨k, hk, rfl⟩ := List.mem_map.1 hx; exact big (d1 k hk)) (by rw [List.length_map]; omega) (fun x hx => by obtain ⟨k, hk, rfl⟩ := List.mem_map.1 hx; exact big (d2 k hk)) h
  obtain ⟨e11, _⟩ := listB_cut (by omega) (fun x hx => Nat.lt_of_le_of_lt (la2 x hx) (by decide)) (by omega) (fun x hx => Nat.lt_of_le_of_lt (lb2 x hx) (by decide)) h
  have g3 := textK_inj a1 b1 e3
  have g4 := textK_inj a2 b2 e4
  have g5 := textK_inj a3 b3 e5
  have g6 := textK_inj a4 b4 e6
  have g7 := textK_inj a5 b5 e7
  have g10 := map_textK d1 d2 e10
  obtain ⟨ak, asf, ap, ad, an, am, al, ar, ads, af, als⟩ := a
  obtain ⟨bk, bsf, bp, bd, bn, bm, bl, br, bds, bf, bls⟩ := b
  simp only at *
  have q1 : ak = bk := by omega
  have q2 : af = bf := by omega
  subst q1 q2 g3 g4 g5 g6 g7 e8 e9 g10 e11
  rfl
end Go.Proofs.YtifkpelcdihdoaaGreatDoor
namespace Go.Proofs.YtifkpelcdihdoaaGreatDoor
open Go.RowKit
set_option linter.unusedVariables false

/-- An operation as it lies. -/
structure Om where
  kind : Int
  self : Im
  parent : Im
  dst : Im
  name : ByteArray
  dname : ByteArray
  left : Im
  right : Im
  a1 : Option Addr
  c1 : Nat
  dels : List Im
  first : Int
  a2 : Option Addr
  c2 : Nat
  lines : List (List UInt8)
def Om.key (x : Om) : OpK := ⟨x.kind, x.self.key, x.parent.key, x.dst.key, x.name.data.toList, x.dname.data.toList, x.left.key, x.right.key, ikeys x.dels, x.first, x.lines⟩
def Om.cells (x : Om) : List Value := [.int .i64 x.kind, .string x.self.p, .int .i64 x.self.n, .string x.parent.p, .int .i64 x.parent.n, .string x.dst.p, .int .i64 x.dst.n, .string x.name, .string x.dname, .string x.left.p, .int .i64 x.left.n, .string x.right.p, .int .i64 x.right.n, .slice x.a1 x.dels.length x.c1, .int .i64 x.first, .slice x.a2 x.lines.length x.c2]
def Om.val (x : Om) : Value := .agg x.cells.toArray
/-- Its rows lie below B. -/
structure Om.Ok (x : Om) (w : World) (B : Nat) : Prop where
  dels : Ids w B x.a1 x.dels
  room1 : Room x.a1 x.dels.length x.c1
  lines : Strs w B x.a2 (toBs x.lines)
  room2 : Room x.a2 x.lines.length x.c2
theorem Om.Ok.on {x : Om} {w w' : World} (h : x.Ok w w.heap.size) (hb : Below w.heap.size w w') : x.Ok w' w'.heap.size := ⟨h.dels.on hb, h.room1, h.lines.on hb, h.room2⟩
/-- Its texts and rows are what Go may hold. -/
structure Om.Sz (x : Om) : Prop where
  self : x.self.p.size ≤ 9223372036854775807
  parent : x.parent.p.size ≤ 9223372036854775807
  dst : x.dst.p.size ≤ 9223372036854775807
  left : x.left.p.size ≤ 9223372036854775807
  right : x.right.p.size ≤ 9223372036854775807
  name : x.name.size ≤ 9223372036854775807
  dname : x.dname.size ≤ 9223372036854775807
  few : x.dels.length ≤ 900000
  dels : ∀ i ∈ x.dels, i.p.size ≤ 9223372036854775807
  rows : x.lines.length ≤ 900000
  lines : ∀ l ∈ x.lines, l.length ≤ 9223372036854775807
/-- Operations as records of sixteen cells. -/
def opR : Rk Om where
  ty := 84
  tys := 33
  k := 16
  bytes := 216
  zero := .agg #[.int .i64 0, .string ByteArray.empty, .int .i64 0, .string ByteArray.empty, .int .i64 0, .string ByteArray.empty, .int .i64 0, .string ByteArray.empty, .string ByteArray.empty, .string ByteArray.empty, .int .i64 0, .string ByteArray.empty, .int .i64 0, .slice none 0 0, .int .i64 0, .slice none 0 0]
  enc := Om.cells
  len := fun _ => rfl
  one := fun x u hu => by
    simp only [Om.cells, List.mem_cons, List.not_mem_nil, or_false] at hu
    rcases hu with rfl | rfl | rfl | rfl | rfl | rfl | rfl | rfl | rfl | rfl | rfl | rfl | rfl | rfl | rfl | rfl <;> rfl
  pos := by decide
  small := by decide
  zsz := rfl
  info := by kernel_rfl
  und := Tryz.underlying33
abbrev OpAt (w : World) (g : Nat) (x : Om) : Prop := opR.At w g x
theorem op_box (w : World) (x : Om) : Below w.heap.size w (w.alloc (.cells #[.int .i64 x.kind, .string x.self.p, .int .i64 x.self.n, .string x.parent.p, .int .i64 x.parent.n, .string x.dst.p, .int .i64 x.dst.n, .string x.name, .string x.dname, .string x.left.p, .int .i64 x.left.n, .string x.right.p, .int .i64 x.right.n, .slice x.a1 x.dels.length x.c1, .int .i64 x.first, .slice x.a2 x.lines.length x.c2] 84)) ∧ OpAt (w.alloc (.cells #[.int .i64 x.kind, .string x.self.p, .int .i64 x.self.n, .string x.parent.p, .int .i64 x.parent.n, .string x.dst.p, .int .i64 x.dst.n, .string x.name, .string x.dname, .string x.left.p, .int .i64 x.left.n, .string x.right.p, .int .i64 x.right.n, .slice x.a1 x.dels.length x.c1, .int .i64 x.first, .slice x.a2 x.lines.length x.c2] 84)) w.heap.size x := ⟨(Below.refl _ _).alloc (Nat.le_refl _) _, Rk.At.new_ (R := opR) w x⟩
/-- What a variable of an operation holds, cell by cell. -/
structure OpCells (w : World) (g : Nat) (x : Om) : Prop where
  kind : w.cell? ⟨g, 0, none⟩ = some (.int .i64 x.kind)
  selfp : w.cell? ⟨g, 1, none⟩ = some (.string x.self.p)
  selfn : w.cell? ⟨g, 2, none⟩ = some (.int .i64 x.self.n)
  parentp : w.cell? ⟨g, 3, none⟩ = some (.string x.parent.p)
  parentn : w.cell? ⟨g, 4, none⟩ = some (.int .i64 x.parent.n)
  dstp : w.cell? ⟨g, 5, none⟩ = some (.string x.dst.p)
  dstn : w.cell? ⟨g, 6, none⟩ = some (.int .i64 x.dst.n)
  name : w.cell? ⟨g, 7, none⟩ = some (.string x.name)
  dname : w.cell? ⟨g, 8, none⟩ = some (.string x.dname)
  leftp : w.cell? ⟨g, 9, none⟩ = some (.string x.left.p)
  leftn : w.cell? ⟨g, 10, none⟩ = some (.int .i64 x.left.n)
  rightp : w.cell? ⟨g, 11, none⟩ = some (.string x.right.p)
  rightn : w.cell? ⟨g, 12, none⟩ = some (.int .i64 x.right.n)
  dels : w.cell? ⟨g, 13, none⟩ = some (.slice x.a1 x.dels.length x.c1)
  first : w.cell? ⟨g, 14, none⟩ = some (.int .i64 x.first)
  lines : w.cell? ⟨g, 15, none⟩ = some (.slice x.a2 x.lines.length x.c2)
theorem op_cells {w : World} {g : Nat} {x : Om} (h : OpAt w g x) : OpCells w g x :=
  ⟨h.cell (r := 0) rfl, h.cell (r := 1) rfl, h.cell (r := 2) rfl, h.cell (r := 3) rfl, h.cell (r := 4) rfl, h.cell (r := 5) rfl, h.cell (r := 6) rfl, h.cell (r := 7) rfl, h.cell (r := 8) rfl, h.cell (r := 9) rfl, h.cell (r := 10) rfl, h.cell (r := 11) rfl, h.cell (r := 12) rfl, h.cell (r := 13) rfl, h.cell (r := 14) rfl, h.cell (r := 15) rfl⟩
end Go.Proofs.YtifkpelcdihdoaaGreatDoor
namespace Go.Proofs.YtifkpelcdihdoaaGreatDoor
open Go.RowKit
set_option linter.unusedVariables false

def okeys (l : List Om) : List OpK := l.map Om.key
/-- Operations lie at A, their rows with them. -/
def Ops (w : World) (B : Nat) (A : Option Addr) (l : List Om) : Prop := opR.Row w B A l ∧ ∀ x ∈ l, x.Ok w B
theorem Ops.on {w w' : World} {A : Option Addr} {l : List Om} (h : Ops w w.heap.size A l) (hb : Below w.heap.size w w') : Ops w' w'.heap.size A l := ⟨h.1.on hb, fun x hx => (h.2 x hx).on hb⟩
/-- None has far too many lines, or ids. -/
def OpsFew (l : List Om) : Prop := ∀ x ∈ l, x.dels.length ≤ 900000 ∧ x.lines.length ≤ 900000
end Go.Proofs.YtifkpelcdihdoaaGreatDoor
namespace Go.Proofs.YtifkpelcdihdoaaGreatDoor
open Go.RowKit
set_option linter.unusedVariables false

/-- A patch: its name, the patches that it hangs on, its operations. -/
structure PatK where
  name : List UInt8
  deps : List (List UInt8)
  ops : List OpK
deriving DecidableEq
def PatK.zero : PatK := ⟨[], [], []⟩
/-- What operations of a patch make. -/
def madeP (name : List UInt8) (ops : List OpK) : List Ik := ops.flatMap (comesO name)
/-- Is an id that an operation names made so far, or of a patch that is hung on? -/
def knownI (name : List UInt8) (deps : List (List UInt8)) (made : List Ik) (i : Ik) : Bool := if i.1 = name then decide (i ∈ made) else decide (i.1 ∈ deps)
/-- May each operation be, behind those that are done? -/
def asksP (name : List UInt8) (deps : List (List UInt8)) : List OpK → List OpK → Bool
  | _, [] => true
  | d, o :: r => mayO o && (idsO o).all (knownI name deps (madeP name (d ++ [o]))) && asksP name deps (d ++ [o]) r
/-- Are the ids that are made of the patch, none too great, none twice? -/
def ownP (name : List UInt8) (l : List Ik) : Bool := l.all (fun i => decide (i.1 = name ∧ i.2 ≤ 1048576)) && decide l.Nodup
/-- May a patch be, whose names are names? -/
def mayP (p : PatK) : Bool := decide (setS p.deps = p.deps) && decide (p.name ∉ p.deps) && decide (p.ops.length ≤ 2000) && asksP p.name p.deps [] p.ops && ownP p.name (madeP p.name p.ops)
def namesP13 (p : PatK) : Bool := nameK p.name && p.deps.all nameK
/-- What is wrong with a patch: 7, a name; 2, it may not be; 0. -/
def checkP (p : PatK) : Int := if namesP13 p then (if mayP p then 0 else 2) else 7
/-- Its bytes. -/
def putP (p : PatK) : List UInt8 := textB p.name ++ (listB p.deps ++ (listB (p.ops.map putO) ++ []))

theorem checkP_ok {p : PatK} : checkP p = 0 ↔ namesP13 p = true ∧ mayP p = true := by
  unfold checkP
  cases namesP13 p <;> cases mayP p <;> simp
theorem asks_may (name : List UInt8) (deps : List (List UInt8)) : ∀ (l d : List OpK), asksP name deps d l = true → ∀ o ∈ l, mayO o = true
  | [], _, _, _, h => absurd h (by simp)
  | a :: l, d, h, o, ho => by
    unfold asksP at h
    simp only [Bool.and_eq_true] at h
    rcases List.mem_cons.1 ho with rfl | ho
    · exact h.1.1
    · exact asks_may name deps l _ h.2 o ho
theorem may_ops {p : PatK} (h : mayP p = true) : ∀ o ∈ p.ops, mayO o = true := by
  unfold mayP at h
  simp only [Bool.and_eq_true] at h
  exact asks_may _ _ _ _ h.1.2
theorem may_few {p : PatK} (h : mayP p = true) : p.ops.length ≤ 2000 := by
  unfold mayP at h
  simp only [Bool.and_eq_true, decide_eq_true_eq] at h
  exact h.1.1.2
theorem textsB_le (n : Nat) : ∀ (l : List (List UInt8)), (∀ x ∈ l, x.length ≤ n) → (textsB l).length ≤ (10 + n) * l.length
  | [], _ => by simp [textsB]
  | a :: l, h => by
    have h1 := textsB_le n l fun x hx => h x (List.mem_cons_of_mem _ hx)
    have h2 := h a (by simp)
    have h3 := numB_len a.length
    rw [show textsB (a :: l) = (numB a.length ++ a) ++ textsB l from rfl, List.length_append, List.length_append, List.length_cons, Nat.mul_succ]
    omega
theorem textB_le (l : List UInt8) : (textB l).length ≤ 10 + l.length := by
  have := numB_len l.length
  rw [show textB l = numB l.length ++ l from rfl, List.length_append]
  omega
theorem listB_le (n : Nat) (l : List (List UInt8)) (h : ∀ x ∈ l, x.length ≤ n) : (listB l).length ≤ 10 + (10 + n) * l.length := by
  have h1 := numB_len l.length
  have h2 := textsB_le n l h
  rw [show listB l = numB l.length ++ textsB l from rfl, List.length_append]
  omega
theorem textK_le (k : Ik) (h : okK k = true) : (textK k).length ≤ 48 := textK_few h
theorem putO_le {o : OpK} (h : mayO o = true) : (putO o).length ≤ 20 + 5 * 58 + 100 + (10 + 58 * o.dels.length) + (10 + 210 * o.lines.length) ∧ o.dels.length ≤ 2000 ∧ o.lines.length ≤ 2000 := by
  obtain ⟨k, f, a1, a2, a3, a4, a5, n1, m1, c1, d1, l1⟩ := op_ok h
  obtain ⟨la, lb⟩ := lines_few l1
  have e1 := numB_len o.kind.toNat
  have e2 := numB_len o.first.toNat
  have t1 := textB_le (textK o.self)
  have t2 := textB_le (textK o.parent)
  have t3 := textB_le (textK o.dst)
  have t4 := textB_le (textK o.left)
  have t5 := textB_le (textK o.right)
  have t6 := textB_le o.name
  have t7 := textB_le o.dname
  have k1 := textK_le _ a1
  have k2 := textK_le _ a2
  have k3 := textK_le _ a3
  have k4 := textK_le _ a4
  have k5 := textK_le _ a5
  have d2 := listB_le 48 (o.dels.map textK) (by intro x hx; obtain ⟨k, hk, rfl⟩ := List.mem_map.1 hx; exact textK_le k (d1 k hk))
  rw [List.length_map] at d2
  have l2 := listB_le 200 o.lines lb
  refine ⟨?_, c1, la⟩
  unfold putO
  simp only [List.length_append, List.length_nil]
  omega
theorem map_putO : ∀ {a b : List OpK}, (∀ k ∈ a, mayO k = true) → (∀ k ∈ b, mayO k = true) → a.map putO = b.map putO → a = b
  | [], [], _, _, _ => rfl
  | [], _ :: _, _, _, h => by simp at h
  | _ :: _, [], _, _, h => by simp at h
  | x :: a, y :: b, ha, hb, h => by
    simp only [List.map_cons, List.cons.injEq] at h
    rw [putO_inj (ha x (by simp)) (hb y (by simp)) h.1, map_putO (fun k hk => ha k (List.mem_cons_of_mem _ hk)) (fun k hk => hb k (List.mem_cons_of_mem _ hk)) h.2]
end Go.Proofs.YtifkpelcdihdoaaGreatDoor
namespace Go.Proofs.YtifkpelcdihdoaaGreatDoor
open Go.RowKit
set_option linter.unusedVariables false

/-- A patch as it lies. -/
structure Ptm where
  name : ByteArray
  a1 : Option Addr
  c1 : Nat
  deps : List (List UInt8)
  a2 : Option Addr
  c2 : Nat
  ops : List Om
def Ptm.key (x : Ptm) : PatK := ⟨x.name.data.toList, x.deps, okeys x.ops⟩
def Ptm.cells (x : Ptm) : List Value := [.string x.name, .slice x.a1 x.deps.length x.c1, .slice x.a2 x.ops.length x.c2]
def Ptm.val (x : Ptm) : Value := .agg x.cells.toArray
/-- Its rows lie below B. -/
structure Ptm.Ok (x : Ptm) (w : World) (B : Nat) : Prop where
  deps : Strs w B x.a1 (toBs x.deps)
  room1 : Room x.a1 x.deps.length x.c1
  ops : Ops w B x.a2 x.ops
  room2 : Room x.a2 x.ops.length x.c2
theorem Ptm.Ok.on {x : Ptm} {w w' : World} (h : x.Ok w w.heap.size) (hb : Below w.heap.size w w') : x.Ok w' w'.heap.size := ⟨h.deps.on hb, h.room1, h.ops.on hb, h.room2⟩
/-- Its texts and rows are what Go may hold. -/
structure Ptm.Sz (x : Ptm) : Prop where
  name : x.name.size ≤ 9223372036854775807
  few : x.deps.length ≤ 100000
  deps : ∀ d ∈ x.deps, d.length ≤ 9223372036854775807
  many : x.ops.length ≤ 100000
  ops : ∀ o ∈ x.ops, o.Sz
/-- A variable of a patch: its three cells. -/
structure PatB (w : World) (g : Nat) (u0 u1 u2 : Value) : Prop where
  blk : w.heap[g]? = some (.cells #[u0, u1, u2] 35 (0, 0))
theorem PatB.lt {w : World} {g : Nat} {u0 u1 u2 : Value} (h : PatB w g u0 u1 u2) : g < w.heap.size := (Array.getElem?_eq_some_iff.1 h.blk).1
theorem PatB.on {w w' : World} {g : Nat} {u0 u1 u2 : Value} (h : PatB w g u0 u1 u2) (hb : Below w.heap.size w w') : PatB w' g u0 u1 u2 := ⟨(hb.block g h.lt).trans h.blk⟩
theorem PatB.c0 {w : World} {g : Nat} {u0 u1 u2 : Value} (h : PatB w g u0 u1 u2) : w.cell? ⟨g, 0, none⟩ = some u0 := by simp [World.cell?, h.blk]
theorem PatB.c1 {w : World} {g : Nat} {u0 u1 u2 : Value} (h : PatB w g u0 u1 u2) : w.cell? ⟨g, 1, none⟩ = some u1 := by simp [World.cell?, h.blk]
theorem PatB.c2 {w : World} {g : Nat} {u0 u1 u2 : Value} (h : PatB w g u0 u1 u2) : w.cell? ⟨g, 2, none⟩ = some u2 := by simp [World.cell?, h.blk]
theorem PatB.fz {w : World} {g : Nat} {u0 u1 u2 : Value} (h : PatB w g u0 u1 u2) (i : Nat) : w.frozen? ⟨g, i, none⟩ = false := by simp [World.frozen?, h.blk]
theorem patb_box (w : World) (u0 u1 u2 : Value) : Below w.heap.size w (w.alloc (.cells #[u0, u1, u2] 35)) ∧ PatB (w.alloc (.cells #[u0, u1, u2] 35)) w.heap.size u0 u1 u2 :=
  ⟨(Below.refl _ _).alloc (Nat.le_refl _) _, ⟨heap_alloc_new w _⟩⟩
abbrev PatAt (w : World) (g : Nat) (x : Ptm) : Prop := PatB w g (.string x.name) (.slice x.a1 x.deps.length x.c1) (.slice x.a2 x.ops.length x.c2)
theorem pat_box (w : World) (x : Ptm) : Below w.heap.size w (w.alloc (.cells #[.string x.name, .slice x.a1 x.deps.length x.c1, .slice x.a2 x.ops.length x.c2] 35)) ∧ PatAt (w.alloc (.cells #[.string x.name, .slice x.a1 x.deps.length x.c1, .slice x.a2 x.ops.length x.c2] 35)) w.heap.size x :=
  patb_box w _ _ _
theorem Ops.take {w : World} {B : Nat} {A : Option Addr} {l : List Om} (h : Ops w B A l) (n : Nat) : Ops w B A (l.take n) := ⟨h.1.take n, fun x hx => h.2 x (List.mem_of_mem_take hx)⟩
theorem okeys_len (l : List Om) : (okeys l).length = l.length := by simp [okeys]
end Go.Proofs.YtifkpelcdihdoaaGreatDoor
namespace Go.Proofs.YtifkpelcdihdoaaGreatDoor
open Go.ChangeShapes Go.WideShapes Go.RowKit
set_option linter.unusedVariables false

theorem open_strs {H : Type} {enc : TypeId × Value → H} {W : World} {fuel : Nat} {v : Value} {y : DataW H × List MemPlace} (hf : DataW.trod enc Tryz.prog W 0 (fun _ => true) true fuel 23 [v] = some y) :
    ∃ (A : Option Addr) (ss : List ByteArray) (cap : Nat), v = .slice A ss.length cap ∧ Strs W W.heap.size A ss ∧ ss.length ≤ 9223372036854775807 ∧ Room A ss.length cap := by
  have hlt := DataW.trod_lt fuel _ _ _ hf
  rcases open_strings Tryz.underlying23 Tryz.underlying9 (by kernel_rfl) hf with ⟨hcs, hx⟩ | ⟨x, l, c, zs, hcs, _, hl, hm, hz, hx, hcell, hwz⟩
  · simp at hcs
    subst hcs
    exact ⟨none, [], 0, rfl, Strs.none_, by simp, fun _ => rfl, Nat.le_refl _⟩
  · simp at hcs
    subst hcs
    simp only [if_true] at hz
    subst hx
    unfold maxLen at hm
    have hl2 : (zs.take l).length = l := by rw [List.length_take]; omega
    refine ⟨some x, zs.take l, c, by rw [hl2], fun hpos => ?_, by omega, (fun e => by cases e), by omega⟩
    rw [hl2] at hpos
    obtain ⟨b, off, spot⟩ := x
    have hspot : spot = none := by simpa [Addr.add] using World.cell?_spot (hcell 0 (by omega))
    subst hspot
    refine ⟨b, off, rfl, ?_, fun j hj => ?_⟩
    · have := hlt (.cell b off) (MemPlace.mem_row.2 ⟨0, by omega, by simp⟩)
      exact this
    · have hj2 : j < l := by omega
      have hc := hcell j (by omega)
      have e : (⟨b, off, none⟩ : Addr).add j = ⟨b, off + j, none⟩ := by unfold Addr.add; split <;> simp_all
      rw [e] at hc
      rw [hc, List.getElem_take]
      simp [List.getD_eq_getElem?_getD, List.getElem?_eq_getElem (show j < zs.length by omega)]
end Go.Proofs.YtifkpelcdihdoaaGreatDoor
