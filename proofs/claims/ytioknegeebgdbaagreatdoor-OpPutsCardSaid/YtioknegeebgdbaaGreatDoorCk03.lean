/- Texts of ids, plainly: each is one id's alone. Plain facts on the bytes of numbers, texts and lists (layer 1): lists and numbers alone, nothing of the program. Plain facts on reading numbers, texts and lists out of bytes: lists and numbers alone. Lines, plainly: which texts are lines; the text of lines; the lines of a text; where lines stand. Operations and their bytes, plainly: which may be; one alone has given bytes. -/
import Derived.Shelf.Spec.BytesIndexFunc
import Derived.Test.YtioknegeebgdbaaGreatDoorCk02
namespace Go.Proofs.YtioknegeebgdbaaGreatDoor
open Go.RowKit
set_option linter.unusedVariables false

def okK (k : Ik) : Bool := okI (fun l => rightB (toB l)) k
def textK (k : Ik) : List UInt8 := textI (fun l => rightB (toB l)) k
theorem digit_val (d : Nat) (h : d < 10) : (48 + UInt8.ofNat d : UInt8).toNat = 48 + d := by
  have hc : d = 0 ∨ d = 1 ∨ d = 2 ∨ d = 3 ∨ d = 4 ∨ d = 5 ∨ d = 6 ∨ d = 7 ∨ d = 8 ∨ d = 9 := by omega
  rcases hc with rfl | rfl | rfl | rfl | rfl | rfl | rfl | rfl | rfl | rfl <;> rfl
theorem digits_in (n : Nat) : ∀ b ∈ digits n, 48 ≤ b.toNat ∧ b.toNat ≤ 57 := by
  induction n using Nat.strongRecOn with
  | _ n ih =>
    intro b hb
    by_cases h : n < 10
    · rw [digits_lt h] at hb
      obtain rfl : b = _ := by simpa using hb
      rw [digit_val n h]
      omega
    · rw [digits_ge h, List.mem_append] at hb
      rcases hb with hb | hb
      · exact ih (n / 10) (by omega) b hb
      · obtain rfl : b = _ := by simpa using hb
        rw [digit_val _ (Nat.mod_lt _ (by omega))]
        omega
theorem digits_no (n : Nat) : (35 : UInt8) ∉ digits n := fun h => by
  have := (digits_in n _ h).1
  revert this
  decide
/-- The number that digits tell. -/
def valD (l : List UInt8) : Nat := l.foldl (fun a b => a * 10 + (b.toNat - 48)) 0
theorem valD_digits (n : Nat) : valD (digits n) = n := by
  induction n using Nat.strongRecOn with
  | _ n ih =>
    by_cases h : n < 10
    · rw [digits_lt h]
      simp only [valD, List.foldl_cons, List.foldl_nil]
      rw [digit_val n h]
      omega
    · rw [digits_ge h]
      have hi := ih (n / 10) (by omega)
      unfold valD at hi ⊢
      rw [List.foldl_append, hi]
      simp only [List.foldl_cons, List.foldl_nil]
      rw [digit_val _ (Nat.mod_lt _ (by omega))]
      omega
theorem digits_inj {n m : Nat} (h : digits n = digits m) : n = m := by rw [← valD_digits n, h, valD_digits]
theorem cut_inj {p q ds es : List UInt8} (hd : (35 : UInt8) ∉ ds) (he : (35 : UInt8) ∉ es) (h : p ++ 35 :: ds = q ++ 35 :: es) : p = q ∧ ds = es := by
  rcases List.append_eq_append_iff.1 h with ⟨a, e1, e2⟩ | ⟨a, e1, e2⟩
  · cases a with
    | nil =>
      simp only [List.append_nil] at e1
      simp only [List.nil_append, List.cons.injEq, true_and] at e2
      exact ⟨e1.symm, e2⟩
    | cons b a =>
      simp only [List.cons_append, List.cons.injEq] at e2
      exact absurd (by rw [e2.2]; simp) hd
  · cases a with
    | nil =>
      simp only [List.append_nil] at e1
      simp only [List.nil_append, List.cons.injEq, true_and] at e2
      exact ⟨e1, e2.symm⟩
    | cons b a =>
      simp only [List.cons_append, List.cons.injEq] at e2
      exact absurd (by rw [e2.2]; simp) he
theorem okK_n {k : Ik} (h : okK k = true) : 0 ≤ k.2 ∧ k.2 ≤ 1048576 := by
  unfold okK okI at h
  split at h
  · have := of_decide_eq_true h
    omega
  · exact of_decide_eq_true (Bool.and_eq_true_iff.1 h).2
theorem textK_ok {k : Ik} (h : okK k = true) : textK k = k.1 ++ 35 :: digits k.2.toNat := by
  unfold textK textI
  rw [if_pos (show okI (fun l => rightB (toB l)) k = true from h)]
theorem textK_no {k : Ik} (h : okK k = false) : textK k = [] := by
  unfold textK textI
  rw [if_neg (by rw [show okI (fun l => rightB (toB l)) k = false from h]; simp)]
theorem textK_inj {k m : Ik} (hk : okK k = true) (hm : okK m = true) (h : textK k = textK m) : k = m := by
  rw [textK_ok hk, textK_ok hm] at h
  obtain ⟨h1, h2⟩ := cut_inj (digits_no _) (digits_no _) h
  have h3 := digits_inj h2
  have a := okK_n hk
  have b := okK_n hm
  exact Prod.ext h1 (by omega)
/-- What Parse is to tell. -/
def ParseK (s : List UInt8) (z : Ik) (er : Int) : Prop := (er = 0 ∧ okK z = true ∧ textK z = s) ∨ (er = 6 ∧ z = ([], 0) ∧ ∀ k, okK k = true → textK k ≠ s)
end Go.Proofs.YtioknegeebgdbaaGreatDoor
namespace Go.Proofs.YtioknegeebgdbaaGreatDoor

/-- A number's bytes, with fuel: seven bits a byte, the lowest first. -/
def numF : Nat → Nat → List UInt8
  | 0, n => [UInt8.ofNat n]
  | f + 1, n => if n < 128 then [UInt8.ofNat n] else UInt8.ofNat (128 + n % 128) :: numF f (n / 128)
def numB (n : Nat) : List UInt8 := numF 9 n

theorem numF_lt (f n : Nat) (h : n < 128) : numF f n = [UInt8.ofNat n] := by
  cases f with
  | zero => rfl
  | succ f => simp [numF, h]
theorem numF_ge (f n : Nat) (h : 128 ≤ n) : numF (f + 1) n = UInt8.ofNat (128 + n % 128) :: numF f (n / 128) := by
  simp [numF, Nat.not_lt.2 h]
theorem numF_len : ∀ (f n : Nat), (numF f n).length ≤ f + 1
  | 0, n => by simp [numF]
  | f + 1, n => by
    unfold numF
    split
    · simp
    · simp; exact numF_len f (n / 128)
theorem numB_len (n : Nat) : (numB n).length ≤ 10 := numF_len 9 n
theorem numF_pos (f n : Nat) : 0 < (numF f n).length := by
  cases f with
  | zero => simp [numF]
  | succ f => unfold numF; split <;> simp
theorem div_pow (n f : Nat) (h : n < 128 ^ (f + 2)) : n / 128 < 128 ^ (f + 1) := by
  rw [Nat.div_lt_iff_lt_mul (by omega)]; rw [Nat.pow_succ] at h; exact h
theorem u64_pow (n : Nat) (h : n < 18446744073709551616) : n < 128 ^ (9 + 1) := by
  have : (128 : Nat) ^ (9 + 1) = 1180591620717411303424 := by decide
  omega
theorem toNat_lo (n : Nat) (h : n < 128) : ((UInt8.ofNat n).toNat : Int) = n := by
  simp [UInt8.toNat_ofNat']; omega
theorem toNat_hi (n : Nat) : ((UInt8.ofNat (128 + n % 128)).toNat : Int) = 128 + (n : Int) % 128 := by
  rw [UInt8.toNat_ofNat']; omega
/-- The list of a list's bytes. -/
def textB (s : List UInt8) : List UInt8 := numB s.length ++ s
def textsB : List (List UInt8) → List UInt8
  | [] => []
  | s :: l => textB s ++ textsB l
def listB (l : List (List UInt8)) : List UInt8 := numB l.length ++ textsB l
theorem textsB_append : ∀ (a b : List (List UInt8)), textsB (a ++ b) = textsB a ++ textsB b
  | [], b => rfl
  | x :: a, b => by simp [textsB, textsB_append a b]
theorem textsB_snoc (a : List (List UInt8)) (x : List UInt8) : textsB (a ++ [x]) = textsB a ++ textB x := by
  rw [textsB_append]; simp [textsB]
end Go.Proofs.YtioknegeebgdbaaGreatDoor
namespace Go.Proofs.YtioknegeebgdbaaGreatDoor

/-- Where the number that a list begins with ends: behind the first byte below 128. -/
def numEnd : List UInt8 → Option Nat
  | [] => none
  | b :: l => if b.toNat < 128 then some 1 else (numEnd l).map (· + 1)
/-- The value of a number's bytes, the last one first; too great: none. -/
def valR : List UInt8 → Nat → Option Nat
  | [], n => some n
  | b :: l, n => if n < 144115188075855872 then valR l (n * 128 + b.toNat % 128) else none
/-- The number that bytes are: none, if nobody lays it so. -/
def numVal (l : List UInt8) : Option Nat := if 1 < l.length ∧ l.getLast? = some 0 then none else valR l.reverse 0
/-- What a reader's Num makes of what is left: the number, the error, what is left behind it. -/
def rNum (l : List UInt8) : Nat × Int × List UInt8 :=
  match numEnd l with
  | none => (0, 5, [])
  | some e => match numVal (l.take e) with
    | none => (0, 6, [])
    | some n => (n, 0, l.drop e)
/-- .. its count .. -/
def rCount (l : List UInt8) : Nat × Int × List UInt8 :=
  if (rNum l).2.1 ≠ 0 then (0, (rNum l).2.1, []) else if (rNum l).2.2.length < (rNum l).1 then (0, 5, []) else rNum l
/-- .. its Text .. -/
def rText (l : List UInt8) : List UInt8 × Int × List UInt8 :=
  if (rCount l).2.1 ≠ 0 then ([], (rCount l).2.1, []) else ((rCount l).2.2.take (rCount l).1, 0, (rCount l).2.2.drop (rCount l).1)
/-- .. n texts .. -/
def rTexts : Nat → List UInt8 → List (List UInt8) × Int × List UInt8
  | 0, l => ([], 0, l)
  | n + 1, l => if (rText l).2.1 ≠ 0 then ([], (rText l).2.1, []) else
    if (rTexts n (rText l).2.2).2.1 ≠ 0 then ([], (rTexts n (rText l).2.2).2.1, []) else ((rText l).1 :: (rTexts n (rText l).2.2).1, 0, (rTexts n (rText l).2.2).2.2)
/-- .. its List. -/
def rList (l : List UInt8) : List (List UInt8) × Int × List UInt8 :=
  if (rCount l).2.1 ≠ 0 then ([], (rCount l).2.1, []) else rTexts (rCount l).1 (rCount l).2.2

theorem numEnd_pos : ∀ (l : List UInt8) (e : Nat), numEnd l = some e → 0 < e ∧ e ≤ l.length
  | [], e, h => by simp [numEnd] at h
  | b :: l, e, h => by
    unfold numEnd at h
    split at h
    · simp at h; subst h; simp
    · rw [Option.map_eq_some_iff] at h
      obtain ⟨e', h', rfl⟩ := h
      have := numEnd_pos l e' h'
      simp; omega
theorem numEnd_hit (l : List UInt8) (k : Nat) (hk : k < l.length) (hb : l[k].toNat < 128) (hall : ∀ j (hj : j < l.length), j < k → ¬ l[j].toNat < 128) : numEnd l = some (k + 1) := by
  induction l generalizing k with
  | nil => simp at hk
  | cons b l ih =>
    unfold numEnd
    cases k with
    | zero => simp at hb; simp [hb]
    | succ k =>
      have h0 : ¬ b.toNat < 128 := hall 0 (by simp) (by omega)
      rw [if_neg h0, ih k (by simpa using hk) (by simpa using hb) (fun j hj hjk => by have := hall (j + 1) (by simpa using hj) (by omega); rwa [List.getElem_cons_succ] at this)]
      rfl
theorem numEnd_miss (l : List UInt8) (hall : ∀ j (hj : j < l.length), ¬ l[j].toNat < 128) : numEnd l = none := by
  induction l with
  | nil => rfl
  | cons b l ih =>
    unfold numEnd
    have h0 : ¬ b.toNat < 128 := hall 0 (by simp)
    rw [if_neg h0, ih (fun j hj => by have := hall (j + 1) (by simpa using hj); rwa [List.getElem_cons_succ] at this)]
    rfl
theorem valR_snoc : ∀ (l : List UInt8) (b : UInt8) (n : Nat), valR (l ++ [b]) n = (valR l n).bind fun m => valR [b] m
  | [], b, n => by simp [valR]
  | x :: l, b, n => by
    simp only [List.cons_append, valR]
    split
    · exact valR_snoc l b _
    · rfl
/-- What was laid as a number is read as it, whatever stands behind it. -/
theorem numEnd_numF : ∀ (f n : Nat) (r : List UInt8), n < 128 ^ (f + 1) → numEnd (numF f n ++ r) = some (numF f n).length
  | 0, n, r, h => by
    have h' : n < 128 := by simpa using h
    have e : (UInt8.ofNat n).toNat = n := by have := toNat_lo n h'; omega
    simp [numF, numEnd, e, h']
  | f + 1, n, r, h => by
    by_cases hn : n < 128
    · have e : (UInt8.ofNat n).toNat = n := by have := toNat_lo n hn; omega
      rw [numF_lt _ n hn]
      simp [numEnd, e, hn]
    · have e : (UInt8.ofNat (128 + n % 128)).toNat = 128 + n % 128 := by have := toNat_hi n; omega
      rw [numF_ge f n (by omega)]
      simp only [List.cons_append, numEnd, e]
      rw [if_neg (by omega), numEnd_numF f (n / 128) r (div_pow n f h)]
      simp
theorem numF_last : ∀ (f n : Nat), n < 128 ^ (f + 1) → 1 < (numF f n).length → (numF f n).getLast? ≠ some 0
  | 0, n, h, hl => by simp [numF] at hl
  | f + 1, n, h, hl => by
    by_cases hn : n < 128
    · rw [numF_lt _ n hn] at hl; simp at hl
    · rw [numF_ge f n (by omega)]
      by_cases hl2 : 1 < (numF f (n / 128)).length
      · have := numF_last f (n / 128) (div_pow n f h) hl2
        rw [List.getLast?_cons_of_ne_nil (by intro h0; rw [h0] at hl2; simp at hl2)]
        exact this
      · have hp := numF_pos f (n / 128)
        have h128 : n / 128 < 128 := by
          rcases Nat.lt_or_ge (n / 128) 128 with h2 | h2
          · exact h2
          · exfalso
            cases f with
            | zero => simp at h; omega
            | succ g =>
              rw [numF_ge g (n / 128) h2] at hl2
              have := numF_pos g (n / 128 / 128)
              simp at hl2
              rw [hl2] at this
              simp at this
        rw [numF_lt f _ h128]
        simp
        intro h0
        have e := toNat_lo (n / 128) h128
        rw [h0] at e
        simp at e
        omega
theorem valR_numF : ∀ (f n : Nat), n < 128 ^ (f + 1) → n < 18446744073709551616 → valR (numF f n).reverse 0 = some n
  | 0, n, h, _ => by
    have h' : n < 128 := by simpa using h
    have e : (UInt8.ofNat n).toNat = n := by have := toNat_lo n h'; omega
    simp [numF, valR, e]; omega
  | f + 1, n, h, hn64 => by
    by_cases hn : n < 128
    · have e : (UInt8.ofNat n).toNat = n := by have := toNat_lo n hn; omega
      rw [numF_lt _ n hn]
      simp [valR, e]; omega
    · have e : (UInt8.ofNat (128 + n % 128)).toNat = 128 + n % 128 := by have := toNat_hi n; omega
      rw [numF_ge f n (by omega), List.reverse_cons, valR_snoc, valR_numF f (n / 128) (div_pow n f h) (by omega)]
      simp only [Option.bind_some, valR, e]
      rw [if_pos (by omega)]
      congr 1
      omega
theorem rNum_num (n : Nat) (r : List UInt8) (h : n < 18446744073709551616) : rNum (numB n ++ r) = (n, 0, r) := by
  have hp := u64_pow n h
  unfold rNum numB
  rw [numEnd_numF 9 n r hp]
  simp only [List.take_left, List.drop_left]
  have : numVal (numF 9 n) = some n := by
    unfold numVal
    rw [if_neg (fun h2 => numF_last 9 n hp h2.1 h2.2), valR_numF 9 n hp h]
  rw [this]
theorem rText_text (s r : List UInt8) (h : s.length < 18446744073709551616) : rText (textB s ++ r) = (s, 0, r) := by
  have hn := rNum_num s.length (s ++ r) h
  have hc : rCount (textB s ++ r) = (s.length, 0, s ++ r) := by
    unfold rCount textB
    rw [List.append_assoc, hn]
    simp
  unfold rText
  rw [hc]
  simp
theorem rTexts_texts : ∀ (l : List (List UInt8)) (r : List UInt8), (∀ s ∈ l, s.length < 18446744073709551616) → rTexts l.length (textsB l ++ r) = (l, 0, r)
  | [], r, _ => rfl
  | s :: l, r, h => by
    have h1 := rText_text s (textsB l ++ r) (h s (by simp))
    have h2 := rTexts_texts l r (fun x hx => h x (by simp [hx]))
    simp only [List.length_cons, rTexts, textsB, List.append_assoc, h1, h2]
    simp
theorem rList_list (l : List (List UInt8)) (r : List UInt8) (hl : l.length < 18446744073709551616) (h : ∀ s ∈ l, s.length < 18446744073709551616) : rList (listB l ++ r) = (l, 0, r) := by
  have hn := rNum_num l.length (textsB l ++ r) hl
  have hle : l.length ≤ (textsB l).length := by
    clear hn hl h
    induction l with
    | nil => simp
    | cons s l ih =>
      have := numF_pos 9 s.length
      simp [textsB, textB, numB]; omega
  have hc : rCount (listB l ++ r) = (l.length, 0, textsB l ++ r) := by
    unfold rCount listB
    rw [List.append_assoc, hn]
    simp
    omega
  unfold rList
  rw [hc]
  simp [rTexts_texts l r h]
theorem rNum_len (l : List UInt8) : (rNum l).2.2.length ≤ l.length := by
  unfold rNum
  split
  · simp
  · split
    · simp
    · simp
theorem rNum_err (l : List UInt8) (h : (rNum l).2.1 ≠ 0) : (rNum l).1 = 0 ∧ (rNum l).2.2 = [] := by
  unfold rNum at h ⊢
  rcases he : numEnd l with _ | e
  · simp
  · rw [he] at h
    rcases hn : numVal (l.take e) with _ | n
    · simp [hn]
    · simp [hn] at h
theorem rCount_len (l : List UInt8) : (rCount l).2.2.length ≤ l.length := by
  have := rNum_len l
  unfold rCount
  split
  · simp
  · split
    · simp
    · exact this
theorem rCount_err (l : List UInt8) (h : (rCount l).2.1 ≠ 0) : (rCount l).1 = 0 ∧ (rCount l).2.2 = [] := by
  unfold rCount at h ⊢
  split
  · simp
  · split
    · simp
    · rename_i h1 h2
      simp [h1, h2] at h
theorem rCount_le (l : List UInt8) : (rCount l).1 ≤ (rCount l).2.2.length := by
  unfold rCount
  split
  · simp
  · split
    · simp
    · omega
theorem rText_len (l : List UInt8) : (rText l).2.2.length + (rText l).1.length ≤ l.length := by
  have := rCount_len l
  have h2 := rCount_le l
  unfold rText
  split
  · simp
  · simp; omega
theorem rText_err (l : List UInt8) (h : (rText l).2.1 ≠ 0) : (rText l).1 = [] ∧ (rText l).2.2 = [] := by
  unfold rText at h ⊢
  split
  · simp
  · rename_i h1
    simp [h1] at h
/-- Texts that were read, ahead of those that are read then. -/
def preT (a : List (List UInt8)) (x : List (List UInt8) × Int × List UInt8) : List (List UInt8) × Int × List UInt8 := if x.2.1 ≠ 0 then ([], x.2.1, []) else (a ++ x.1, 0, x.2.2)
theorem rTexts_err : ∀ (n : Nat) (l : List UInt8), (rTexts n l).2.1 ≠ 0 → (rTexts n l).1 = [] ∧ (rTexts n l).2.2 = []
  | 0, l, h => by simp [rTexts] at h
  | n + 1, l, h => by
    unfold rTexts at h ⊢
    split
    · simp
    · rename_i h1
      split
      · simp
      · rename_i h2
        simp [h1, h2] at h
theorem preT_nil (n : Nat) (l : List UInt8) : preT [] (rTexts n l) = rTexts n l := by
  have := rTexts_err n l
  unfold preT
  rcases h : rTexts n l with ⟨a, e, r⟩
  rw [h] at this
  simp only at this ⊢
  by_cases h0 : e = 0
  · subst h0; simp
  · obtain ⟨rfl, rfl⟩ := this h0
    simp [h0]
theorem preT_bad (a : List (List UInt8)) (m : Nat) (l : List UInt8) (h : (rText l).2.1 ≠ 0) : preT a (rTexts (m + 1) l) = ([], (rText l).2.1, []) := by
  unfold preT rTexts
  simp [h]
theorem preT_step (a : List (List UInt8)) (m : Nat) (l : List UInt8) (h : (rText l).2.1 = 0) : preT a (rTexts (m + 1) l) = preT (a ++ [(rText l).1]) (rTexts m (rText l).2.2) := by
  unfold preT
  simp only [rTexts, h]
  by_cases h2 : (rTexts m (rText l).2.2).2.1 = 0
  · simp [h2]
  · simp [h2]
theorem preT_end (a : List (List UInt8)) (l : List UInt8) : preT a (rTexts 0 l) = (a, 0, l) := by simp [preT, rTexts]
end Go.Proofs.YtioknegeebgdbaaGreatDoor
namespace Go.Proofs.YtioknegeebgdbaaGreatDoor
set_option linter.unusedVariables false

/-- A rune that no line has (r, of n bytes). -/
def badRune (x : Nat × Nat) : Bool := (x.1 == 65533 && x.2 == 1) || (decide (x.1 < 32) && !(x.1 == 9))
def runesOk (s : ByteArray) : Nat → Nat → Bool
  | 0, _ => true
  | f + 1, i => if i < s.size then (if badRune (Utf8.decode s i) then false else runesOk s f (i + (Utf8.decode s i).2)) else true
/-- Are the runes from byte i on a line's? -/
def runes (s : ByteArray) (i : Nat) : Bool := runesOk s (s.size - i) i
theorem decode_pos (s : ByteArray) (i : Nat) : 1 ≤ (Utf8.decode s i).2 := by
  unfold Utf8.decode
  dsimp only
  repeat' split
  all_goals simp
theorem decode_le (s : ByteArray) (i : Nat) : (Utf8.decode s i).2 ≤ 4 := by
  unfold Utf8.decode
  dsimp only
  repeat' split
  all_goals simp
theorem decode_rune (s : ByteArray) (i : Nat) : (Utf8.decode s i).1 ≤ 2097151 := by
  unfold Utf8.decode
  dsimp only
  have h : ∀ k, (s.get! (i + k)).toNat < 256 := fun k => UInt8.toNat_lt _
  have h0 := h 0
  rw [Nat.add_zero] at h0
  have h1 := h 1
  have h2 := h 2
  have h3 := h 3
  repeat' split
  all_goals simp [Utf8.runeError]
  all_goals omega
theorem runesOk_fuel (s : ByteArray) : ∀ (f g i : Nat), s.size - i ≤ f → s.size - i ≤ g → runesOk s f i = runesOk s g i
  | 0, 0, _, _, _ => rfl
  | 0, g + 1, i, hf, _ => by simp [runesOk, show ¬ i < s.size by omega]
  | f + 1, 0, i, _, hg => by simp [runesOk, show ¬ i < s.size by omega]
  | f + 1, g + 1, i, hf, hg => by
    unfold runesOk
    by_cases h : i < s.size
    · have hp := decode_pos s i
      rw [if_pos h, if_pos h, runesOk_fuel s f g _ (by omega) (by omega)]
    · rw [if_neg h, if_neg h]
theorem runes_end {s : ByteArray} {i : Nat} (h : ¬ i < s.size) : runes s i = true := by
  unfold runes
  rw [show s.size - i = 0 by omega]; rfl
theorem runes_bad {s : ByteArray} {i : Nat} (h : i < s.size) (hb : badRune (Utf8.decode s i) = true) : runes s i = false := by
  unfold runes
  obtain ⟨f, hf⟩ : ∃ f, s.size - i = f + 1 := ⟨s.size - i - 1, by omega⟩
  rw [hf]
  unfold runesOk
  rw [if_pos h, if_pos hb]
theorem runes_good {s : ByteArray} {i : Nat} (h : i < s.size) (hb : badRune (Utf8.decode s i) = false) : runes s i = runes s (i + (Utf8.decode s i).2) := by
  have hp := decode_pos s i
  have e : runes s i = runesOk s ((s.size - i - 1) + 1) i := by unfold runes; congr 1; omega
  rw [e]
  unfold runesOk
  rw [if_pos h, if_neg (by rw [hb]; simp)]
  exact runesOk_fuel s _ _ _ (by omega) (by omega)
/-- Is a text a line? -/
def lineB (s : ByteArray) : Bool := decide (s.size ≤ 200) && runes s 0
/-- The error of lines that may not be a file's: 4, too many; 6, one is none; 0. -/
def checkN (ss : List ByteArray) : Int := if 2000 < ss.length then 4 else if ss.all lineB then 0 else 6
theorem checkN_big {ss : List ByteArray} (h : 2000 < ss.length) : checkN ss = 4 := by simp [checkN, h]
theorem checkN_bad {ss : List ByteArray} {k : Nat} (hn : ¬ 2000 < ss.length) (hk : k < ss.length) (h : lineB ss[k] = false) : checkN ss = 6 := by
  have : ss.all lineB = false := by
    rw [List.all_eq_false]
    exact ⟨ss[k], List.getElem_mem _, by rw [h]; simp⟩
  simp [checkN, hn, this]
theorem checkN_ok {ss : List ByteArray} (hn : ¬ 2000 < ss.length) (h : ∀ k (hk : k < ss.length), lineB ss[k] = true) : checkN ss = 0 := by
  have : ss.all lineB = true := by
    rw [List.all_eq_true]
    intro s hs
    obtain ⟨k, hk, rfl⟩ := List.getElem_of_mem hs
    exact h k hk
  simp [checkN, hn, this]
end Go.Proofs.YtioknegeebgdbaaGreatDoor
namespace Go.Proofs.YtioknegeebgdbaaGreatDoor
open Go.RowKit
set_option linter.unusedVariables false

/-- An operation: its kind, its ids, its names, which lines go, the number of the first one that comes, and these. -/
structure OpK where
  kind : Int
  self : Ik
  parent : Ik
  dst : Ik
  name : List UInt8
  dname : List UInt8
  left : Ik
  right : Ik
  dels : List Ik
  first : Int
  lines : List (List UInt8)
deriving DecidableEq
def zeroI : Ik := ([], 0)
def OpK.zero : OpK := ⟨0, zeroI, zeroI, zeroI, [], [], zeroI, zeroI, [], 0, []⟩
def noneI (k : Ik) : Bool := decide (k = zeroI)
def madeI (k : Ik) : Bool := okK k && decide (k.1 ≠ [])
def orI (k : Ik) (n : Int) : Bool := madeI k || decide (k = ([], n))
def nameK (l : List UInt8) : Bool := rightB (toB l)
/-- May a hunk's parts be? -/
def hunkO (o : OpK) : Bool := decide (o.left :: o.right :: o.dels).Nodup && o.dels.all madeI && orI o.left 1 && orI o.right 2 && decide (0 ≤ o.first ∧ o.first ≤ 1048576) && decide (o.dels.length ≤ 2000) && decide (0 < o.dels.length + o.lines.length) && decide (checkN (toBs o.lines) = 0)
/-- May a place be? -/
def placeO (o : OpK) : Bool := noneI o.left && noneI o.right && decide (o.dels = []) && decide (o.first = 0) && decide (o.lines = []) && orI o.parent 0 && nameK o.name
/-- May an operation be? -/
def mayO (o : OpK) : Bool := madeI o.self && decide (1 ≤ o.kind ∧ o.kind ≤ 5) &&
  (if o.kind = 5 then noneI o.parent && noneI o.dst && decide (o.name = []) && decide (o.dname = []) && hunkO o
   else placeO o && (if o.kind = 4 then orI o.dst 0 && nameK o.dname && decide (¬ (o.dst = o.parent ∧ o.dname = o.name)) else noneI o.dst && decide (o.dname = [])))
/-- What a patch makes by an operation. -/
def comesO (p : List UInt8) (o : OpK) : List Ik := if o.kind = 1 ∨ o.kind = 2 then [o.self] else if o.kind = 5 then rowI p o.first o.lines.length else []
/-- The ids that an operation names, and does not make, in no order. -/
def namedO (o : OpK) : List Ik :=
  if o.kind = 1 ∨ o.kind = 2 then [o.parent] else if o.kind = 3 then [o.self, o.parent] else if o.kind = 4 then [o.self, o.parent, o.dst]
  else if o.kind = 5 then [o.self, o.left, o.right] ++ o.dels else []
def idsO (o : OpK) : List Ik := setI ((namedO o).filter fun k => decide (k.1 ≠ []))
/-- Its bytes. -/
def putO (o : OpK) : List UInt8 := numB o.kind.toNat ++ (numB o.first.toNat ++ (textB (textK o.self) ++ (textB (textK o.parent) ++ (textB (textK o.dst) ++ (textB (textK o.left) ++ (textB (textK o.right) ++ (textB o.name ++ (textB o.dname ++ (listB (o.dels.map textK) ++ (listB o.lines ++ []))))))))))

theorem ok_zero : okK zeroI = true := by decide
theorem ok_none {k : Ik} (h : noneI k = true) : okK k = true := by
  rw [show k = zeroI from of_decide_eq_true h]
  exact ok_zero
theorem ok_made {k : Ik} (h : madeI k = true) : okK k = true := (Bool.and_eq_true_iff.1 h).1
theorem ok_or {k : Ik} {n : Int} (h : orI k n = true) (hn : 0 ≤ n ∧ n ≤ 2) : okK k = true := by
  unfold orI at h
  rcases Bool.or_eq_true_iff.1 h with h | h
  · exact ok_made h
  · rw [show k = ([], n) from of_decide_eq_true h]
    unfold okK okI
    rw [if_pos rfl]
    exact decide_eq_true hn
theorem name_len {l : List UInt8} (h : nameK l = true) : l.length ≤ 40 := by
  unfold nameK rightB at h
  simp only [Bool.and_eq_true, decide_eq_true_eq] at h
  have h2 := h.1.1.1.2
  rwa [show (toB l).size = l.length from by simp [toB, ByteArray.size]] at h2
theorem digits_few {n : Nat} (h : n < 10000000) : (digits n).length ≤ 7 := by
  have key : ∀ (k n : Nat), n < 10 ^ (k + 1) → (digits n).length ≤ k + 1 := by
    intro k
    induction k with
    | zero => intro n h; rw [digits_lt (show n < 10 from h)]; simp
    | succ k ih =>
      intro n h
      by_cases h0 : n < 10
      · rw [digits_lt h0]; simp
      · rw [digits_ge h0, List.length_append]
        have := ih (n / 10) (by rw [Nat.pow_succ] at h; omega)
        simp only [List.length_cons, List.length_nil]
        omega
  exact key 6 n (Nat.lt_of_lt_of_le h (by decide))
theorem textK_few {k : Ik} (h : okK k = true) : (textK k).length ≤ 48 := by
  have hn := okK_n h
  have h7 := digits_few (n := k.2.toNat) (by omega)
  rw [textK_ok h, List.length_append, List.length_cons]
  unfold okK okI at h
  split at h
  · rename_i e
    rw [e]
    simp only [List.length_nil]
    omega
  · have := name_len (Bool.and_eq_true_iff.1 h).1
    omega
/-- What an operation that may be keeps to. -/
structure OpOk (o : OpK) : Prop where
  kind : 1 ≤ o.kind ∧ o.kind ≤ 5
  first : 0 ≤ o.first ∧ o.first ≤ 1048576
  self : okK o.self = true
  parent : okK o.parent = true
  dst : okK o.dst = true
  left : okK o.left = true
  right : okK o.right = true
  name : o.name.length ≤ 40
  dname : o.dname.length ≤ 40
  few : o.dels.length ≤ 2000
  dels : ∀ k ∈ o.dels, okK k = true
  lines : o.lines = [] ∨ checkN (toBs o.lines) = 0
theorem op_ok {o : OpK} (h : mayO o = true) : OpOk o := by
  unfold mayO at h
  rw [Bool.and_eq_true, Bool.and_eq_true, decide_eq_true_eq] at h
  obtain ⟨⟨h1, h2⟩, h3⟩ := h
  by_cases h5 : o.kind = 5
  · rw [if_pos h5] at h3
    unfold hunkO at h3
    simp only [Bool.and_eq_true, decide_eq_true_eq, List.all_eq_true] at h3
    obtain ⟨⟨⟨⟨a1, a2⟩, a3⟩, a4⟩, ⟨⟨⟨⟨⟨⟨⟨b1, b2⟩, b3⟩, b4⟩, b5⟩, b6⟩, b7⟩, b8⟩⟩ := h3
    exact ⟨h2, b5, ok_made h1, ok_none a1, ok_none a2, ok_or b3 (by decide), ok_or b4 (by decide), by rw [a3]; exact Nat.zero_le _, by rw [a4]; exact Nat.zero_le _, b6, fun k hk => ok_made (b2 k hk), .inr b8⟩
  · rw [if_neg h5] at h3
    unfold placeO at h3
    simp only [Bool.and_eq_true, decide_eq_true_eq] at h3
    obtain ⟨⟨⟨⟨⟨⟨⟨a1, a2⟩, a3⟩, a4⟩, a5⟩, a6⟩, a7⟩, h4⟩ := h3
    have ha : 0 ≤ o.first ∧ o.first ≤ 1048576 := by rw [a4]; decide
    by_cases h6 : o.kind = 4
    · rw [if_pos h6] at h4
      simp only [Bool.and_eq_true, decide_eq_true_eq] at h4
      exact ⟨h2, ha, ok_made h1, ok_or a6 (by decide), ok_or h4.1.1 (by decide), ok_none a1, ok_none a2, name_len a7, name_len h4.1.2, by rw [a3]; exact Nat.zero_le _, by rw [a3]; simp, .inl a5⟩
    · rw [if_neg h6] at h4
      simp only [Bool.and_eq_true, decide_eq_true_eq] at h4
      exact ⟨h2, ha, ok_made h1, ok_or a6 (by decide), ok_none h4.1, ok_none a1, ok_none a2, name_len a7, by rw [h4.2]; exact Nat.zero_le _, by rw [a3]; exact Nat.zero_le _, by rw [a3]; simp, .inl a5⟩
theorem lines_few {l : List (List UInt8)} (h : l = [] ∨ checkN (toBs l) = 0) : l.length ≤ 2000 ∧ ∀ x ∈ l, x.length ≤ 200 := by
  rcases h with rfl | h
  · simp
  · have hn : ¬ 2000 < (toBs l).length := fun e => by rw [checkN_big e] at h; cases h
    refine ⟨by rw [toBs_len] at hn; omega, fun x hx => ?_⟩
    cases hl : lineB (toB x) with
    | true =>
      unfold lineB at hl
      have h1 := of_decide_eq_true (Bool.and_eq_true_iff.1 hl).1
      rwa [show (toB x).size = x.length from by simp [toB, ByteArray.size]] at h1
    | false =>
      obtain ⟨k, hk, e⟩ := List.getElem_of_mem hx
      have hk2 : k < (toBs l).length := by rw [toBs_len]; exact hk
      rw [checkN_bad hn hk2 (by rw [show (toBs l)[k] = toB l[k] by simp [toBs], e]; exact hl)] at h
      cases h
theorem map_textK : ∀ {a b : List Ik}, (∀ k ∈ a, okK k = true) → (∀ k ∈ b, okK k = true) → a.map textK = b.map textK → a = b
  | [], [], _, _, _ => rfl
  | [], _ :: _, _, _, h => by simp at h
  | _ :: _, [], _, _, h => by simp at h
  | x :: a, y :: b, ha, hb, h => by
    simp only [List.map_cons, List.cons.injEq] at h
    rw [textK_inj (ha x (by simp)) (hb y (by simp)) h.1, map_textK (fun k hk => ha k (List.mem_cons_of_mem _ hk)) (fun k hk => hb k (List.mem_cons_of_mem _ hk)) h.2]
theorem textB_cut {a b r s : List UInt8} (ha : a.length < 18446744073709551616) (hb : b.length < 18446744073709551616) (h : textB a ++ r = textB b ++ s) : a = b ∧ r = s := by
  have e := congrArg rText h
  rw [rText_text a r ha, rText_text b s hb] at e
  simpa using e
theorem listB_cut {a b : List (List UInt8)} {r s : List UInt8} (ha : a.length < 18446744073709551616) (ha2 : ∀ x ∈ a, x.length < 18446744073709551616) (hb : b.length < 18446744073709551616) (hb2 : ∀ x ∈ b, x.length < 18446744073709551616) (h : listB a ++ r = listB b ++ s) : a = b ∧ r = s := by
  have e := congrArg rList h
  rw [rList_list a r ha ha2, rList_list b s hb hb2] at e
  simpa using e
theorem numB_cut {a b : Nat} {r s : List UInt8} (ha : a < 18446744073709551616) (hb : b < 18446744073709551616) (h : numB a ++ r = numB b ++ s) : a = b ∧ r = s := by
  have e := congrArg rNum h
  rw [rNum_num a r ha, rNum_num b s hb] at e
  simpa using e
/-- The bytes are one operation's alone. -/
theorem putO_inj {a b : OpK} (ha : mayO a = true) (hb : mayO b = true) (h : putO a = putO b) : a = b := by
  have A := op_ok ha
  have B := op_ok hb
  obtain ⟨k1, f1, a1, a2, a3, a4, a5, n1, m1, c1, d1, l1⟩ := A
  obtain ⟨k2, f2, b1, b2, b3, b4, b5, n2, m2, c2, d2, l2⟩ := B
  obtain ⟨la1, la2⟩ := lines_few l1
  obtain ⟨lb1, lb2⟩ := lines_few l2
  have big : ∀ {k : Ik}, okK k = true → (textK k).length < 18446744073709551616 := fun h => Nat.lt_of_le_of_lt (textK_few h) (by decide)
  unfold putO at h
  obtain ⟨e1, h⟩ := numB_cut (by omega) (by omega) h
  obtain ⟨e2, h⟩ := numB_cut (by omega) (by omega) h
  obtain ⟨e3, h⟩ := textB_cut (big a1) (big b1) h
  obtain ⟨e4, h⟩ := textB_cut (big a2) (big b2) h
  obtain ⟨e5, h⟩ := textB_cut (big a3) (big b3) h
  obtain ⟨e6, h⟩ := textB_cut (big a4) (big b4) h
  obtain ⟨e7, h⟩ := textB_cut (big a5) (big b5) h
  obtain ⟨e8, h⟩ := textB_cut (by omega) (by omega) h
  obtain ⟨e9, h⟩ := textB_cut (by omega) (by omega) h
  obtain ⟨e10, h⟩ := listB_cut (by rw [List.length_map]; omega) (fun x hx => by obtain ⟨k, hk, rfl⟩ := List.mem_map.1 hx; exact big (d1 k hk)) (by rw [List.length_map]; omega) (fun x hx => by obtain ⟨k, hk, rfl⟩ := List.mem_map.1 hx; exact big (d2 k hk)) h
  obtain ⟨e11, _⟩ := listB_cut (by omega) (fun x hx => Nat.lt_of_le_of_lt (la2 x hx) (by decide)) (by omega) (fun x hx => Nat.lt_of_le_of_lt (lb2 x hx) (by decide)) h
  have g3 := textK_inj a1 b1 e3
  have g4 := textK_inj a2 b2 e4
  have g5 := textK_inj a3 b3 e5
  have g6 := textK_inj a4 b4 e6
  have g7 := textK_inj a5 b5 e7
  have g10 := map_textK d1 d2 e10
  obtain ⟨ak, asf, ap, ad, an, am, al, ar, ads, af, als⟩ := a
  obtain ⟨bk, bsf, bp, bd, bn, bm, bl, br, bds, bf, bls⟩ := b
  simp only at *
  have q1 : ak = bk := by omega
  have q2 : af = bf := by omega
  subst q1 q2 g3 g4 g5 g6 g7 e8 e9 g10 e11
  rfl
end Go.Proofs.YtioknegeebgdbaaGreatDoor
