
/- Plain facts on reading numbers, texts and lists out of bytes: lists and numbers alone. -/
import Derived.Test.YtokkkjgdfnkjoaaDoorCodePlain
namespace Go.Proofs.YtokkkjgdfnkjoaaDoor

/-- Where the number that a list begins with ends: behind the first byte below 128. -/
def numEnd : List UInt8 → Option Nat
  | [] => none
  | b :: l => if b.toNat < 128 then some 1 else (numEnd l).map (· + 1)
/-- The value of a number's bytes, the last one first; too great: none. -/
def valR : List UInt8 → Nat → Option Nat
  | [], n => some n
  | b :: l, n => if n < 144115188075855872 then valR l (n * 128 + b.toNat % 128) else none
/-- The number that bytes are: none, if nobody lays it so. -/
def numVal (l : List UInt8) : Option Nat := if 1 < l.length ∧ l.getLast? = some 0 then none else valR l.reverse 0
/-- What a reader's Num makes of what is left: the number, the error, what is left behind it. -/
def rNum (l : List UInt8) : Nat × Int × List UInt8 :=
  match numEnd l with
  | none => (0, 5, [])
  | some e => match numVal (l.take e) with
    | none => (0, 6, [])
    | some n => (n, 0, l.drop e)
/-- .. its count .. -/
def rCount (l : List UInt8) : Nat × Int × List UInt8 :=
  if (rNum l).2.1 ≠ 0 then (0, (rNum l).2.1, []) else if (rNum l).2.2.length < (rNum l).1 then (0, 5, []) else rNum l
/-- .. its Text .. -/
def rText (l : List UInt8) : List UInt8 × Int × List UInt8 :=
  if (rCount l).2.1 ≠ 0 then ([], (rCount l).2.1, []) else ((rCount l).2.2.take (rCount l).1, 0, (rCount l).2.2.drop (rCount l).1)
/-- .. n texts .. -/
def rTexts : Nat → List UInt8 → List (List UInt8) × Int × List UInt8
  | 0, l => ([], 0, l)
  | n + 1, l => if (rText l).2.1 ≠ 0 then ([], (rText l).2.1, []) else
    if (rTexts n (rText l).2.2).2.1 ≠ 0 then ([], (rTexts n (rText l).2.2).2.1, []) else ((rText l).1 :: (rTexts n (rText l).2.2).1, 0, (rTexts n (rText l).2.2).2.2)
/-- .. its List. -/
def rList (l : List UInt8) : List (List UInt8) × Int × List UInt8 :=
  if (rCount l).2.1 ≠ 0 then ([], (rCount l).2.1, []) else rTexts (rCount l).1 (rCount l).2.2

theorem numEnd_pos : ∀ (l : List UInt8) (e : Nat), numEnd l = some e → 0 < e ∧ e ≤ l.length
  | [], e, h => by simp [numEnd] at h
  | b :: l, e, h => by
    unfold numEnd at h
    split at h
    · simp at h; subst h; simp
    · rw [Option.map_eq_some_iff] at h
      obtain ⟨e', h', rfl⟩ := h
      have := numEnd_pos l e' h'
      simp; omega
theorem numEnd_hit (l : List UInt8) (k : Nat) (hk : k < l.length) (hb : l[k].toNat < 128) (hall : ∀ j (hj : j < l.length), j < k → ¬ l[j].toNat < 128) : numEnd l = some (k + 1) := by
  induction l generalizing k with
  | nil => simp at hk
  | cons b l ih =>
    unfold numEnd
    cases k with
    | zero => simp at hb; simp [hb]
    | succ k =>
      have h0 : ¬ b.toNat < 128 := hall 0 (by simp) (by omega)
      rw [if_neg h0, ih k (by simpa using hk) (by simpa using hb) (fun j hj hjk => by have := hall (j + 1) (by simpa using hj) (by omega); rwa [List.getElem_cons_succ] at this)]
      rfl
theorem numEnd_miss (l : List UInt8) (hall : ∀ j (hj : j < l.length), ¬ l[j].toNat < 128) : numEnd l = none := by
  induction l with
  | nil => rfl
  | cons b l ih =>
    unfold numEnd
    have h0 : ¬ b.toNat < 128 := hall 0 (by simp)
    rw [if_neg h0, ih (fun j hj => by have := hall (j + 1) (by simpa using hj); rwa [List.getElem_cons_succ] at this)]
    rfl
theorem valR_snoc : ∀ (l : List UInt8) (b : UInt8) (n : Nat), valR (l ++ [b]) n = (valR l n).bind fun m => valR [b] m
  | [], b, n => by simp [valR]
  | x :: l, b, n => by
    simp only [List.cons_append, valR]
    split
    · exact valR_snoc l b _
    · rfl
/-- What was laid as a number is read as it, whatever stands behind it. -/
theorem numEnd_numF : ∀ (f n : Nat) (r : List UInt8), n < 128 ^ (f + 1) → numEnd (numF f n ++ r) = some (numF f n).length
  | 0, n, r, h => by
    have h' : n < 128 := by simpa using h
    have e : (UInt8.ofNat n).toNat = n := by have := toNat_lo n h'; omega
    simp [numF, numEnd, e, h']
  | f + 1, n, r, h => by
    by_cases hn : n < 128
    · have e : (UInt8.ofNat n).toNat = n := by have := toNat_lo n hn; omega
      rw [numF_lt _ n hn]
      simp [numEnd, e, hn]
    · have e : (UInt8.ofNat (128 + n % 128)).toNat = 128 + n % 128 := by have := toNat_hi n; omega
      rw [numF_ge f n (by omega)]
      simp only [List.cons_append, numEnd, e]
      rw [if_neg (by omega), numEnd_numF f (n / 128) r (div_pow n f h)]
      simp
theorem numF_last : ∀ (f n : Nat), n < 128 ^ (f + 1) → 1 < (numF f n).length → (numF f n).getLast? ≠ some 0
  | 0, n, h, hl => by simp [numF] at hl
  | f + 1, n, h, hl => by
    by_cases hn : n < 128
    · rw [numF_lt _ n hn] at hl; simp at hl
    · rw [numF_ge f n (by omega)]
      by_cases hl2 : 1 < (numF f (n / 128)).length
      · have := numF_last f (n / 128) (div_pow n f h) hl2
        rw [List.getLast?_cons_of_ne_nil (by intro h0; rw [h0] at hl2; simp at hl2)]
        exact this
      · have hp := numF_pos f (n / 128)
        have h128 : n / 128 < 128 := by
          rcases Nat.lt_or_ge (n / 128) 128 with h2 | h2
          · exact h2
          · exfalso
            cases f with
            | zero => simp at h; omega
            | succ g =>
              rw [numF_ge g (n / 128) h2] at hl2
              have := numF_pos g (n / 128 / 128)
              simp at hl2
              rw [hl2] at this
              simp at this
        rw [numF_lt f _ h128]
        simp
        intro h0
        have e := toNat_lo (n / 128) h128
        rw [h0] at e
        simp at e
        omega
theorem valR_numF : ∀ (f n : Nat), n < 128 ^ (f + 1) → n < 18446744073709551616 → valR (numF f n).reverse 0 = some n
  | 0, n, h, _ => by
    have h' : n < 128 := by simpa using h
    have e : (UInt8.ofNat n).toNat = n := by have := toNat_lo n h'; omega
    simp [numF, valR, e]; omega
  | f + 1, n, h, hn64 => by
    by_cases hn : n < 128
    · have e : (UInt8.ofNat n).toNat = n := by have := toNat_lo n hn; omega
      rw [numF_lt _ n hn]
      simp [valR, e]; omega
    · have e : (UInt8.ofNat (128 + n % 128)).toNat = 128 + n % 128 := by have := toNat_hi n; omega
      rw [numF_ge f n (by omega), List.reverse_cons, valR_snoc, valR_numF f (n / 128) (div_pow n f h) (by omega)]
      simp only [Option.bind_some, valR, e]
      rw [if_pos (by omega)]
      congr 1
      omega
theorem rNum_num (n : Nat) (r : List UInt8) (h : n < 18446744073709551616) : rNum (numB n ++ r) = (n, 0, r) := by
  have hp := u64_pow n h
  unfold rNum numB
  rw [numEnd_numF 9 n r hp]
  simp only [List.take_left, List.drop_left]
  have : numVal (numF 9 n) = some n := by
    unfold numVal
    rw [if_neg (fun h2 => numF_last 9 n hp h2.1 h2.2), valR_numF 9 n hp h]
  rw [this]
theorem rText_text (s r : List UInt8) (h : s.length < 18446744073709551616) : rText (textB s ++ r) = (s, 0, r) := by
  have hn := rNum_num s.length (s ++ r) h
  have hc : rCount (textB s ++ r) = (s.length, 0, s ++ r) := by
    unfold rCount textB
    rw [List.append_assoc, hn]
    simp
  unfold rText
  rw [hc]
  simp
theorem rTexts_texts : ∀ (l : List (List UInt8)) (r : List UInt8), (∀ s ∈ l, s.length < 18446744073709551616) → rTexts l.length (textsB l ++ r) = (l, 0, r)
  | [], r, _ => rfl
  | s :: l, r, h => by
    have h1 := rText_text s (textsB l ++ r) (h s (by simp))
    have h2 := rTexts_texts l r (fun x hx => h x (by simp [hx]))
    simp only [List.length_cons, rTexts, textsB, List.append_assoc, h1, h2]
    simp
theorem rList_list (l : List (List UInt8)) (r : List UInt8) (hl : l.length < 18446744073709551616) (h : ∀ s ∈ l, s.length < 18446744073709551616) : rList (listB l ++ r) = (l, 0, r) := by
  have hn := rNum_num l.length (textsB l ++ r) hl
  have hle : l.length ≤ (textsB l).length := by
    clear hn hl h
    induction l with
    | nil => simp
    | cons s l ih =>
      have := numF_pos 9 s.length
      simp [textsB, textB, numB]; omega
  have hc : rCount (listB l ++ r) = (l.length, 0, textsB l ++ r) := by
    unfold rCount listB
    rw [List.append_assoc, hn]
    simp
    omega
  unfold rList
  rw [hc]
  simp [rTexts_texts l r h]
theorem rNum_len (l : List UInt8) : (rNum l).2.2.length ≤ l.length := by
  unfold rNum
  split
  · simp
  · split
    · simp
    · simp
theorem rNum_err (l : List UInt8) (h : (rNum l).2.1 ≠ 0) : (rNum l).1 = 0 ∧ (rNum l).2.2 = [] := by
  unfold rNum at h ⊢
  rcases he : numEnd l with _ | e
  · simp
  · rw [he] at h
    rcases hn : numVal (l.take e) with _ | n
    · simp [hn]
    · simp [hn] at h
theorem rCount_len (l : List UInt8) : (rCount l).2.2.length ≤ l.length := by
  have := rNum_len l
  unfold rCount
  split
  · simp
  · split
    · simp
    · exact this
theorem rCount_err (l : List UInt8) (h : (rCount l).2.1 ≠ 0) : (rCount l).1 = 0 ∧ (rCount l).2.2 = [] := by
  unfold rCount at h ⊢
  split
  · simp
  · split
    · simp
    · rename_i h1 h2
      simp [h1, h2] at h
theorem rCount_le (l : List UInt8) : (rCount l).1 ≤ (rCount l).2.2.length := by
  unfold rCount
  split
  · simp
  · split
    · simp
    · omega
theorem rText_len (l : List UInt8) : (rText l).2.2.length + (rText l).1.length ≤ l.length := by
  have := rCount_len l
  have h2 := rCount_le l
  unfold rText
  split
  · simp
  · simp; omega
theorem rText_err (l : List UInt8) (h : (rText l).2.1 ≠ 0) : (rText l).1 = [] ∧ (rText l).2.2 = [] := by
  unfold rText at h ⊢
  split
  · simp
  · rename_i h1
    simp [h1] at h
/-- Texts that were read, ahead of those that are read then. -/
def preT (a : List (List UInt8)) (x : List (List UInt8) × Int × List UInt8) : List (List UInt8) × Int × List UInt8 := if x.2.1 ≠ 0 then ([], x.2.1, []) else (a ++ x.1, 0, x.2.2)
theorem rTexts_err : ∀ (n : Nat) (l : List UInt8), (rTexts n l).2.1 ≠ 0 → (rTexts n l).1 = [] ∧ (rTexts n l).2.2 = []
  | 0, l, h => by simp [rTexts] at h
  | n + 1, l, h => by
    unfold rTexts at h ⊢
    split
    · simp
    · rename_i h1
      split
      · simp
      · rename_i h2
        simp [h1, h2] at h
theorem preT_nil (n : Nat) (l : List UInt8) : preT [] (rTexts n l) = rTexts n l := by
  have := rTexts_err n l
  unfold preT
  rcases h : rTexts n l with ⟨a, e, r⟩
  rw [h] at this
  simp only at this ⊢
  by_cases h0 : e = 0
  · subst h0; simp
  · obtain ⟨rfl, rfl⟩ := this h0
    simp [h0]
theorem preT_bad (a : List (List UInt8)) (m : Nat) (l : List UInt8) (h : (rText l).2.1 ≠ 0) : preT a (rTexts (m + 1) l) = ([], (rText l).2.1, []) := by
  unfold preT rTexts
  simp [h]
theorem preT_step (a : List (List UInt8)) (m : Nat) (l : List UInt8) (h : (rText l).2.1 = 0) : preT a (rTexts (m + 1) l) = preT (a ++ [(rText l).1]) (rTexts m (rText l).2.2) := by
  unfold preT
  simp only [rTexts, h]
  by_cases h2 : (rTexts m (rText l).2.2).2.1 = 0
  · simp [h2]
  · simp [h2]
theorem preT_end (a : List (List UInt8)) (l : List UInt8) : preT a (rTexts 0 l) = (a, 0, l) := by simp [preT, rTexts]
end Go.Proofs.YtokkkjgdfnkjoaaDoor
