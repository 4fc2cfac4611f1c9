
/- Lines, plainly: which texts are lines; the text of lines; the lines of a text; where lines stand. -/
import Derived.Shelf.Spec.BytesIndexFunc
namespace Go.Proofs.YtcjiipmageddhaaDoor
set_option linter.unusedVariables false

/-- A rune that no line has (r, of n bytes). -/
def badRune (x : Nat × Nat) : Bool := (x.1 == 65533 && x.2 == 1) || (decide (x.1 < 32) && !(x.1 == 9))
def runesOk (s : ByteArray) : Nat → Nat → Bool
  | 0, _ => true
  | f + 1, i => if i < s.size then (if badRune (Utf8.decode s i) then false else runesOk s f (i + (Utf8.decode s i).2)) else true
/-- Are the runes from byte i on a line's? -/
def runes (s : ByteArray) (i : Nat) : Bool := runesOk s (s.size - i) i
theorem decode_pos (s : ByteArray) (i : Nat) : 1 ≤ (Utf8.decode s i).2 := by
  unfold Utf8.decode
  dsimp only
  repeat' split
  all_goals simp
theorem decode_le (s : ByteArray) (i : Nat) : (Utf8.decode s i).2 ≤ 4 := by
  unfold Utf8.decode
  dsimp only
  repeat' split
  all_goals simp
theorem decode_rune (s : ByteArray) (i : Nat) : (Utf8.decode s i).1 ≤ 2097151 := by
  unfold Utf8.decode
  dsimp only
  have h : ∀ k, (s.get! (i + k)).toNat < 256 := fun k => UInt8.toNat_lt _
  have h0 := h 0
  rw [Nat.add_zero] at h0
  have h1 := h 1
  have h2 := h 2
  have h3 := h 3
  repeat' split
  all_goals simp [Utf8.runeError]
  all_goals omega
theorem runesOk_fuel (s : ByteArray) : ∀ (f g i : Nat), s.size - i ≤ f → s.size - i ≤ g → runesOk s f i = runesOk s g i
  | 0, 0, _, _, _ => rfl
  | 0, g + 1, i, hf, _ => by simp [runesOk, show ¬ i < s.size by omega]
  | f + 1, 0, i, _, hg => by simp [runesOk, show ¬ i < s.size by omega]
  | f + 1, g + 1, i, hf, hg => by
    unfold runesOk
    by_cases h : i < s.size
    · have hp := decode_pos s i
      rw [if_pos h, if_pos h, runesOk_fuel s f g _ (by omega) (by omega)]
    · rw [if_neg h, if_neg h]
theorem runes_end {s : ByteArray} {i : Nat} (h : ¬ i < s.size) : runes s i = true := by
  unfold runes
  rw [show s.size - i = 0 by omega]; rfl
theorem runes_bad {s : ByteArray} {i : Nat} (h : i < s.size) (hb : badRune (Utf8.decode s i) = true) : runes s i = false := by
  unfold runes
  obtain ⟨f, hf⟩ : ∃ f, s.size - i = f + 1 := ⟨s.size - i - 1, by omega⟩
  rw [hf]
  unfold runesOk
  rw [if_pos h, if_pos hb]
theorem runes_good {s : ByteArray} {i : Nat} (h : i < s.size) (hb : badRune (Utf8.decode s i) = false) : runes s i = runes s (i + (Utf8.decode s i).2) := by
  have hp := decode_pos s i
  have e : runes s i = runesOk s ((s.size - i - 1) + 1) i := by unfold runes; congr 1; omega
  rw [e]
  unfold runesOk
  rw [if_pos h, if_neg (by rw [hb]; simp)]
  exact runesOk_fuel s _ _ _ (by omega) (by omega)
/-- Is a text a line? -/
def lineB (s : ByteArray) : Bool := decide (s.size ≤ 200) && runes s 0
/-- The error of lines that may not be a file's: 4, too many; 6, one is none; 0. -/
def checkN (ss : List ByteArray) : Int := if 2000 < ss.length then 4 else if ss.all lineB then 0 else 6
theorem checkN_big {ss : List ByteArray} (h : 2000 < ss.length) : checkN ss = 4 := by simp [checkN, h]
theorem checkN_bad {ss : List ByteArray} {k : Nat} (hn : ¬ 2000 < ss.length) (hk : k < ss.length) (h : lineB ss[k] = false) : checkN ss = 6 := by
  have : ss.all lineB = false := by
    rw [List.all_eq_false]
    exact ⟨ss[k], List.getElem_mem _, by rw [h]; simp⟩
  simp [checkN, hn, this]
theorem checkN_ok {ss : List ByteArray} (hn : ¬ 2000 < ss.length) (h : ∀ k (hk : k < ss.length), lineB ss[k] = true) : checkN ss = 0 := by
  have : ss.all lineB = true := by
    rw [List.all_eq_true]
    intro s hs
    obtain ⟨k, hk, rfl⟩ := List.getElem_of_mem hs
    exact h k hk
  simp [checkN, hn, this]
/-- The text of lines. -/
def textL (ls : List (List UInt8)) : List UInt8 := (ls.map fun l => l ++ [10]).flatten
theorem textL_snoc (ls : List (List UInt8)) (l : List UInt8) : textL (ls ++ [l]) = textL ls ++ l ++ [10] := by simp [textL]
/-- The lines of a text, and whether it ends so; 'cur' is what a line has so far. -/
def splitGo : List UInt8 → List UInt8 → List (List UInt8) × Bool
  | cur, [] => ([], cur.isEmpty)
  | cur, b :: r => if b = 10 then (cur :: (splitGo [] r).1, (splitGo [] r).2) else splitGo (cur ++ [b]) r
/-- Lines ahead of what is split yet. -/
def aheadS (ls : List (List UInt8)) (x : List (List UInt8) × Bool) : List (List UInt8) × Bool := (ls ++ x.1, x.2)
theorem splitGo_end (ls : List (List UInt8)) (cur r : List UInt8) : aheadS ls (splitGo cur (10 :: r)) = aheadS (ls ++ [cur]) (splitGo [] r) := by simp [splitGo, aheadS]
theorem splitGo_more (ls : List (List UInt8)) (cur r : List UInt8) (b : UInt8) (h : b ≠ 10) : aheadS ls (splitGo cur (b :: r)) = aheadS ls (splitGo (cur ++ [b]) r) := by simp [splitGo, h]
/-- Do lines stand at a place? -/
def atB (ls part : List (List UInt8)) (k : Int) : Bool := decide (0 ≤ k) && decide ((part.length : Int) ≤ ls.length - k) && decide ((ls.drop k.toNat).take part.length = part)
end Go.Proofs.YtcjiipmageddhaaDoor
