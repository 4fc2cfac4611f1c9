
/- Lines go to a text and back. -/
import Derived.Test.YtokkkjgdfnkjoaaDoorLinePlain
namespace Go.Proofs.YtokkkjgdfnkjoaaDoor
set_option linter.unusedVariables false

theorem decode_cont (s : ByteArray) (i k : Nat) (h1 : 1 ≤ k) (h2 : k < (Utf8.decode s i).2) : (s.get! (i + k)).toNat / 64 = 2 := by
  revert h2
  unfold Utf8.decode
  dsimp only
  repeat' split
  all_goals intro h2
  all_goals (simp only at h2)
  all_goals try omega
  all_goals
    simp only [Bool.and_eq_true, beq_iff_eq] at *
    rcases (by omega : k = 1 ∨ k = 2 ∨ k = 3) with rfl | rfl | rfl <;> simp_all
theorem decode_ascii (s : ByteArray) (i : Nat) (h : (s.get! i).toNat < 128) : Utf8.decode s i = ((s.get! i).toNat, 1) := by
  unfold Utf8.decode
  dsimp only
  exact if_pos h
theorem get_bang (s : ByteArray) (i : Nat) (h : i < s.size) : s.get! i = s[i] := by
  simp [ByteArray.get!, getElem!_pos, h]
  rfl
theorem runes_no (s : ByteArray) (j : Nat) (hj : j < s.size) (h10 : s[j] = 10) : ∀ (f i : Nat), s.size - i ≤ f → i ≤ j → runes s i = false
  | 0, i, hf, hi => by omega
  | f + 1, i, hf, hi => by
    have hp := decode_pos s i
    have hlt : i < s.size := by omega
    cases hb : badRune (Utf8.decode s i) with
    | true => exact runes_bad hlt hb
    | false =>
      rw [runes_good hlt hb]
      by_cases he : i = j
      · subst he
        have hg : (s.get! i).toNat = 10 := by rw [get_bang s i hj, h10]; rfl
        rw [decode_ascii s i (by omega), hg] at hb
        simp [badRune] at hb
      · by_cases hin : j < i + (Utf8.decode s i).2
        · have hc := decode_cont s i (j - i) (by omega) (by omega)
          rw [show i + (j - i) = j by omega, get_bang s j hj, h10] at hc
          simp at hc
        · exact runes_no s j hj h10 f _ (by omega) (by omega)
theorem line_no10 {s : ByteArray} (h : lineB s = true) : (10 : UInt8) ∉ s.data.toList := by
  intro hm
  obtain ⟨j, hj, he⟩ := List.getElem_of_mem hm
  have hr : runes s 0 = true := by
    unfold lineB at h
    simp only [Bool.and_eq_true] at h
    exact h.2
  rw [runes_no s j (by simpa using hj) he s.size 0 (by omega) (by omega)] at hr
  cases hr
theorem splitGo_line : ∀ (l cur r : List UInt8), (10 : UInt8) ∉ l → splitGo cur (l ++ 10 :: r) = ((cur ++ l) :: (splitGo [] r).1, (splitGo [] r).2)
  | [], cur, r, _ => by simp [splitGo]
  | b :: l, cur, r, h => by
    have hb : b ≠ 10 := fun e => h (by simp [e])
    rw [List.cons_append, splitGo, if_neg hb, splitGo_line l _ r (fun hm => h (List.mem_cons_of_mem _ hm))]
    simp
theorem split_text : ∀ (ls : List (List UInt8)), (∀ l ∈ ls, (10 : UInt8) ∉ l) → splitGo [] (textL ls) = (ls, true)
  | [], _ => rfl
  | l :: ls, h => by
    have e : textL (l :: ls) = l ++ 10 :: textL ls := by simp [textL]
    rw [e, splitGo_line l [] _ (h l (by simp)), split_text ls fun x hx => h x (List.mem_cons_of_mem _ hx)]
    simp
/-- What is split at its line ends is their text again. -/
theorem text_split : ∀ (r cur : List UInt8), (splitGo cur r).2 = true → (10 : UInt8) ∉ cur → textL (splitGo cur r).1 = cur ++ r
  | [], cur, h, _ => by
    simp only [splitGo, List.isEmpty_iff] at h
    subst h
    rfl
  | b :: r, cur, h, hc => by
    unfold splitGo at h ⊢
    by_cases hb : b = 10
    · rw [if_pos hb] at h ⊢
      have := text_split r [] h (by simp)
      simp only [textL, List.map_cons, List.flatten_cons] at this ⊢
      rw [this, hb]
      simp
    · rw [if_neg hb] at h ⊢
      rw [text_split r (cur ++ [b]) h (by simp [hc]; exact fun e => hb e.symm)]
      simp
end Go.Proofs.YtokkkjgdfnkjoaaDoor
