
/- What a reader reads was laid so, in one way alone. -/
import Derived.Test.YtokkkjgdfnkjoaaDoorReadPlain
namespace Go.Proofs.YtokkkjgdfnkjoaaDoor
set_option linter.unusedVariables false

theorem valR_lt : ∀ (l : List UInt8) (n v : Nat), valR l n = some v → n < 18446744073709551616 → v < 18446744073709551616
  | [], n, v, h, hn => by simp [valR] at h; omega
  | b :: l, n, v, h, hn => by
    unfold valR at h
    split at h
    · exact valR_lt l _ v h (by have : b.toNat % 128 < 128 := Nat.mod_lt _ (by omega); omega)
    · cases h
theorem numEnd_cons {b c : UInt8} {m : List UInt8} (h : numEnd (b :: c :: m) = some (b :: c :: m).length) : 128 ≤ b.toNat ∧ numEnd (c :: m) = some (c :: m).length := by
  unfold numEnd at h
  split at h
  · simp at h
  · rw [Option.map_eq_some_iff] at h
    obtain ⟨e, he, h2⟩ := h
    refine ⟨by omega, ?_⟩
    rw [he]
    simp at h2 ⊢
    omega
theorem valR_cons {b : UInt8} {m : List UInt8} {n : Nat} (h : valR (b :: m).reverse 0 = some n) : ∃ v, valR m.reverse 0 = some v ∧ n = v * 128 + b.toNat % 128 := by
  rw [List.reverse_cons, valR_snoc, Option.bind_eq_some_iff] at h
  obtain ⟨v, hv, h2⟩ := h
  refine ⟨v, hv, ?_⟩
  unfold valR at h2
  split at h2
  · simp [valR] at h2; omega
  · cases h2
theorem u8_of (b : UInt8) (k : Nat) (h : b.toNat = k) : UInt8.ofNat k = b := by subst h; simp
theorem numF_back : ∀ (m : List UInt8) (n f : Nat), m ≠ [] → numEnd m = some m.length → (1 < m.length → m.getLast? ≠ some 0) → valR m.reverse 0 = some n → m.length ≤ f + 1 →
    numF f n = m ∧ (m.getLast? ≠ some 0 → 128 ^ (m.length - 1) ≤ n)
  | [], _, _, h, _, _, _, _ => absurd rfl h
  | [b], n, f, _, he, _, hv, hf => by
    have hb : b.toNat < 128 := by
      unfold numEnd at he
      split at he
      · assumption
      · simp [numEnd] at he
    have hn : n = b.toNat := by simp [valR] at hv; omega
    subst hn
    refine ⟨by rw [numF_lt f _ hb, u8_of b _ rfl], fun h => ?_⟩
    simp only [List.length_singleton, Nat.sub_self, Nat.pow_zero]
    have : b.toNat ≠ 0 := fun e => h (by have : b = 0 := UInt8.toNat_inj.1 (by simpa using e); rw [this]; rfl)
    omega
  | b :: c :: m, n, f, _, he, hl, hv, hf => by
    obtain ⟨hb, he2⟩ := numEnd_cons he
    obtain ⟨v, hv2, hn⟩ := valR_cons hv
    have hlast : (c :: m).getLast? ≠ some 0 := by
      have := hl (by simp)
      rwa [List.getLast?_cons_cons] at this
    obtain ⟨g, rfl⟩ : ∃ g, f = g + 1 := ⟨f - 1, by simp at hf; omega⟩
    obtain ⟨h1, h2⟩ := numF_back (c :: m) v g (by simp) he2 (fun _ => hlast) hv2 (by simp at hf ⊢; omega)
    have hp := h2 hlast
    have hpos : 1 ≤ 128 ^ ((c :: m).length - 1) := Nat.one_le_pow _ _ (by omega)
    have hmod : b.toNat % 128 < 128 := Nat.mod_lt _ (by omega)
    have hb2 : b.toNat < 256 := UInt8.toNat_lt b
    refine ⟨?_, fun _ => ?_⟩
    · rw [numF_ge g n (by omega), show n / 128 = v by omega, h1, show 128 + n % 128 = b.toNat by omega, u8_of b _ rfl]
    · rw [hn, show (b :: c :: m).length - 1 = ((c :: m).length - 1) + 1 by simp, Nat.pow_succ]
      have := Nat.mul_le_mul_right 128 hp
      omega
theorem numEnd_take : ∀ (l : List UInt8) (e : Nat), numEnd l = some e → numEnd (l.take e) = some e
  | [], e, h => by simp [numEnd] at h
  | b :: l, e, h => by
    have hp := numEnd_pos _ _ h
    obtain ⟨e', rfl⟩ : ∃ e', e = e' + 1 := ⟨e - 1, by omega⟩
    unfold numEnd at h
    split at h
    · rename_i hb
      simp at h; subst h
      simp [numEnd, hb]
    · rename_i hb
      rw [Option.map_eq_some_iff] at h
      obtain ⟨x, hx, h2⟩ := h
      obtain rfl : x = e' := by omega
      rw [List.take_succ_cons]
      unfold numEnd
      rw [if_neg hb, numEnd_take l x hx]
      rfl
theorem rNum_back {l r : List UInt8} {n : Nat} (h : rNum l = (n, 0, r)) : l = numB n ++ r ∧ n < 18446744073709551616 := by
  unfold rNum at h
  cases he : numEnd l with
  | none => rw [he] at h; simp at h
  | some e =>
    rw [he] at h
    simp only at h
    cases hv : numVal (l.take e) with
    | none => rw [hv] at h; simp at h
    | some v =>
      rw [hv] at h
      simp only [Prod.mk.injEq, true_and] at h
      obtain ⟨rfl, rfl⟩ := h
      have hp := numEnd_pos _ _ he
      have hlen : (l.take e).length = e := by rw [List.length_take]; omega
      have ht := numEnd_take l e he
      unfold numVal at hv
      split at hv
      · cases hv
      · rename_i hc
        have hlast : 1 < (l.take e).length → (l.take e).getLast? ≠ some 0 := fun h1 h2 => hc ⟨h1, h2⟩
        have hlt := valR_lt _ _ _ hv (by omega)
        have hne : l.take e ≠ [] := by intro h0; rw [h0] at hlen; simp at hlen; omega
        have h10 : (l.take e).length ≤ 10 := by
          rcases Nat.lt_or_ge 10 (l.take e).length with h1 | h1
          · have h2 := (numF_back (l.take e) v ((l.take e).length) hne (by rw [hlen]; exact ht) hlast hv (by omega)).2 (hlast (by omega))
            have h3 : 128 ^ 10 ≤ 128 ^ ((l.take e).length - 1) := Nat.pow_le_pow_right (by omega) (by omega)
            have h4 : (18446744073709551616 : Nat) < 128 ^ 10 := by decide
            omega
          · exact h1
        have hb := (numF_back (l.take e) v 9 hne (by rw [hlen]; exact ht) hlast hv (by omega)).1
        refine ⟨?_, hlt⟩
        unfold numB
        rw [hb, List.take_append_drop]
theorem rCount_back {l r : List UInt8} {n : Nat} (h : rCount l = (n, 0, r)) : l = numB n ++ r ∧ n ≤ r.length := by
  unfold rCount at h
  split at h
  · rename_i h0
    simp only [Prod.mk.injEq] at h
    exact absurd h.2.1 h0
  · split at h
    · simp at h
    · rename_i h0 h1
      rw [h] at h1
      exact ⟨(rNum_back h).1, by simp at h1; exact h1⟩
theorem rText_back {l s r : List UInt8} (h : rText l = (s, 0, r)) : l = textB s ++ r := by
  unfold rText at h
  split at h
  · rename_i h0
    simp only [Prod.mk.injEq] at h
    exact absurd h.2.1 h0
  · rename_i h0
    rcases hc : rCount l with ⟨n, e, x⟩
    rw [hc] at h h0
    simp only [ne_eq, Decidable.not_not] at h0
    subst h0
    simp only [Prod.mk.injEq, true_and] at h
    obtain ⟨rfl, rfl⟩ := h
    obtain ⟨h1, h2⟩ := rCount_back hc
    unfold textB
    rw [List.length_take, Nat.min_eq_left h2, h1, List.append_assoc, List.take_append_drop]
theorem rTexts_back : ∀ (n : Nat) {l : List UInt8} {ls : List (List UInt8)} {r : List UInt8}, rTexts n l = (ls, 0, r) → l = textsB ls ++ r ∧ ls.length = n
  | 0, l, ls, r, h => by
    simp only [rTexts, Prod.mk.injEq, true_and] at h
    obtain ⟨rfl, rfl⟩ := h
    simp [textsB]
  | n + 1, l, ls, r, h => by
    unfold rTexts at h
    split at h
    · rename_i h0
      simp only [Prod.mk.injEq] at h
      exact absurd h.2.1 h0
    · rename_i h0
      split at h
      · rename_i h1
        simp only [Prod.mk.injEq] at h
        exact absurd h.2.1 h1
      · rename_i h1
        rcases hc : rText l with ⟨s, e, x⟩
        rw [hc] at h h0 h1
        simp only [ne_eq, Decidable.not_not] at h0 h1
        subst h0
        rcases hd : rTexts n x with ⟨ts, e2, y⟩
        rw [hd] at h h1
        simp only at h h1
        subst h1
        simp only [Prod.mk.injEq, true_and] at h
        obtain ⟨rfl, rfl⟩ := h
        obtain ⟨h2, h3⟩ := rTexts_back n hd
        have h4 := rText_back hc
        refine ⟨?_, by simp [h3]⟩
        rw [h4, h2]
        simp [textsB]
theorem rList_back {l : List UInt8} {ls : List (List UInt8)} {r : List UInt8} (h : rList l = (ls, 0, r)) : l = listB ls ++ r := by
  unfold rList at h
  split at h
  · rename_i h0
    simp only [Prod.mk.injEq] at h
    exact absurd h.2.1 h0
  · rename_i h0
    rcases hc : rCount l with ⟨n, e, x⟩
    rw [hc] at h h0
    simp only [ne_eq, Decidable.not_not] at h0
    subst h0
    obtain ⟨h1, h2⟩ := rTexts_back n h
    obtain ⟨h3, _⟩ := rCount_back hc
    simp only at h1
    unfold listB
    rw [h3, h2, h1, List.append_assoc]
end Go.Proofs.YtokkkjgdfnkjoaaDoor
