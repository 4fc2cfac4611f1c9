
/- Plain facts on the bytes of numbers, texts and lists (layer 1): lists and numbers alone, nothing of the program. -/
namespace Go.Proofs.YtokkkjgdfnkjoaaDoor

/-- A number's bytes, with fuel: seven bits a byte, the lowest first. -/
def numF : Nat → Nat → List UInt8
  | 0, n => [UInt8.ofNat n]
  | f + 1, n => if n < 128 then [UInt8.ofNat n] else UInt8.ofNat (128 + n % 128) :: numF f (n / 128)
def numB (n : Nat) : List UInt8 := numF 9 n

theorem numF_lt (f n : Nat) (h : n < 128) : numF f n = [UInt8.ofNat n] := by
  cases f with
  | zero => rfl
  | succ f => simp [numF, h]
theorem numF_ge (f n : Nat) (h : 128 ≤ n) : numF (f + 1) n = UInt8.ofNat (128 + n % 128) :: numF f (n / 128) := by
  simp [numF, Nat.not_lt.2 h]
theorem numF_len : ∀ (f n : Nat), (numF f n).length ≤ f + 1
  | 0, n => by simp [numF]
  | f + 1, n => by
    unfold numF
    split
    · simp
    · simp; exact numF_len f (n / 128)
theorem numB_len (n : Nat) : (numB n).length ≤ 10 := numF_len 9 n
theorem numF_pos (f n : Nat) : 0 < (numF f n).length := by
  cases f with
  | zero => simp [numF]
  | succ f => unfold numF; split <;> simp
/-- More fuel than is wanted changes nothing. -/
theorem numF_more : ∀ (f n : Nat), n < 128 ^ (f + 1) → numF (f + 1) n = numF f n
  | 0, n, h => by rw [numF_lt 1 n (by simpa using h), numF_lt 0 n (by simpa using h)]
  | f + 1, n, h => by
    by_cases hn : n < 128
    · rw [numF_lt _ n hn, numF_lt _ n hn]
    · rw [numF_ge _ n (by omega), numF_ge _ n (by omega), numF_more f (n / 128) (by rw [Nat.div_lt_iff_lt_mul (by omega)]; rw [Nat.pow_succ] at h; exact h)]
theorem div_pow (n f : Nat) (h : n < 128 ^ (f + 2)) : n / 128 < 128 ^ (f + 1) := by
  rw [Nat.div_lt_iff_lt_mul (by omega)]; rw [Nat.pow_succ] at h; exact h
theorem u64_pow (n : Nat) (h : n < 18446744073709551616) : n < 128 ^ (9 + 1) := by
  have : (128 : Nat) ^ (9 + 1) = 1180591620717411303424 := by decide
  omega
theorem toNat_lo (n : Nat) (h : n < 128) : ((UInt8.ofNat n).toNat : Int) = n := by
  simp [UInt8.toNat_ofNat']; omega
theorem toNat_hi (n : Nat) : ((UInt8.ofNat (128 + n % 128)).toNat : Int) = 128 + (n : Int) % 128 := by
  rw [UInt8.toNat_ofNat']; omega
/-- The list of a list's bytes. -/
def textB (s : List UInt8) : List UInt8 := numB s.length ++ s
def textsB : List (List UInt8) → List UInt8
  | [] => []
  | s :: l => textB s ++ textsB l
def listB (l : List (List UInt8)) : List UInt8 := numB l.length ++ textsB l
theorem textsB_append : ∀ (a b : List (List UInt8)), textsB (a ++ b) = textsB a ++ textsB b
  | [], b => rfl
  | x :: a, b => by simp [textsB, textsB_append a b]
theorem textsB_snoc (a : List (List UInt8)) (x : List UInt8) : textsB (a ++ [x]) = textsB a ++ textB x := by
  rw [textsB_append]; simp [textsB]
end Go.Proofs.YtokkkjgdfnkjoaaDoor
