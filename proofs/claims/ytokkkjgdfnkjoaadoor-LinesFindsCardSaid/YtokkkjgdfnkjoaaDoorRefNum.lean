
/- The reference's Num answers a number's bytes; new blocks alone are made. -/
import Derived.Test.YtokkkjgdfnkjoaaDoorCodeNum
import Derived.BigRegion
import Derived.Deep.RegionWith
namespace Go.Proofs.YtokkkjgdfnkjoaaDoor
open Go.RowKit
set_option linter.unusedVariables false

/-- One byte in a block, as a string. -/
theorem one_string (w : World) (g : Nat) (x : Int) (hx : w.cell? ⟨g, 0, none⟩ = some (.int .u8 x)) (h0 : 0 ≤ x) (h1 : x ≤ 255) :
    (convert 43 9 (.slice (some ⟨g, 0, none⟩) 1 1)).run Tryd.prog w = .ok (.string ⟨#[UInt8.ofNat x.toNat]⟩) w := by
  refine run_convert_bytes_back w _ _ _ _ 1 [UInt8.ofNat x.toNat] Tryd.underlying43 Tryd.underlying5 Tryd.underlying9 fun j hj => ?_
  obtain rfl : j = 0 := by simp at hj; omega
  rw [show (⟨g, 0, none⟩ : Addr).add 0 = ⟨g, 0, none⟩ from rfl, hx]
  simp [UInt8.toNat_ofNat']
  omega

theorem bytes_cons (b : UInt8) (l : List UInt8) : (⟨#[b]⟩ ++ ⟨l.toArray⟩ : ByteArray) = ⟨(b :: l).toArray⟩ := by
  apply ByteArray.ext
  simp

set_option maxRecDepth 100000 in
theorem refnum_small (n : Int) (w : World) (h0 : 0 ≤ n) (h1 : n < 128) :
    Calls Tryd.prog 33 #[.int .u64 n] w fun e w' => e = .returned (.string ⟨#[UInt8.ofNat n.toNat]⟩) ∧ Below w.heap.size w w' := by
  have hs := one_string (w.alloc (.cells #[.int .u8 n] 5)) w.heap.size n (by simp) h0 (by omega)
  go_enter Tryd.func33, Tryd.ntmps33
  go_wp2
  go_ret
  exact ⟨rfl, (Below.refl _ _).alloc (Nat.le_refl _) _⟩

set_option maxRecDepth 100000 in
theorem refnum_big (f : Nat) (ih : ∀ (n : Int) (w : World), 0 ≤ n → Hid (n ≤ 18446744073709551615) → Hid (n.toNat < 128 ^ (f + 1)) → Calls Tryd.prog 33 #[.int .u64 n] w fun e w' => e = .returned (.string ⟨(numF f n.toNat).toArray⟩) ∧ Below w.heap.size w w')
    (n : Int) (w : World) (hf : f ≤ 20) (h0 : 128 ≤ n) (hm : Hid (n ≤ 18446744073709551615)) (h1 : Hid (n.toNat < 128 ^ (f + 2))) :
    Calls Tryd.prog 33 #[.int .u64 n] w fun e w' => e = .returned (.string ⟨(numF (f + 1) n.toNat).toArray⟩) ∧ Below w.heap.size w w' := by
  have IH := Lib.hid ih
  clear ih
  have h2 : Hid ((n / 128).toNat < 128 ^ (f + 1)) := by
    have := div_pow n.toNat f h1.out
    have e : (n / 128).toNat = n.toNat / 128 := by omega
    show _ < _
    rw [e]; exact this
  have e1 : n.tmod 128 = n % 128 := Int.tmod_eq_emod_of_nonneg (by omega)
  have e2 : n.tdiv 128 = n / 128 := Int.tdiv_eq_ediv_of_nonneg (by omega)
  have e3 : IntKind.u64.wrap (128 + n % 128) = 128 + n % 128 := IntWalk.u64_in _ ⟨by omega, by omega⟩
  have e4 : IntKind.u8.wrap (128 + n % 128) = 128 + n % 128 := IntWalk.u8_in _ ⟨by omega, by omega⟩
  have e5 : IntKind.u64.wrap (n / 128) = n / 128 := IntWalk.u64_in _ ⟨by omega, by have := hm.out; omega⟩
  obtain ⟨b, hs, hbl⟩ : ∃ b : UInt8, (∀ (W : World) (g : Nat), W.cell? ⟨g, 0, none⟩ = some (.int .u8 (128 + n % 128)) → (convert 43 9 (.slice (some ⟨g, 0, none⟩) 1 1)).run Tryd.prog W = .ok (.string ⟨#[b]⟩) W) ∧
      Hid (numF (f + 1) n.toNat = b :: numF f (n / 128).toNat) :=
    ⟨UInt8.ofNat (128 + n % 128).toNat, fun W g h => one_string W g (128 + n % 128) h (by omega) (by omega), by
      show _ = _
      rw [numF_ge f n.toNat (by omega), show (n / 128).toNat = n.toNat / 128 from by omega, show (128 + n % 128).toNat = 128 + n.toNat % 128 from by omega]⟩
  have hq : 0 ≤ n / 128 := by omega
  have hm2 : Hid (n / 128 ≤ 18446744073709551615) := by
    have := hm.out
    show _ ≤ _
    omega
  have hlen := numF_len f (n / 128).toNat
  have IH2 : ∀ (W : World), Calls Tryd.prog 33 #[.int .u64 (n / 128)] W fun e w' => e = .returned (.string ⟨(numF f (n / 128).toNat).toArray⟩) ∧ Below W.heap.size W w' := fun W => IH.out _ W hq hm2 h2
  generalize numF f (n / 128).toNat = l at hlen hbl IH2
  have IH3 := Lib.hid IH2
  clear IH IH2
  go_enter Tryd.func33, Tryd.ntmps33
  go_wp2
  go_region_with (go_at_call 33; refine (IH3.out _).mono ?_; rintro e w1 ⟨rfl, hb⟩; have hc1 := @Below.cell _ _ _ hb ⟨w.heap.size, 0, none⟩)
  all_goals
    clear hc1
    have hb2 : Below w.heap.size w w1 := by
      first
        | exact ((Below.refl _ w).alloc (Nat.le_refl _) _).drew.trans (hb.mono (by simp))
        | exact (Below.refl _ w).drew.trans (hb.mono (by simp))
    have hsz := hb2.size
    go_wp2
    go_ret
    rw [hbl.out]
    refine ⟨by rw [bytes_cons]; rfl, ?_⟩
    first
      | exact hb2
      | exact hb2.alloc hsz _
theorem refnum_f : ∀ (f : Nat) (n : Int) (w : World), f ≤ 20 → 0 ≤ n → Hid (n ≤ 18446744073709551615) → Hid (n.toNat < 128 ^ (f + 1)) →
    Calls Tryd.prog 33 #[.int .u64 n] w fun e w' => e = .returned (.string ⟨(numF f n.toNat).toArray⟩) ∧ Below w.heap.size w w'
  | 0, n, w, _, h0, _, h => by
    have hl : n < 128 := by have := h.out; simp at this; omega
    rw [numF_lt 0 n.toNat (by omega)]
    exact refnum_small n w h0 hl
  | f + 1, n, w, hf, h0, hm, h => by
    by_cases hl : n < 128
    · rw [numF_lt _ n.toNat (by omega)]
      exact refnum_small n w h0 hl
    · exact refnum_big f (fun n w a c b => refnum_f f n w (by omega) a c b) n w (by omega) (by omega) hm h

theorem refnum_any (n : Int) (w : World) (h0 : 0 ≤ n) (h1 : n ≤ 18446744073709551615) :
    Calls Tryd.prog 33 #[.int .u64 n] w fun e w' => e = .returned (.string ⟨(numB n.toNat).toArray⟩) ∧ Below w.heap.size w w' :=
  refnum_f 9 n w (by omega) h0 h1 (u64_pow _ (by omega))
end Go.Proofs.YtokkkjgdfnkjoaaDoor
