
/- package code's Reader: contracts of all its calls. -/
import Derived.Test.YtokkkjgdfnkjoaaDoorReadPlain
import Derived.Test.YtokkkjgdfnkjoaaDoorMem
import Derived.Test.YtokkkjgdfnkjoaaDoorCodeNum
import Derived.BigQuiet
import Derived.Deep.QuietTactic
namespace Go.Proofs.YtokkkjgdfnkjoaaDoor
open Go.RowKit
set_option linter.unusedVariables false

theorem size_of_mk (l : List UInt8) : (⟨l.toArray⟩ : ByteArray).size = l.length := by simp [ByteArray.size]
theorem byte_at (s : ByteArray) (k : Nat) (h : k < s.size) : s.data.toList[k]'(by simpa using h) = s[k] := rfl
/-- The end of a number, as an int: -1, if there is none. -/
def endInt (o : Option Nat) : Int := match o with | none => -1 | some e => (e : Int)

set_option maxRecDepth 100000 in
theorem numberEnd_any (s : ByteArray) (w : World) (hs : s.size ≤ 9223372036854775807) :
    Calls Tryd.prog 55 #[.string s] w fun e w' => e = .returned (.int .i64 (endInt (numEnd s.data.toList))) ∧ w = w' := by
  go_enter Tryd.func55, Tryd.ntmps55
  go_wp2
  go_loop [6] (fun i => ∃ k : Nat, k ≤ s.size ∧ i = .int .i64 (k : Int) ∧ Hid (∀ j (hj : j < s.data.toList.length), j < k → ¬ s.data.toList[j].toNat < 128)) (fun i => s.size - (intOf i).toNat)
  case atStart => exact ⟨0, Nat.zero_le _, rfl, fun j _ h => absurd h (by omega)⟩
  case round =>
    obtain ⟨k, hk, rfl, hall⟩ := hrel
    by_cases hlt : k < s.size
    · have hkl : k < s.data.toList.length := by simpa using hlt
      by_cases hb : s[k].toNat < 128
      · have hfin : Hid (numEnd s.data.toList = some (k + 1)) := numEnd_hit _ k hkl hb hall.out
        clear hall
        go_wp2
        go_ret
        rw [hfin.out]
        exact ⟨by simp [endInt], rfl⟩
      · have hall2 : Hid (∀ j (hj : j < s.data.toList.length), j < k + 1 → ¬ s.data.toList[j].toNat < 128) := by
          intro j hj hjk
          by_cases he : j = k
          · subst he; exact hb
          · exact hall.out j hj (by omega)
        clear hall
        go_wp2
        go_round
        case rel => exact ⟨k + 1, by omega, by go_num, hall2⟩
        case measure => simp [intOf]; omega
    · have hk2 : k = s.size := by omega
      subst hk2
      have hfin : Hid (numEnd s.data.toList = none) := numEnd_miss _ fun j hj => hall.out j hj (by simpa using hj)
      clear hall
      go_wp2
      go_ret
      rw [hfin.out]
      exact ⟨rfl, rfl⟩

theorem or7 (n b : Nat) (hn : n < 144115188075855872) : bits .or .u64 ((n : Int) * 128) ((b : Int) % 128) = ((n * 128 + b % 128 : Nat) : Int) := by
  have e1 : ((n : Int) * 128) = ((n * 128 : Nat) : Int) := by omega
  have e2 : ((b : Int) % 128) = ((b % 128 : Nat) : Int) := by omega
  rw [e1, e2, u64_or_nat _ _ (by omega) (by omega)]
  congr 1
  have h := Nat.two_pow_add_eq_or_of_lt (i := 7) (b := b % 128) (by omega) n
  have e3 : 2 ^ 7 * n = n * 128 := by omega
  rw [e3] at h
  exact h.symm
theorem take_rev (l : List UInt8) (j : Nat) (h : j < l.length) : (l.take (j + 1)).reverse = l[j] :: (l.take j).reverse := by
  rw [List.take_succ_eq_append_getElem h]; simp
def pair (o : Option Nat) : Value := match o with | none => .tuple #[.int .u64 0, .bool false] | some n => .tuple #[.int .u64 (n : Int), .bool true]
def Lt57 (n : Nat) : Prop := n < 144115188075855872

set_option maxRecDepth 100000 in
theorem number_any (s : ByteArray) (w : World) (hs : s.size ≤ 9223372036854775807) :
    Calls Tryd.prog 56 #[.string s] w fun e w' => e = .returned (pair (numVal s.data.toList)) ∧ w = w' := by
  have hlen : s.data.toList.length = s.size := by simp
  by_cases h1 : 1 < s.size ∧ s.data.toList.getLast? = some 0
  · obtain ⟨h1, h2⟩ := h1
    have hfin : Hid (numVal s.data.toList = none) := by
      show _ = _
      unfold numVal
      rw [if_pos ⟨by omega, h2⟩]
    have h3 : ((s[s.size - 1].toNat : Int) == 0) = true := by
      rw [List.getLast?_eq_getElem?, hlen, List.getElem?_eq_getElem (by omega)] at h2
      simp only [Option.some.injEq] at h2
      have : s[s.size - 1] = 0 := h2
      rw [this]; rfl
    clear h2
    have HL := Lib.hid hlen
    go_enter Tryd.func56, Tryd.ntmps56
    go_wp2
    go_ret2
    rw [hfin.out]
    exact ⟨rfl, rfl⟩
  · have hfin : Hid (numVal s.data.toList = valR s.data.toList.reverse 0) := by
      show _ = _
      unfold numVal
      rw [if_neg (by rw [hlen]; exact h1)]
    have h4 : s.size ≤ 1 ∨ (∃ h : 1 < s.size, ((s[s.size - 1].toNat : Int) == 0) = false) := by
      rcases Nat.lt_or_ge 1 s.size with h | h
      · right
        refine ⟨h, ?_⟩
        rw [beq_eq_false_iff_ne]
        intro h0
        apply h1
        refine ⟨h, ?_⟩
        rw [List.getLast?_eq_getElem?, hlen, List.getElem?_eq_getElem (by omega)]
        simp only [Option.some.injEq]
        have h5 : s[s.size - 1].toNat = 0 := by omega
        have h6 : s[s.size - 1] = 0 := by apply UInt8.toNat_inj.1; simpa using h5
        exact h6
      · exact .inl h
    clear h1
    rcases h4 with h4 | ⟨h4, h5⟩
    all_goals
      go_enter Tryd.func56, Tryd.ntmps56
      go_wp2
      go_loop [4, 5] (fun x i => ∃ k n : Nat, k ≤ s.size ∧ i = .int .i64 ((k : Int) - 1) ∧ x = .int .u64 (n : Int) ∧ Hid (valR s.data.toList.reverse 0 = valR (s.data.toList.take k).reverse n)) (fun _ i => (intOf i + 1).toNat)
      case atStart => exact ⟨s.size, 0, Nat.le_refl _, rfl, rfl, by rw [List.take_of_length_le (by omega)]; rfl⟩
      case round =>
        obtain ⟨k, n, hk, rfl, rfl, hv⟩ := hrel
        by_cases hk0 : k = 0
        · subst hk0
          go_wp2
          go_ret2
          rw [hfin.out, hv.out]
          simp [valR, pair]
        · obtain ⟨j, rfl⟩ : ∃ j, k = j + 1 := ⟨k - 1, by omega⟩
          have ej : (((j + 1 : Nat) : Int) - 1) = (j : Int) := by omega
          rw [ej]
          have hr := take_rev s.data.toList j (by omega)
          have hjs : j < s.size := by omega
          by_cases h57 : n < 144115188075855872
          · have hv2 : Hid (valR s.data.toList.reverse 0 = valR (s.data.toList.take j).reverse (n * 128 + s[j].toNat % 128)) := by
              show _ = _
              rw [hv.out, hr, valR, if_pos h57]
              rfl
            have ho := or7 n s[j].toNat h57
            have HO := Lib.hid ho
            clear hr hv ho
            go_wp2
            go_round
            case rel => exact ⟨j, n * 128 + s[j].toNat % 128, by omega, rfl, by rw [HO.out], hv2⟩
            case measure => simp [intOf]
          · have hv2 : Hid (valR s.data.toList.reverse 0 = none) := by
              show _ = _
              rw [hv.out, hr, valR, if_neg h57]
            clear hr hv
            go_wp2
            go_ret2
            rw [hfin.out, hv2.out]
            exact ⟨rfl, rfl⟩
end Go.Proofs.YtokkkjgdfnkjoaaDoor
