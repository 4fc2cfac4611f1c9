
/- The reference's At of layer 3. -/
import Derived.Test.YtmffmhadimeplaaLinePlain
import Derived.Test.YtmffmhadimeplaaAppend
import Derived.BigQuiet
import Derived.Deep.QuietTactic
import Derived.Handy
namespace Go.Proofs.Ytmffmhadimeplaa
open Go.RowKit
set_option linter.unusedVariables false

theorem atB_no {ls part : List (List UInt8)} {a k : Nat} (hk : k < part.length) (ha : a + k < ls.length) (h : ls[a + k] ≠ part[k]) : atB ls part a = false := by
  have : ¬ ((ls.drop a).take part.length = part) := by
    intro e
    have h1 := congrArg (·[k]?) e
    simp only [List.getElem?_take, if_pos hk, List.getElem?_drop, List.getElem?_eq_getElem ha, List.getElem?_eq_getElem hk, Option.some.injEq] at h1
    exact h h1
  simp [atB, this]
theorem atB_yes {ls part : List (List UInt8)} {a : Nat} (hl : a + part.length ≤ ls.length) (h : ∀ k (hk : k < part.length), ls[a + k]'(by omega) = part[k]) : atB ls part a = true := by
  have : (ls.drop a).take part.length = part := by
    apply List.ext_getElem
    · simp; omega
    · intro k h1 h2
      simp only [List.getElem_take, List.getElem_drop]
      exact h k h2
  simp [atB, this]
  omega

set_option maxRecDepth 100000 in
theorem refat_any (A A2 : Option Addr) (la lc : List (List UInt8)) (cap cap2 : Nat) (n : Int) (w : World) (hs : Strs w w.heap.size A (toBs la)) (ht : Strs w w.heap.size A2 (toBs lc)) (hn : la.length ≤ 1000000) (hn2 : lc.length ≤ 1000000) (h1 : -9223372036854775808 ≤ n) (h2 : n ≤ 9223372036854775807) :
    Calls Try.prog 31 #[.slice A la.length cap, .slice A2 lc.length cap2, .int .i64 n] w fun e w' => e = .returned (.bool (atB la lc n)) ∧ Below w.heap.size w w' := by
  by_cases hneg : n < 0
  · have hr : atB la lc n = false := by simp [atB]; omega
    rw [hr]
    clear hs ht
    go_enter Try.func31, Try.ntmps31
    go_wp2
    go_ret
    exact ⟨rfl, Below.refl _ _⟩
  · by_cases hbig : (la.length : Int) - n < lc.length
    · have hr : atB la lc n = false := by simp [atB]; omega
      rw [hr]
      clear hs ht
      go_enter Try.func31, Try.ntmps31
      go_wp2
      go_ret
      exact ⟨rfl, Below.refl _ _⟩
    · obtain ⟨a, rfl⟩ : ∃ a : Nat, n = (a : Int) := ⟨n.toNat, by omega⟩
      have hal : a + lc.length ≤ la.length := by omega
      have HS := Lib.hid hs
      have HT := Lib.hid ht
      clear hs ht
      go_enter Try.func31, Try.ntmps31
      go_wp2
      go_loopw [7] (fun i wr => ∃ k : Nat, k ≤ lc.length ∧ i = .int .i64 (k : Int) ∧ Hid (∀ j (hj : j < lc.length), j < k → la[a + j]'(by omega) = lc[j]) ∧ Below w.heap.size w wr) (fun i _ => lc.length - (intOf i).toNat)
      case atStart => exact ⟨0, Nat.zero_le _, rfl, fun j _ h => absurd h (by omega), Below.refl _ _⟩
      case round =>
        obtain ⟨k, hk, rfl, hall, hb⟩ := hrel
        by_cases hlt : k < lc.length
        · obtain ⟨g, off, rfl, hg, hc⟩ := (HS.out.below hb).at_ (k := a + k) (by rw [toBs_len]; omega)
          obtain ⟨g2, off2, rfl, hg2, hc2⟩ := (HT.out.below hb).at_ (k := k) (by rw [toBs_len]; omega)
          have e1 : (toBs la)[a + k]'(by rw [toBs_len]; omega) = toB (la[a + k]'(by omega)) := by simp [toBs]
          have e2 : (toBs lc)[k]'(by rw [toBs_len]; omega) = toB lc[k] := by simp [toBs]
          rw [e1] at hc
          rw [e2] at hc2
          have c1 : ((a : Int) + (k : Int)) < (la.length : Int) := by omega
          have c2 : 0 ≤ (a : Int) + (k : Int) := by omega
          by_cases he : la[a + k]'(by omega) = lc[k]
          · have hall2 : Hid (∀ j (hj : j < lc.length), j < k + 1 → la[a + j]'(by omega) = lc[j]) := by
              intro j hj hjk
              by_cases h : j = k
              · subst h; exact he
              · exact hall.out j hj (by omega)
            rw [he] at hc
            generalize toB lc[k] = t at *
            clear hall he e1 e2
            go_wp2
            go_quiet (fail)
            go_wp2
            go_roundw
            case rel => exact ⟨k + 1, by omega, by go_num, hall2, below_drewN hb _⟩
            case measure => simp [intOf]; omega
          · have hno : Hid (atB la lc a = false) := atB_no hlt (by omega) he
            have hne : ((toB (la[a + k]'(by omega))).toList == (toB lc[k]).toList) = false := by
              rw [beq_eq_false_iff_ne, toList_eq, toList_eq, of_toB, of_toB]
              exact he
            generalize toB lc[k] = t at *
            generalize toB (la[a + k]'(by omega)) = t2 at *
            clear hall he e1 e2
            go_wp2
            go_quiet (fail)
            go_wp2
            go_ret
            rw [hno.out]
            exact ⟨rfl, below_drewN hb _⟩
        · have hk2 : k = lc.length := by omega
          subst hk2
          have hyes : Hid (atB la lc a = true) := atB_yes hal fun j hj => hall.out j hj hj
          clear hall
          go_wp2
          go_ret
          rw [hyes.out]
          exact ⟨rfl, hb⟩
end Go.Proofs.Ytmffmhadimeplaa
