
/- Package diff's begin and end: how much two lists begin alike, and end alike. -/
import Derived.Test.YtmffmhadimeplaaDiffLong
import Derived.Test.YtmffmhadimeplaaStr
import Derived.BigQuiet
import Derived.Deep.QuietTactic
import Derived.Handy
namespace Go.Proofs.Ytmffmhadimeplaa
open Go.RowKit
set_option linter.unusedVariables false

theorem pre_spec {α : Type} [DecidableEq α] : ∀ (a b : List α) (k : Nat), k ≤ a.length → k ≤ b.length → (∀ j (h : j < a.length) (h' : j < b.length), j < k → a[j] = b[j]) → (∀ (h : k < a.length) (h' : k < b.length), a[k] ≠ b[k]) → pre a b = k
  | [], b, k, h1, _, _, _ => by simp at h1; simp [pre, h1]
  | x :: a, [], k, _, h2, _, _ => by simp at h2; simp [pre, h2]
  | x :: a, y :: b, 0, _, _, _, he => by
    have := he (by simp) (by simp)
    simp only [List.getElem_cons_zero] at this
    simp [pre, this]
  | x :: a, y :: b, k + 1, h1, h2, ha, he => by
    have h0 := ha 0 (by simp) (by simp) (by omega)
    simp only [List.getElem_cons_zero] at h0
    have ih := pre_spec a b k (by simpa using h1) (by simpa using h2) (fun j h h' hk => by
      have := ha (j + 1) (by simpa using h) (by simpa using h') (by omega)
      simpa using this) (fun h h' => by
      have := he (by simpa using h) (by simpa using h')
      simpa using this)
    simp [pre, h0, ih]
theorem suf_spec {α : Type} [DecidableEq α] (a b : List α) (k : Nat) (h1 : k ≤ a.length) (h2 : k ≤ b.length) (ha : ∀ j (h : j < a.length) (h' : j < b.length), j < k → a[a.length - 1 - j] = b[b.length - 1 - j]) (he : ∀ (h : k < a.length) (h' : k < b.length), a[a.length - 1 - k] ≠ b[b.length - 1 - k]) : suf a b = k := by
  unfold suf
  refine pre_spec _ _ k (by simpa using h1) (by simpa using h2) (fun j h h' hk => ?_) (fun h h' => ?_)
  · rw [List.getElem_reverse, List.getElem_reverse]
    exact ha j (by simpa using h) (by simpa using h') hk
  · rw [List.getElem_reverse, List.getElem_reverse]
    exact he (by simpa using h) (by simpa using h')

set_option maxRecDepth 100000 in
theorem begin_q (A A2 : Option Addr) (la lc : List (List UInt8)) (cap cap2 : Nat) (w : World) (hs : Strs w w.heap.size A (toBs la)) (ht : Strs w w.heap.size A2 (toBs lc)) (hn : la.length ≤ 1000000) (hn2 : lc.length ≤ 1000000) :
    Calls Try.prog 27 #[.slice A la.length cap, .slice A2 lc.length cap2] w fun e w' => e = .returned (.int .i64 (pre la lc : Int)) ∧ ∃ q, w' = w.drewN q := by
  have HS := Lib.hid hs
  have HT := Lib.hid ht
  clear hs ht
  go_enter Try.func27, Try.ntmps27
  go_wp2
  go_loopw [13] (fun i wr => ∃ k : Nat, k ≤ la.length ∧ k ≤ lc.length ∧ i = .int .i64 (k : Int) ∧ Hid (∀ j (hj : j < la.length) (hj2 : j < lc.length), j < k → la[j] = lc[j]) ∧ ∃ q, wr = w.drewN q) (fun i _ => la.length - (intOf i).toNat)
  case atStart => exact ⟨0, Nat.zero_le _, Nat.zero_le _, rfl, fun j _ _ h => absurd h (by omega), 0, rfl⟩
  case round =>
    obtain ⟨k, hk, hk2, rfl, hall, q, rfl⟩ := hrel
    by_cases hlt : k < la.length ∧ k < lc.length
    · obtain ⟨hlt1, hlt2⟩ := hlt
      have qm : (k : Int) < min (la.length : Int) (lc.length : Int) := by omega
      obtain ⟨g, off, rfl, hg, hc⟩ := HS.out.at_ (k := k) (by rw [toBs_len]; exact hlt1)
      obtain ⟨g2, off2, rfl, hg2, hc2⟩ := HT.out.at_ (k := k) (by rw [toBs_len]; exact hlt2)
      have e1 : (toBs la)[k]'(by rw [toBs_len]; exact hlt1) = toB la[k] := by simp [toBs]
      have e2 : (toBs lc)[k]'(by rw [toBs_len]; exact hlt2) = toB lc[k] := by simp [toBs]
      rw [e1] at hc
      rw [e2] at hc2
      by_cases he : la[k] = lc[k]
      · have hyes : Hid (∀ j (hj : j < la.length) (hj2 : j < lc.length), j < k + 1 → la[j] = lc[j]) := by
          intro j hj hj2 hjk
          by_cases hjk2 : j = k
          · subst hjk2; exact he
          · exact hall.out j hj hj2 (by omega)
        rw [he] at hc
        generalize toB lc[k] = t at *
        clear he hall e1 e2
        go_wp2
        go_quiet (fail)
        go_wp2
        go_roundw
        case rel => exact ⟨k + 1, by omega, by omega, by go_num, hyes, _, rfl⟩
        case measure => simp [intOf]; omega
      · have hno : Hid (pre la lc = k) := pre_spec la lc k hk hk2 hall.out fun _ _ => he
        have hne : ((toB la[k]).toList == (toB lc[k]).toList) = false := by
          rw [beq_eq_false_iff_ne, toList_eq, toList_eq, of_toB, of_toB]
          exact he
        generalize toB lc[k] = t at *
        generalize toB la[k] = t2 at *
        clear he hall e1 e2
        go_wp2
        go_quiet (fail)
        go_wp2
        go_ret
        rw [hno.out]
        exact ⟨rfl, _, World.drewN_drewN _ _ _⟩
    · have hno : Hid (pre la lc = k) := pre_spec la lc k hk hk2 hall.out fun h h' => absurd ⟨h, h'⟩ hlt
      have qm : ¬ (k : Int) < min (la.length : Int) (lc.length : Int) := by omega
      have qe : min (la.length : Int) (lc.length : Int) = (k : Int) := by omega
      clear hall hlt
      go_wp2
      go_ret
      rw [hno.out]
      exact ⟨rfl, q, rfl⟩

set_option maxRecDepth 100000 in
theorem end_q (A A2 : Option Addr) (la lc : List (List UInt8)) (cap cap2 : Nat) (w : World) (hs : Strs w w.heap.size A (toBs la)) (ht : Strs w w.heap.size A2 (toBs lc)) (hn : la.length ≤ 1000000) (hn2 : lc.length ≤ 1000000) :
    Calls Try.prog 32 #[.slice A la.length cap, .slice A2 lc.length cap2] w fun e w' => e = .returned (.int .i64 (suf la lc : Int)) ∧ ∃ q, w' = w.drewN q := by
  have HS := Lib.hid hs
  have HT := Lib.hid ht
  clear hs ht
  go_enter Try.func32, Try.ntmps32
  go_wp2
  go_loopw [13] (fun i wr => ∃ k : Nat, k ≤ la.length ∧ k ≤ lc.length ∧ i = .int .i64 (k : Int) ∧ Hid (∀ j (hj : j < la.length) (hj2 : j < lc.length), j < k → la[la.length - 1 - j] = lc[lc.length - 1 - j]) ∧ ∃ q, wr = w.drewN q) (fun i _ => la.length - (intOf i).toNat)
  case atStart => exact ⟨0, Nat.zero_le _, Nat.zero_le _, rfl, fun j _ _ h => absurd h (by omega), 0, rfl⟩
  case round =>
    obtain ⟨k, hk, hk2, rfl, hall, q, rfl⟩ := hrel
    by_cases hlt : k < la.length ∧ k < lc.length
    · obtain ⟨hlt1, hlt2⟩ := hlt
      have qm : (k : Int) < min (la.length : Int) (lc.length : Int) := by omega
      obtain ⟨x, hx⟩ : ∃ x, la.length - 1 - k = x := ⟨_, rfl⟩
      obtain ⟨y, hy⟩ : ∃ y, lc.length - 1 - k = y := ⟨_, rfl⟩
      obtain ⟨g, off, rfl, hg, hc⟩ := HS.out.at_ (k := x) (by rw [toBs_len]; omega)
      obtain ⟨g2, off2, rfl, hg2, hc2⟩ := HT.out.at_ (k := y) (by rw [toBs_len]; omega)
      have e1 : (toBs la)[x]'(by rw [toBs_len]; omega) = toB (la[x]'(by omega)) := by simp [toBs]
      have e2 : (toBs lc)[y]'(by rw [toBs_len]; omega) = toB (lc[y]'(by omega)) := by simp [toBs]
      rw [e1] at hc
      rw [e2] at hc2
      have i1 : (la.length : Int) - 1 - (k : Int) = (x : Int) := by omega
      have i2 : (lc.length : Int) - 1 - (k : Int) = (y : Int) := by omega
      have i3 : (x : Int) < (la.length : Int) := by omega
      have i4 : (y : Int) < (lc.length : Int) := by omega
      by_cases he : la[x]'(by omega) = lc[y]'(by omega)
      · have hyes : Hid (∀ j (hj : j < la.length) (hj2 : j < lc.length), j < k + 1 → la[la.length - 1 - j] = lc[lc.length - 1 - j]) := by
          intro j hj hj2 hjk
          by_cases hjk2 : j = k
          · subst hjk2
            simp only [hx, hy]
            exact he
          · exact hall.out j hj hj2 (by omega)
        rw [he] at hc
        generalize toB (lc[y]'(by omega)) = t at *
        clear he hall e1 e2 hx hy
        go_wp2
        go_quiet (fail)
        go_wp2
        go_roundw
        case rel => exact ⟨k + 1, by omega, by omega, by go_num, hyes, _, rfl⟩
        case measure => simp [intOf]; omega
      · have hno : Hid (suf la lc = k) := suf_spec la lc k hk hk2 hall.out fun _ _ => by simp only [hx, hy]; exact he
        have hne : ((toB (la[x]'(by omega))).toList == (toB (lc[y]'(by omega))).toList) = false := by
          rw [beq_eq_false_iff_ne, toList_eq, toList_eq, of_toB, of_toB]
          exact he
        generalize toB (lc[y]'(by omega)) = t at *
        generalize toB (la[x]'(by omega)) = t2 at *
        clear he hall e1 e2 hx hy
        go_wp2
        go_quiet (fail)
        go_wp2
        go_ret
        rw [hno.out]
        exact ⟨rfl, _, World.drewN_drewN _ _ _⟩
    · have hno : Hid (suf la lc = k) := suf_spec la lc k hk hk2 hall.out fun h h' => absurd ⟨h, h'⟩ hlt
      have qm : ¬ (k : Int) < min (la.length : Int) (lc.length : Int) := by omega
      have qe : min (la.length : Int) (lc.length : Int) = (k : Int) := by omega
      clear hall hlt
      go_wp2
      go_ret
      rw [hno.out]
      exact ⟨rfl, q, rfl⟩
end Go.Proofs.Ytmffmhadimeplaa
