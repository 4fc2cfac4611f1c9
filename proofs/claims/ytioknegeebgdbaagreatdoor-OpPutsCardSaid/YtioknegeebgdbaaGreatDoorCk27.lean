/- The reference's Less, Has, Same of ids. The reference's Same: are two lists of texts the same? -/
import Derived.BigQuiet
import Derived.Deep.QuietTactic
import Derived.Handy
import Derived.Test.YtioknegeebgdbaaGreatDoorCk02
namespace Go.Proofs.YtioknegeebgdbaaGreatDoor
open Go.RowKit
set_option linter.unusedVariables false

set_option maxHeartbeats 2000000 in
set_option maxRecDepth 100000 in
theorem refisame_any (A A2 : Option Addr) (l m : List Im) (cap cap2 : Nat) (w : World) (hs : Ids w w.heap.size A l) (ht : Ids w w.heap.size A2 m) (hn : l.length ≤ 1000000) (hn2 : m.length ≤ 1000000) :
    Calls Tryz.prog 31 #[.slice A l.length cap, .slice A2 m.length cap2] w fun e w' => e = .returned (.bool (decide (l = m))) ∧ Below w.heap.size w w' := by
  by_cases hl : l.length = m.length
  · have Hl := Lib.hid hl
    have hb1 : (((l.length : Int)) != (m.length : Int)) = false := by simp; omega
    have HS := Lib.hid hs
    have HM := Lib.hid ht
    clear hl hs ht
    go_enter Tryz.func31, Tryz.ntmps31
    go_wp2
    go_loopw [5] (fun i wr => ∃ k : Nat, k ≤ l.length ∧ i = .int .i64 (k : Int) ∧ Hid (∀ j (hj : j < l.length) (hj2 : j < m.length), j < k → l[j] = m[j]) ∧ Hid (Below w.heap.size w wr)) (fun i _ => l.length - (intOf i).toNat)
    case atStart => exact ⟨0, Nat.zero_le _, rfl, fun j _ _ h => absurd h (by omega), Below.refl _ _⟩
    case round =>
      obtain ⟨k, hk, rfl, hall, hbr⟩ := hrel
      by_cases hlt : k < l.length
      · have hlt2 : k < m.length := by have := Hl.out; omega
        obtain ⟨g, off, rfl, _, c0, c1⟩ := ids_get (HS.out.on hbr.out) hlt
        obtain ⟨g2, off2, rfl, _, d0, d1⟩ := ids_get (HM.out.on hbr.out) hlt2
        have hq : ∀ q, Hid (Below w.heap.size w (wr.drewN q)) := fun q => below_drewN hbr.out q
        have EQ := fun W => neq_id l[k] m[k] W
        by_cases he : l[k] = m[k]
        · rw [decide_eq_true he, Bool.not_true] at EQ
          have hnew : Hid (∀ j (hj : j < l.length) (hj2 : j < m.length), j < k + 1 → l[j] = m[j]) := fun j hj hj2 hjk => by
            by_cases h : j = k
            · subst h; exact he
            · exact hall.out j hj hj2 (by omega)
          generalize l[k] = y at *
          generalize m[k] = z at *
          clear hall hbr he
          go_wp2
          go_quiet (fail)
          go_wp2
          go_roundw
          case rel => exact ⟨k + 1, by omega, by go_num, hnew, hq _⟩
          case measure => simp [intOf]; omega
        · rw [decide_eq_false he, Bool.not_false] at EQ
          have hno : Hid (decide (l = m) = false) := decide_eq_false fun h => by subst h; exact he rfl
          generalize l[k] = y at *
          generalize m[k] = z at *
          clear hall hbr he
          go_wp2
          go_quiet (fail)
          go_wp2
          go_ret
          rw [hno.out]
          exact ⟨rfl, (hq _).out⟩
      · obtain rfl : k = l.length := by omega
        have hyes : Hid (decide (l = m) = true) := decide_eq_true (List.ext_getElem Hl.out fun j h1 h2 => hall.out j h1 h2 h1)
        clear hall
        go_wp2
        go_ret
        rw [hyes.out]
        exact ⟨rfl, hbr.out⟩
  · have hno : Hid (decide (l = m) = false) := decide_eq_false fun h => hl (by rw [h])
    have hb1 : (((l.length : Int)) != (m.length : Int)) = true := by simp; omega
    have HB : Hid (Below w.heap.size w w) := Below.refl _ _
    clear hs ht hl
    go_enter Tryz.func31, Tryz.ntmps31
    go_wp2
    go_ret
    rw [hno.out]
    exact ⟨rfl, HB.out⟩
end Go.Proofs.YtioknegeebgdbaaGreatDoor
namespace Go.Proofs.YtioknegeebgdbaaGreatDoor
open Go.RowKit
set_option linter.unusedVariables false


set_option maxRecDepth 100000 in
theorem same_q (A A2 : Option Addr) (ss tt : List ByteArray) (cap cap2 : Nat) (w : World) (hs : Strs w w.heap.size A ss) (ht : Strs w w.heap.size A2 tt)
    (hn : ss.length ≤ 140737488351232) (hn2 : tt.length ≤ 140737488351232) :
    Calls Tryz.prog 32 #[.slice A ss.length cap, .slice A2 tt.length cap2] w fun e w' => e = .returned (.bool (decide (ss = tt))) ∧ ∃ q, w' = w.drewN q := by
  by_cases hl : ss.length = tt.length
  · have Hl := Lib.hid hl
    have hb1 : (((ss.length : Int)) != (tt.length : Int)) = false := by simp; omega
    clear hl
    go_enter Tryz.func32, Tryz.ntmps32
    go_wp2
    go_loopw [5] (fun i wr => ∃ k : Nat, k ≤ ss.length ∧ i = .int .i64 (k : Int) ∧ Hid (∀ j (hj : j < ss.length) (hj2 : j < tt.length), j < k → ss[j] = tt[j]) ∧ ∃ q, wr = w.drewN q) (fun i _ => ss.length - (intOf i).toNat)
    case atStart => exact ⟨0, Nat.zero_le _, rfl, fun j _ _ h => absurd h (by omega), 0, rfl⟩
    case round =>
      obtain ⟨k, hk, rfl, hall, q, rfl⟩ := hrel
      by_cases hlt : k < ss.length
      · have hlt2 : k < tt.length := by have := Hl.out; omega
        obtain ⟨g, off, rfl, hg, hc⟩ := hs.at_ hlt
        obtain ⟨g2, off2, rfl, hg2, hc2⟩ := ht.at_ hlt2
        by_cases he : ss[k] = tt[k]
        · have hyes : Hid (∀ j (hj : j < ss.length) (hj2 : j < tt.length), j < k + 1 → ss[j] = tt[j]) := by
            intro j hj hj2 hjk
            by_cases hjk2 : j = k
            · subst hjk2; exact he
            · exact hall.out j hj hj2 (by omega)
          rw [← he] at hc2
          generalize ss[k] = s at *
          clear he hall hs ht
          go_wp2
          go_quiet (fail)
          go_wp2
          go_roundw
          case rel => exact ⟨k + 1, by omega, by go_num, hyes, _, rfl⟩
          case measure => simp [intOf]; omega
        · have hno : Hid (decide (ss = tt) = false) := by
            show _ = _
            simp only [decide_eq_false_iff_not]
            intro h
            subst h
            exact he rfl
          have hne : (ss[k].toList == tt[k].toList) = false := by
            rw [beq_eq_false_iff_ne]
            intro h
            exact he (by apply ByteArray.ext; apply Array.ext'; simpa only [toList_eq] using h)
          generalize ss[k] = s at *
          generalize tt[k] = t at *
          clear he hall hs ht
          go_wp2
          go_quiet (fail)
          go_wp2
          go_ret
          rw [hno.out]
          exact ⟨rfl, _, World.drewN_drewN _ _ _⟩
      · have hk2 : k = ss.length := by omega
        subst hk2
        have hyes : Hid (decide (ss = tt) = true) := by
          show _ = _
          rw [decide_eq_true_eq]
          exact List.ext_getElem Hl.out fun j h1 h2 => hall.out j h1 h2 h1
        clear hall
        go_wp2
        go_ret
        rw [hyes.out]
        exact ⟨rfl, q, rfl⟩
  · have hno : Hid (decide (ss = tt) = false) := by
      show _ = _
      simp only [decide_eq_false_iff_not]
      intro h
      subst h
      exact hl rfl
    have hb1 : (((ss.length : Int)) != (tt.length : Int)) = true := by simp; omega
    go_enter Tryz.func32, Tryz.ntmps32
    go_wp2
    go_ret
    rw [hno.out]
    exact ⟨rfl, 0, rfl⟩
end Go.Proofs.YtioknegeebgdbaaGreatDoor
