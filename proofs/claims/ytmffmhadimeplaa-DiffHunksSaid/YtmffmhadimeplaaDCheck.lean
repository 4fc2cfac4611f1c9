
/- Package diff's Check. -/
import Derived.Test.YtmffmhadimeplaaDHunk
import Derived.Test.YtmffmhadimeplaaDiffSpec
namespace Go.Proofs.Ytmffmhadimeplaa
open Go.RowKit
set_option linter.unusedVariables false

set_option maxHeartbeats 1000000 in
set_option maxRecDepth 100000 in
theorem check_any (A : Option Addr) (hs : List Hm) (cap : Nat) (w : World) (hk : Hks w w.heap.size A hs) (hn : hs.length ≤ 1000000) (hsm : Small hs) (er : Int) (her : er = if mayB hs then 0 else 6) :
    Calls Try.prog 19 #[.slice A hs.length cap] w fun e w' => e = .returned (.int .i64 er) ∧ Below w.heap.size w w' := by
  have HSM := Lib.hid hsm.2
  have HER := Lib.hid her
  clear hsm her
  have HK := Lib.hid hk
  clear hk
  go_enter Try.func19, Try.ntmps19
  go_wp2
  go_loopw [7] (fun i wr => ∃ k : Nat, k ≤ hs.length ∧ i = .int .i64 (k : Int) ∧ Hid (mayB hs = mayF (endOf hs k) (hs.drop k)) ∧ Hid (∀ j (hj : j < hs.length), j < k → 0 ≤ hs[j].at_) ∧ Below w.heap.size w wr) (fun i _ => hs.length - (intOf i).toNat)
  case atStart => exact ⟨0, Nat.zero_le _, rfl, by show _ = _; rw [endOf_zero]; rfl, fun j _ h => absurd h (by omega), Below.refl _ _⟩
  case round =>
    obtain ⟨k, hk, rfl, heq, hpos, hb⟩ := hrel
    by_cases hlt : k < hs.length
    · have hK := HK.out.on hb
      obtain ⟨b, off, rfl, hbl, h1, h2, h3⟩ := hK.get hlt
      have ok := hK.ok hs[k] (List.getElem_mem _)
      have sm1 := (HSM.out hs[k] (List.getElem_mem _)).1
      have sm2 := (HSM.out hs[k] (List.getElem_mem _)).2
      have l1 := ok.lo
      have l2 := ok.hi
      have l3 := ok.n1
      have l4 := ok.n2
      by_cases hneg : hs[k].at_ < 0
      · have hfin : Hid (mayB hs = false) := heq.out.trans (mayF_neg hlt hneg)
        clear heq hpos ok
        generalize hs[k].at_ = n at *
        go_wp2
        go_ret
        rw [HER.out, hfin.out]
        exact ⟨rfl, hb.alloc hb.size _⟩
      · by_cases h0 : hs[k].old.length = 0 ∧ hs[k].new.length = 0
        · have hfin : Hid (mayB hs = false) := heq.out.trans (mayF_none hlt h0.1 h0.2)
          obtain ⟨g1, g2⟩ := h0
          rw [g1] at h2
          rw [g2] at h3
          clear heq hpos ok g1 g2 l3 l4
          generalize hs[k].at_ = n at *
          go_wp2
          go_ret
          rw [HER.out, hfin.out]
          exact ⟨rfl, hb.alloc hb.size _⟩
        · by_cases hm1 : hs[k].old.length = 0
          · have q1 : ((hs[k].new.length : Int) == 0) = false := by
              rw [beq_eq_false_iff_ne]
              intro e
              exact h0 ⟨hm1, by omega⟩
            rw [hm1] at h2
            clear hm1
            cases k with
            | zero =>
              have hnew : Hid (mayB hs = mayF (endOf hs 1) (hs.drop 1)) := heq.out.trans (mayF_first hlt (by omega) h0)
              have hpos2 : Hid (∀ j (hj : j < hs.length), j < 1 → 0 ≤ hs[j].at_) := by
                intro j hj hj1
                obtain rfl : j = 0 := by omega
                omega
              clear heq hpos ok h0
              simp only [Nat.zero_mul, Nat.add_zero] at h1 h2 h3
              generalize hs[0].at_ = n at *
              generalize hs[0].old.length = m1 at *
              generalize hs[0].new.length = m2 at *
              go_wp2
              go_quiet (fail)
              go_wp2
              go_roundw
              case rel => exact ⟨1, by omega, by go_num, hnew, hpos2, below_drewN (hb.alloc hb.size _) _⟩
              case measure => simp [intOf]; omega
            | succ j =>
              obtain ⟨b2, off2, e2, _, p1, p2, p3⟩ := hK.get (j := j) (by omega)
              cases e2
              have ok2 := hK.ok hs[j] (List.getElem_mem _)
              have l5 := ok2.hi
              have l6 := ok2.n1
              have l7 := hpos.out j (by omega) (by omega)
              have hpos2 : Hid (∀ i (hi : i < hs.length), i < j + 2 → 0 ≤ hs[i].at_) := by
                intro i hi hij
                by_cases e : i = j + 1
                · subst e; omega
                · exact hpos.out i hi (by omega)
              have hA : Hid (hs[j + 1].at_ ≤ hs[j].at_ + hs[j].old.length → mayB hs = false) := fun hh => heq.out.trans (mayF_near hlt hh)
              have hB : Hid (hs[j].at_ + hs[j].old.length < hs[j + 1].at_ → mayB hs = mayF (endOf hs (j + 2)) (hs.drop (j + 2))) := fun hh => heq.out.trans (mayF_next hlt (by omega) h0 hh)
              have i1 : ((j + 1 : Nat) : Int) - 1 = (j : Int) := by omega
              have i2 : ((j + 1 : Nat) : Int) = (j : Int) + 1 := by omega
              clear heq hpos ok ok2 h0
              generalize hs[j + 1].at_ = n at *
              generalize hs[j + 1].old.length = m1 at *
              generalize hs[j + 1].new.length = m2 at *
              generalize hs[j].at_ = n0 at *
              generalize hs[j].old.length = m0 at *
              have HL : Hid (j + 1 < hs.length) := hlt
              by_cases hnear : n ≤ n0 + m0
              · have hfin := Lib.hid (hA.out hnear)
                have w1 : n - n0 ≤ (m0 : Int) := by omega
                clear hA hB
                go_wp2
                go_quiet (fail)
                go_wp2
                go_ret
                rw [HER.out, hfin.out]
                exact ⟨rfl, below_drewN (hb.alloc hb.size _) _⟩
              · have hnew := Lib.hid (hB.out (by omega))
                have w1 : ¬ (n - n0 ≤ (m0 : Int)) := by omega
                clear hA hB
                go_wp2
                go_quiet (fail)
                go_wp2
                go_roundw
                case rel => exact ⟨j + 2, by omega, by go_num, hnew, hpos2, below_drewN (hb.alloc hb.size _) _⟩
                case measure => simp [intOf]; omega
          · have q1 : ((hs[k].old.length : Int) == 0) = false := by
              rw [beq_eq_false_iff_ne]
              omega
            clear hm1
            cases k with
            | zero =>
              have hnew : Hid (mayB hs = mayF (endOf hs 1) (hs.drop 1)) := heq.out.trans (mayF_first hlt (by omega) h0)
              have hpos2 : Hid (∀ j (hj : j < hs.length), j < 1 → 0 ≤ hs[j].at_) := by
                intro j hj hj1
                obtain rfl : j = 0 := by omega
                omega
              clear heq hpos ok h0
              simp only [Nat.zero_mul, Nat.add_zero] at h1 h2 h3
              generalize hs[0].at_ = n at *
              generalize hs[0].old.length = m1 at *
              generalize hs[0].new.length = m2 at *
              go_wp2
              go_quiet (fail)
              go_wp2
              go_roundw
              case rel => exact ⟨1, by omega, by go_num, hnew, hpos2, below_drewN (hb.alloc hb.size _) _⟩
              case measure => simp [intOf]; omega
            | succ j =>
              obtain ⟨b2, off2, e2, _, p1, p2, p3⟩ := hK.get (j := j) (by omega)
              cases e2
              have ok2 := hK.ok hs[j] (List.getElem_mem _)
              have l5 := ok2.hi
              have l6 := ok2.n1
              have l7 := hpos.out j (by omega) (by omega)
              have hpos2 : Hid (∀ i (hi : i < hs.length), i < j + 2 → 0 ≤ hs[i].at_) := by
                intro i hi hij
                by_cases e : i = j + 1
                · subst e; omega
                · exact hpos.out i hi (by omega)
              have hA : Hid (hs[j + 1].at_ ≤ hs[j].at_ + hs[j].old.length → mayB hs = false) := fun hh => heq.out.trans (mayF_near hlt hh)
              have hB : Hid (hs[j].at_ + hs[j].old.length < hs[j + 1].at_ → mayB hs = mayF (endOf hs (j + 2)) (hs.drop (j + 2))) := fun hh => heq.out.trans (mayF_next hlt (by omega) h0 hh)
              have i1 : ((j + 1 : Nat) : Int) - 1 = (j : Int) := by omega
              have i2 : ((j + 1 : Nat) : Int) = (j : Int) + 1 := by omega
              clear heq hpos ok ok2 h0
              generalize hs[j + 1].at_ = n at *
              generalize hs[j + 1].old.length = m1 at *
              generalize hs[j + 1].new.length = m2 at *
              generalize hs[j].at_ = n0 at *
              generalize hs[j].old.length = m0 at *
              have HL : Hid (j + 1 < hs.length) := hlt
              by_cases hnear : n ≤ n0 + m0
              · have hfin := Lib.hid (hA.out hnear)
                have w1 : n - n0 ≤ (m0 : Int) := by omega
                clear hA hB
                go_wp2
                go_quiet (fail)
                go_wp2
                go_ret
                rw [HER.out, hfin.out]
                exact ⟨rfl, below_drewN (hb.alloc hb.size _) _⟩
              · have hnew := Lib.hid (hB.out (by omega))
                have w1 : ¬ (n - n0 ≤ (m0 : Int)) := by omega
                clear hA hB
                go_wp2
                go_quiet (fail)
                go_wp2
                go_roundw
                case rel => exact ⟨j + 2, by omega, by go_num, hnew, hpos2, below_drewN (hb.alloc hb.size _) _⟩
                case measure => simp [intOf]; omega
    · have hk2 : k = hs.length := by omega
      subst hk2
      have hfin : Hid (mayB hs = true) := by show _ = _; rw [heq.out, List.drop_length]; rfl
      clear heq hpos
      go_wp2
      go_ret
      rw [HER.out, hfin.out]
      exact ⟨rfl, hb⟩
end Go.Proofs.Ytmffmhadimeplaa
