
/- The statements' Light of hunks (layer 4). -/
import Derived.Test.YtmffmhadimeplaaRefSameH
namespace Go.Proofs.Ytmffmhadimeplaa
open Go.RowKit
set_option linter.unusedVariables false

def lightOne (h : Hm) : Bool := light3B (toBs h.old) && light3B (toBs h.new)
def light4B (hs : List Hm) : Bool := hs.all lightOne && decide (hs.length ≤ 30)
theorem light4_no {hs : List Hm} {k : Nat} (hk : k < hs.length) (h : lightOne hs[k] = false) : light4B hs = false := by
  have : hs.all lightOne = false := by
    rw [List.all_eq_false]
    exact ⟨hs[k], List.getElem_mem _, by rw [h]; simp⟩
  simp [light4B, this]
theorem light4_yes {hs : List Hm} (h : ∀ j (hj : j < hs.length), lightOne hs[j] = true) : light4B hs = decide (hs.length ≤ 30) := by
  have : hs.all lightOne = true := by
    rw [List.all_eq_true]
    intro s hs
    obtain ⟨j, hj, rfl⟩ := List.getElem_of_mem hs
    exact h j hj
  simp [light4B, this]
theorem light4_facts {hs : List Hm} (h : light4B hs = true) : hs.length ≤ 30 ∧ ∀ h ∈ hs, light3B (toBs h.old) = true ∧ light3B (toBs h.new) = true := by
  unfold light4B at h
  rw [Bool.and_eq_true, List.all_eq_true] at h
  refine ⟨by simpa using h.2, fun x hx => ?_⟩
  have := h.1 x hx
  unfold lightOne at this
  rwa [Bool.and_eq_true] at this

set_option maxRecDepth 100000 in
theorem light4_any (A : Option Addr) (hs : List Hm) (cap : Nat) (w : World) (hk : Hks w w.heap.size A hs) (hn : hs.length ≤ 9223372036854775807) :
    Calls Try.prog 17 #[.slice A hs.length cap] w fun e w' => e = .returned (.bool (light4B hs)) ∧ w = w' := by
  have HK := Lib.hid hk
  clear hk
  go_enter Try.func17, Try.ntmps17
  go_wp2
  go_loop [3] (fun i => ∃ k : Nat, k ≤ hs.length ∧ i = .int .i64 (k : Int) ∧ Hid (∀ j (hj : j < hs.length), j < k → lightOne hs[j] = true)) (fun i => hs.length - (intOf i).toNat)
  case atStart => exact ⟨0, Nat.zero_le _, rfl, fun j _ h => absurd h (by omega)⟩
  case round =>
    obtain ⟨k, hk, rfl, hall⟩ := hrel
    by_cases hlt : k < hs.length
    · obtain ⟨b, off, rfl, _, h1, h2, h3⟩ := HK.out.get hlt
      have ok := HK.out.ok hs[k] (List.getElem_mem _)
      have c1 := light3_any hs[k].a1 (toBs hs[k].old) hs[k].c1 w ok.old (by rw [toBs_len]; exact ok.n1)
      have c2 := light3_any hs[k].a2 (toBs hs[k].new) hs[k].c2 w ok.new (by rw [toBs_len]; exact ok.n2)
      rw [toBs_len] at c1 c2
      have hno := Lib.hid (light4_no hlt)
      have hyes : Hid (lightOne hs[k] = true → ∀ j (hj : j < hs.length), j < k + 1 → lightOne hs[j] = true) := by
        intro h j hj hjk
        by_cases he : j = k
        · subst he; exact h
        · exact hall.out j hj (by omega)
      have hone : Hid (lightOne hs[k] = (light3B (toBs hs[k].old) && light3B (toBs hs[k].new))) := rfl
      generalize light3B (toBs hs[k].old) = d1 at *
      generalize light3B (toBs hs[k].new) = d2 at *
      have C1 := Lib.hid c1
      have C2 := Lib.hid c2
      clear c1 c2 ok hall
      generalize hs[k].old.length = m1 at *
      generalize hs[k].new.length = m2 at *
      cases d1 with
      | false =>
        have hfin := Lib.hid (hno.out (by rw [hone.out]; rfl))
        clear hno hyes hone
        go_wp2_with fail
        refine C1.out.mono ?_
        rintro e w' ⟨rfl, rfl⟩
        go_wp2
        go_ret
        rw [hfin.out]
        exact ⟨rfl, rfl⟩
      | true =>
        cases d2 with
        | false =>
          have hfin := Lib.hid (hno.out (by rw [hone.out]; rfl))
          clear hno hyes hone
          go_wp2_with fail
          refine C1.out.mono ?_
          rintro e w' ⟨rfl, rfl⟩
          go_wp2_with fail
          refine C2.out.mono ?_
          rintro e w' ⟨rfl, rfl⟩
          go_wp2
          go_ret
          rw [hfin.out]
          exact ⟨rfl, rfl⟩
        | true =>
          have hnew := Lib.hid (hyes.out (by rw [hone.out]; rfl))
          clear hno hyes hone
          go_wp2_with fail
          refine C1.out.mono ?_
          rintro e w' ⟨rfl, rfl⟩
          go_wp2_with fail
          refine C2.out.mono ?_
          rintro e w' ⟨rfl, rfl⟩
          go_wp2
          go_round
          case rel => exact ⟨k + 1, by omega, by go_num, hnew⟩
          case measure => simp [intOf]; omega
    · have hk2 : k = hs.length := by omega
      subst hk2
      have hy := Lib.hid (light4_yes (fun j hj => hall.out j hj hj))
      clear hall
      go_wp2
      go_ret
      rw [hy.out]
      exact ⟨by simp; omega, rfl⟩
end Go.Proofs.Ytmffmhadimeplaa
