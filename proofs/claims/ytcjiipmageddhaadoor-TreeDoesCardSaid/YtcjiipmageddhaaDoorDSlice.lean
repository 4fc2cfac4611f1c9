
/- A part of a row of strings: what slicing gives, in one way. -/
import Derived.Test.YtcjiipmageddhaaDoorAppend
namespace Go.Proofs.YtcjiipmageddhaaDoor
open Go.RowKit
set_option linter.unusedVariables false

/-- A part of a row of strings: its address, its room. -/
structure Part (A : Option Addr) (A' : Option Addr) (cap' : Nat) (ls ld : List (List UInt8)) (i : Nat) : Prop where
  len : i + ld.length ≤ ls.length
  eq : ld = (ls.drop i).take ld.length
  strs : ∀ (w : World) (B : Nat), Strs w B A (toBs ls) → Strs w B A' (toBs ld)
  room : Room A' ld.length cap'
theorem size_str : (Tryd.prog.info? 9).map (·.size) = some 1 := by kernel_rfl
theorem run_slice_strs (A : Option Addr) (n cap i j : Nat) (low high : Option Value) (w : World) (hij : i ≤ j) (hj : j ≤ n) (hn : n ≤ cap) (hlow : low = some (.int .i64 (i : Int)) ∨ (low = none ∧ i = 0)) (hhigh : high = some (.int .i64 (j : Int)) ∨ (high = none ∧ j = n)) :
    (Instr.slice 27 (.slice A n cap) low high none).run Tryd.prog w = .ok (.slice (if cap = i then A else A.map (·.add i)) (j - i) (cap - i)) w := by
  have hb : ∀ w, (Instr.sliceBounds true n cap low high none).run Tryd.prog w = .ok (i, j, cap) w := by
    intro w
    have hi2 : (i : Int) ≤ (j : Int) := by omega
    have hj2 : (j : Int) ≤ (cap : Int) := by omega
    have hi3 : (i : Int) ≤ (n : Int) := by omega
    rcases hlow with rfl | ⟨rfl, rfl⟩ <;> rcases hhigh with rfl | ⟨rfl, rfl⟩ <;> simp [Instr.sliceBounds, Instr.sliceBound, asIntOf, go_sem, hi2, hj2, hi3, hij, show j ≤ cap by omega] <;> intros <;> omega
  obtain ⟨d, hd, hs⟩ : ∃ d, Tryd.prog.info? 9 = some d ∧ d.size = 1 := by
    have := size_str
    cases h : Tryd.prog.info? 9 with
    | none => rw [h] at this; cases this
    | some d => rw [h] at this; exact ⟨d, rfl, by simpa using this⟩
  unfold Instr.slice
  rw [Sem.run_bind, run_underlying Tryd.underlying27, Result.andThen_ok]
  simp only []
  rw [Sem.run_bind, hb, Result.andThen_ok]
  simp [sizeOf, typeInfo, hd, hs, Sem.run_bind]
theorem part_of (A : Option Addr) (ls : List (List UInt8)) (cap i j : Nat) (hr : Room A ls.length cap) (hij : i ≤ j) (hj : j ≤ ls.length) :
    ∃ A' cap' ld, ld = (ls.drop i).take (j - i) ∧ Part A A' cap' ls ld i ∧ ∀ (low high : Option Value) (w : World), (low = some (.int .i64 (i : Int)) ∨ (low = none ∧ i = 0)) → (high = some (.int .i64 (j : Int)) ∨ (high = none ∧ j = ls.length)) →
      (Instr.slice 27 (.slice A ls.length cap) low high none).run Tryd.prog w = .ok (.slice A' ld.length cap') w := by
  have hl : ((ls.drop i).take (j - i)).length = j - i := by rw [List.length_take, List.length_drop]; omega
  refine ⟨if cap = i then A else A.map (·.add i), cap - i, (ls.drop i).take (j - i), rfl, ⟨by rw [hl]; omega, by rw [hl], fun w B hs => ?_, ?_⟩, fun low high w h1 h2 => ?_⟩
  · by_cases hc : cap = i
    · have hz : (ls.drop i).take (j - i) = [] := by
        rw [← List.length_eq_zero_iff, hl]
        have := hr.2
        omega
      rw [hz]
      exact Strs.none_
    · rw [if_neg hc]
      refine hs.part i (j - i) _ fun b off hA hlt => ?_
      rw [hA, Option.map_some, add_row]
  · rw [hl]
    refine ⟨fun hA => ?_, by have := hr.2; omega⟩
    by_cases hc : cap = i
    · omega
    · rw [if_neg hc] at hA
      have : A = none := by cases A <;> simp_all
      have := hr.1 this
      omega
  · rw [hl]
    exact run_slice_strs A ls.length cap i j low high w hij hj hr.2 h1 h2
/-- What is behind i lines. -/
theorem part_from (A : Option Addr) (ls : List (List UInt8)) (cap i : Nat) (hr : Room A ls.length cap) (hi : i ≤ ls.length) :
    ∃ A' cap' ld, ld = ls.drop i ∧ Part A A' cap' ls ld i ∧ ∀ (w : World), (Instr.slice 27 (.slice A ls.length cap) (some (.int .i64 (i : Int))) none none).run Tryd.prog w = .ok (.slice A' ld.length cap') w := by
  obtain ⟨A', cap', ld, h1, h2, h3⟩ := part_of A ls cap i ls.length hr hi (Nat.le_refl _)
  refine ⟨A', cap', ld, ?_, h2, fun w => h3 _ _ w (.inl rfl) (.inr ⟨rfl, rfl⟩)⟩
  rw [h1, List.take_of_length_le (by rw [List.length_drop]; omega)]
/-- Lines i to j. -/
theorem part_mid (A : Option Addr) (ls : List (List UInt8)) (cap i j : Nat) (hr : Room A ls.length cap) (hij : i ≤ j) (hj : j ≤ ls.length) :
    ∃ A' cap' ld, ld = (ls.drop i).take (j - i) ∧ Part A A' cap' ls ld i ∧ ∀ (w : World), (Instr.slice 27 (.slice A ls.length cap) (some (.int .i64 (i : Int))) (some (.int .i64 (j : Int))) none).run Tryd.prog w = .ok (.slice A' ld.length cap') w := by
  obtain ⟨A', cap', ld, h1, h2, h3⟩ := part_of A ls cap i j hr hij hj
  exact ⟨A', cap', ld, h1, h2, fun w => h3 _ _ w (.inl rfl) (.inl rfl)⟩
theorem part_all (A : Option Addr) (ls : List (List UInt8)) (cap : Nat) (hr : Room A ls.length cap) :
    ∃ A' cap', Part A A' cap' ls ls 0 ∧ ∀ (w : World), (Instr.slice 27 (.slice A ls.length cap) none (some (.int .i64 (ls.length : Int))) none).run Tryd.prog w = .ok (.slice A' ls.length cap') w := by
  obtain ⟨A', cap', ld, h1, h2, h3⟩ := part_of A ls cap 0 ls.length hr (Nat.zero_le _) (Nat.le_refl _)
  have e : ld = ls := by rw [h1, List.drop_zero, Nat.sub_zero, List.take_length]
  subst e
  exact ⟨A', cap', h2, fun w => h3 _ _ w (.inr ⟨rfl, rfl⟩) (.inl rfl)⟩
end Go.Proofs.YtcjiipmageddhaaDoor
