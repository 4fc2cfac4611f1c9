
/- cmp.Or of two numbers. -/
import Derived.Test.YthenlajknoddcaaDoorStr
namespace Go.Proofs.YthenlajknoddcaaDoor
open Go.RowKit
set_option linter.unusedVariables false

set_option maxHeartbeats 1000000 in
set_option maxRecDepth 100000 in
theorem or_w (b : Nat) (x y z : Int) (w : World) (h0 : w.cell? ⟨b, 0, none⟩ = some (.int .i64 x)) (h1 : w.cell? ⟨b, 1, none⟩ = some (.int .i64 y)) (hz : z = if x = 0 then y else x) :
    Calls Tryd.prog 34 #[.slice (some ⟨b, 0, none⟩) 2 2] w fun e w' => e = .returned (.int .i64 z) ∧ w = w' := by
  go_enter Tryd.func34, Tryd.ntmps34
  go_wp2
  go_loopw [8] (fun i wr => ∃ k : Nat, k ≤ 2 ∧ i = .int .i64 (k : Int) ∧ Hid ((1 ≤ k → x = 0) ∧ (2 ≤ k → y = 0)) ∧ wr = w) (fun i _ => 2 - (intOf i).toNat)
  case atStart => exact ⟨0, by omega, rfl, ⟨fun h => by omega, fun h => by omega⟩, rfl⟩
  case round =>
    obtain ⟨k, hk, rfl, hxy, rfl⟩ := hrel
    have hk3 : k = 0 ∨ k = 1 ∨ k = 2 := by omega
    rcases hk3 with rfl | rfl | rfl
    · by_cases hx : x = 0
      · subst hx
        clear hz h1 hxy
        go_wp2
        go_roundw
        case rel => exact ⟨1, by omega, by go_num, ⟨fun _ => by first | rfl | trivial, fun h => by omega⟩, by first | rfl | trivial⟩
        case measure => simp [intOf] <;> omega
      · have e : z = x := by rw [hz, if_neg hx]
        subst e
        have hb : (z == 0) = false := by simpa using hx
        have hb2 : (z != 0) = true := by simpa using hx
        clear hz h1 hxy
        go_wp2
        go_ret
        exact ⟨rfl, rfl⟩
    · have hx := hxy.out.1 (by omega)
      have e : z = y := by rw [hz, if_pos hx]
      subst e
      by_cases hy : z = 0
      · subst hy
        clear hz h0 hxy
        go_wp2
        go_roundw
        case rel => exact ⟨2, by omega, by go_num, ⟨fun _ => hx, fun h => by first | rfl | trivial⟩, by first | rfl | trivial⟩
        case measure => simp [intOf] <;> omega
      · have hb : (z == 0) = false := by simpa using hy
        have hb2 : (z != 0) = true := by simpa using hy
        clear hz h0 hxy
        go_wp2
        go_ret
        exact ⟨rfl, rfl⟩
    · have hx := hxy.out.1 (by omega)
      have hy := hxy.out.2 (by omega)
      have e : z = 0 := by rw [hz, if_pos hx, hy]
      subst e
      clear hz h0 h1 hxy
      go_wp2
      go_ret
      exact ⟨rfl, rfl⟩

end Go.Proofs.YthenlajknoddcaaDoor
