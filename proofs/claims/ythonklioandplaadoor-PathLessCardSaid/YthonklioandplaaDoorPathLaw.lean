
/- The statements of layer 5, over what package path's calls are to do: awake, PathLess. -/
import Derived.Test.YthonklioandplaaDoorPathSpec
namespace Go.Proofs.YthonklioandplaaDoor
open Go.RowKit
set_option linter.unusedVariables false

set_option maxHeartbeats 1000000 in
set_option maxRecDepth 100000 in
theorem pawake_any (c : PathC) (w : World) : Calls Tryd.prog 6 #[] w fun e w' => e = .returned (.bool true) ∧ Below w.heap.size w w' := by
  have h1 : toB (dirP nameP [97, 47, 98, 47, 99]) = ⟨#[97, 47, 98]⟩ := by decide +kernel
  have h2 : toB (baseP nameP [97, 47, 98]) = ⟨#[98]⟩ := by decide +kernel
  have h3 : toB (joinP nameP [[97], [98]]) = ⟨#[97, 47, 98]⟩ := by decide +kernel
  have h4 : withinP nameP [97, 47, 98] [97] = true := by decide +kernel
  have h5 : pnames ⟨#[47, 97]⟩ = [] := by decide +kernel
  have h6 : toB (moveP nameP [97, 47, 98] [97] [99, 47, 100]) = ⟨#[99, 47, 100, 47, 98]⟩ := by decide +kernel
  have h7 : upsP nameP [97, 47, 98, 47, 99] = [[97], [97, 47, 98]] := by decide +kernel
  have h8 : lessP nameP [97, 47, 98] [97, 45, 98] = true := by decide +kernel
  have c1 := fun w => c.dir ⟨#[97, 47, 98, 47, 99]⟩ w (by decide)
  have c2 := fun w => c.base ⟨#[97, 47, 98]⟩ w (by decide)
  have c3 := fun A cap w hs hr => c.join A [[97], [98]] cap w hs hr (by decide) (by decide) (by decide +kernel)
  have c4 := fun w => c.within ⟨#[97, 47, 98]⟩ ⟨#[97]⟩ w (by decide) (by decide)
  have c5 := fun w => c.right ⟨#[47, 97]⟩ w (by decide)
  have c6 := fun w => c.move ⟨#[97, 47, 98]⟩ ⟨#[97]⟩ ⟨#[99, 47, 100]⟩ w (by decide) (by decide) (by decide)
  have c7 := fun w => c.ups ⟨#[97, 47, 98, 47, 99]⟩ w (by decide)
  have c8 := fun w => c.less ⟨#[97, 47, 98]⟩ ⟨#[97, 45, 98]⟩ w (by decide) (by decide)
  simp only [h1] at c1
  simp only [h2] at c2
  simp only [h3] at c3
  simp only [h4] at c4
  simp only [h5] at c5
  simp only [h6] at c6
  simp only [h7] at c7
  simp only [h8] at c8
  have C1 := Lib.hid c1
  have C2 := Lib.hid c2
  have C3 := Lib.hid c3
  have C4 := Lib.hid c4
  have C5 := Lib.hid c5
  have C6 := Lib.hid c6
  have C7 := Lib.hid c7
  have C8 := Lib.hid c8
  clear h1 h2 h3 h4 h5 h6 h7 h8 c1 c2 c3 c4 c5 c6 c7 c8
  go_enter Tryd.func6, Tryd.ntmps6
  go_wp2_with fail
  refine (C1.out _).mono ?_
  rintro e w1 ⟨rfl, b1⟩
  have B1 := Lib.hid b1
  clear b1
  go_wp2_with fail
  refine (C2.out _).mono ?_
  rintro e w2 ⟨rfl, b2⟩
  have B2 := Lib.hid (B1.out.trans (b2.mono B1.out.size))
  clear b2 B1
  have hal : Below w2.heap.size w2 (w2.alloc (.cells #[.string ⟨#[97]⟩, .string ⟨#[98]⟩] 9)) := (Below.refl _ _).alloc (Nat.le_refl _) _
  have HS : Hid (Strs (w2.alloc (.cells #[.string ⟨#[97]⟩, .string ⟨#[98]⟩] 9)) (w2.alloc (.cells #[.string ⟨#[97]⟩, .string ⟨#[98]⟩] 9)).heap.size (some ⟨w2.heap.size, 0, none⟩) (toBs [[97], [98]])) := (strs_new w2 [⟨#[97]⟩, ⟨#[98]⟩]).more (by simp)
  have HA := Lib.hid (B2.out.trans (hal.mono B2.out.size))
  clear hal B2
  go_wp2_with fail
  refine (C3.out _ 2 _ HS.out ⟨fun h => (by cases h), Nat.le_refl _⟩).mono ?_
  rintro e w3 ⟨rfl, b3⟩
  have B3 := Lib.hid (HA.out.trans (b3.mono HA.out.size))
  clear b3 HA HS
  go_wp2_with fail
  refine (C4.out _).mono ?_
  rintro e w4 ⟨rfl, b4⟩
  have B4 := Lib.hid (B3.out.trans (b4.mono B3.out.size))
  clear b4 B3
  go_wp2_with fail
  refine (C5.out _).mono ?_
  rintro e w5 ⟨rfl, b5⟩
  have B5 := Lib.hid (B4.out.trans (b5.mono B4.out.size))
  clear b5 B4
  go_wp2_with fail
  refine (C6.out _).mono ?_
  rintro e w6 ⟨rfl, b6⟩
  have B6 := Lib.hid (B5.out.trans (b6.mono B5.out.size))
  clear b6 B5
  go_wp2_with fail
  refine (C7.out _).mono ?_
  rintro e w7 ⟨A, cap, rfl, _, _, b7⟩
  have B7 := Lib.hid (B6.out.trans (b7.mono B6.out.size))
  clear b7 B6
  go_wp2_with fail
  refine (C8.out _).mono ?_
  rintro e w8 ⟨rfl, b8⟩
  have B8 := Lib.hid (B7.out.trans (b8.mono B7.out.size))
  clear b8 B7
  go_wp2
  go_ret
  exact ⟨rfl, B8.out⟩
end Go.Proofs.YthonklioandplaaDoor
