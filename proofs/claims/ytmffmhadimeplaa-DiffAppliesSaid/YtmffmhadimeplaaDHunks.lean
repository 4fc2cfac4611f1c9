
/- Package diff's Hunks; all of package diff. -/
import Derived.Test.YtmffmhadimeplaaDWalked
import Derived.Test.YtmffmhadimeplaaDBetween
import Derived.Test.YtmffmhadimeplaaDInvert
import Derived.Test.YtmffmhadimeplaaDSame
namespace Go.Proofs.Ytmffmhadimeplaa
open Go.RowKit
set_option linter.unusedVariables false

set_option maxRecDepth 100000 in
theorem hunks_c : HunksC := by
  intro A A2 la lc cap cap2 w hA hC hR hR2 hn hn2
  have C := Lib.hid (walked_any A A2 la lc cap cap2 w hA hC hR hR2 hn hn2)
  have q1 : max (la.length : Int) (lc.length : Int) ≤ 400 := by omega
  have q2 : ¬ (400 : Int) < max (la.length : Int) (lc.length : Int) := by omega
  clear hA hC hR hR2
  go_enter Try.func8, Try.ntmps8
  go_wp2_with fail
  refine C.out.mono ?_
  rintro e w1 ⟨B, c, ks, rfl, h1, h2, h3, h4⟩
  go_wp2
  go_ret
  exact ⟨B, c, ks, rfl, h1, h2, h3, h4⟩
set_option maxRecDepth 100000 in
theorem long_c : LongC := by
  intro A A2 la lc cap cap2 w hA hC hR hR2 h0 h02 hn hn2
  have C := Lib.hid (between_any A A2 la lc cap cap2 w hA hC hR hR2 hn hn2)
  have q2 : (400 : Int) < max (la.length : Int) (lc.length : Int) := by omega
  clear hA hC hR hR2
  go_enter Try.func8, Try.ntmps8
  go_wp2_with fail
  refine C.out.mono ?_
  rintro e w1 ⟨B, c, ks, rfl, h1, h2, h3, h4⟩
  go_wp2
  go_ret
  exact ⟨B, c, ks, rfl, h1, h2, h3, h4⟩
theorem check_c : CheckC := fun A hs cap w hk hr hsm hn => check_any A hs cap w hk (by omega) hsm _ rfl
theorem diff_c : DiffC := ⟨hunks_c, apply_c, invert_c, check_c, same_c, size_c, alike_c⟩
end Go.Proofs.Ytmffmhadimeplaa
