
/- Package path's Join at the first landed code: what is joined is a path, or none. -/
import Derived.Test.YtppjkgjmjkdllaaDoorPathJoin
namespace Go.Proofs.YtppjkgjmjkdllaaDoor
open Go.RowKit
set_option linter.unusedVariables false

set_option maxRecDepth 100000 in
theorem join_w : JoinW := by
  intro A ls cap w hs hr hn hl hall
  rw [joinP_names hall]
  have hz := joined_small hn hl
  have C := Lib.hid (strjoin_any A ls cap w hs hr (by omega) hz)
  have CR0 := fun w => pright_any (toB (joinB ls)) w (by rw [toB_size]; exact hz)
  unfold pnames at CR0
  rw [of_toB] at CR0
  clear hs hall hl hz
  generalize joinB ls = x at *
  by_cases hx : names nameP x ≠ []
  · rw [if_pos hx]
    simp only [decide_eq_true hx] at CR0
    have CR := Lib.hid CR0
    clear CR0 hx
    generalize toB x = y at *
    go_enter Tryd.func16, Tryd.ntmps16
    go_wp2_with fail
    refine C.out.mono ?_
    rintro e w1 ⟨rfl, hb1⟩
    have HB1 := Lib.hid hb1
    clear hb1
    go_wp2_with fail
    refine (CR.out _).mono ?_
    rintro e w2 ⟨rfl, hb2⟩
    have HB2 := Lib.hid (HB1.out.trans (hb2.mono HB1.out.size))
    clear hb2 HB1
    go_wp2
    go_ret
    exact ⟨rfl, HB2.out⟩
  · rw [if_neg hx]
    simp only [decide_eq_false hx] at CR0
    have CR := Lib.hid CR0
    clear CR0 hx
    generalize toB x = y at *
    go_enter Tryd.func16, Tryd.ntmps16
    go_wp2_with fail
    refine C.out.mono ?_
    rintro e w1 ⟨rfl, hb1⟩
    have HB1 := Lib.hid hb1
    clear hb1
    go_wp2_with fail
    refine (CR.out _).mono ?_
    rintro e w2 ⟨rfl, hb2⟩
    have HB2 := Lib.hid (HB1.out.trans (hb2.mono HB1.out.size))
    clear hb2 HB1
    go_wp2
    go_ret
    exact ⟨rfl, HB2.out⟩
theorem path_c : PathC := ⟨right_c, split_c, join_w, dir_c, base_c, within_c, move_c, less_c, ups_c⟩
end Go.Proofs.YtppjkgjmjkdllaaDoor
