
/- Package path's Join: each text is asked whether it is a name; all of package path. -/
import Derived.Test.YthonklioandplaaDoorPathJoin
namespace Go.Proofs.YthonklioandplaaDoor
open Go.RowKit
set_option linter.unusedVariables false

theorem joinP_are (ls : List (List UInt8)) : joinP nameP ls = if areB ls = true ∧ (joinB ls).length ≤ 200 then joinB ls else [] := by
  by_cases h0 : ls = []
  · subst h0
    unfold joinP
    rw [show names nameP (joinB []) = [] from names_nil]
    rfl
  · by_cases hall : ls.all nameP = true
    · have e := names_join nameP h0 hall fun x hx => nameP_slash hx
      unfold joinP areB
      rw [e, hall]
      by_cases k : (joinB ls).length ≤ 200 ∧ ls.length ≤ 16
      · rw [if_pos k, if_pos rfl, if_pos ⟨by rw [decide_eq_true k.2]; rfl, k.1⟩]
      · rw [if_neg k, if_neg (fun e => h0 e.symm), if_neg]
        rintro ⟨a, b⟩
        simp only [Bool.and_true, decide_eq_true_eq] at a
        exact k ⟨b, a⟩
    · unfold joinP areB
      rw [if_neg, if_neg]
      · rintro ⟨a, _⟩
        simp only [Bool.and_eq_true] at a
        exact hall a.2
      · intro e
        have h1 := names_pieces nameP (p := joinB ls) (by rw [e]; exact h0)
        rw [h1.1] at e
        rw [e] at h1
        exact hall h1.2.2.1

set_option maxHeartbeats 1000000 in
set_option maxRecDepth 100000 in
theorem join_c : JoinC := by
  intro A ls cap w hs hr hn hl
  rw [joinP_are]
  have hz := joined_small hn hl
  have CA := Lib.hid (arenames_any A ls cap w hs (by omega) (fun x hx => by have := hl x hx; omega))
  have CJ0 := fun (w1 : World) (hb : Below w.heap.size w w1) => strjoin_any A ls cap w1 (hs.on hb) hr (by omega) hz
  have CJ := Lib.hid CJ0
  clear CJ0
  have hsz : (toB (joinB ls)).size = (joinB ls).length := toB_size _
  cases hv : areB ls with
  | false =>
    rw [if_neg (by simp)]
    rw [hv] at CA
    clear hv CJ hs hl hz hsz
    go_enter Tryd.func17, Tryd.ntmps17
    go_wp2_with fail
    refine CA.out.mono ?_
    rintro e w1 ⟨rfl, hb1⟩
    have HB1 := Lib.hid hb1
    clear hb1
    go_wp2
    go_ret
    exact ⟨rfl, HB1.out⟩
  | true =>
    rw [hv] at CA
    clear hv hs hl
    generalize joinB ls = x at *
    by_cases hx : x.length ≤ 200
    · rw [if_pos ⟨rfl, hx⟩]
      generalize toB x = y at *
      have hy : y.size ≤ 200 := by omega
      clear hx hsz hz
      go_enter Tryd.func17, Tryd.ntmps17
      go_wp2_with fail
      refine CA.out.mono ?_
      rintro e w1 ⟨rfl, hb1⟩
      have C := Lib.hid (CJ.out w1 hb1)
      have HB1 := Lib.hid hb1
      clear hb1 CJ
      go_wp2_with fail
      refine C.out.mono ?_
      rintro e w2 ⟨rfl, hb2⟩
      have HB2 := Lib.hid (HB1.out.trans (hb2.mono HB1.out.size))
      clear hb2 HB1
      go_wp2
      go_ret
      exact ⟨rfl, HB2.out⟩
    · rw [if_neg (fun h => hx h.2)]
      generalize toB x = y at *
      have hy : ¬ y.size ≤ 200 := by omega
      clear hx hsz hz
      go_enter Tryd.func17, Tryd.ntmps17
      go_wp2_with fail
      refine CA.out.mono ?_
      rintro e w1 ⟨rfl, hb1⟩
      have C := Lib.hid (CJ.out w1 hb1)
      have HB1 := Lib.hid hb1
      clear hb1 CJ
      go_wp2_with fail
      refine C.out.mono ?_
      rintro e w2 ⟨rfl, hb2⟩
      have HB2 := Lib.hid (HB1.out.trans (hb2.mono HB1.out.size))
      clear hb2 HB1
      go_wp2
      go_ret
      exact ⟨rfl, HB2.out⟩
theorem join_w : JoinW := fun A ls cap w hs hr hn hl _ => join_c A ls cap w hs hr hn hl
theorem path_c : PathC := ⟨right_c, split_c, join_w, dir_c, base_c, within_c, move_c, less_c, ups_c⟩
end Go.Proofs.YthonklioandplaaDoor
