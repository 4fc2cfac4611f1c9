
/- Package ident's Right. -/
import Derived.Test.YthenlajknoddcaaDoorIdMath
import Derived.Test.YthenlajknoddcaaDoorIdRet
import Derived.Test.YthenlajknoddcaaDoorStrEq
namespace Go.Proofs.YthenlajknoddcaaDoor
open Go.RowKit
set_option linter.unusedVariables false

set_option maxHeartbeats 2000000 in
set_option maxRecDepth 100000 in
theorem idright_any (x : Im) (w : World) (ox : x.p.size ≤ 9223372036854775807) :
    Calls Tryd.prog 7 #[x.val] w fun e w' => e = .returned (.bool (okK x.key)) ∧ Below w.heap.size w w' := by
  obtain ⟨hb, hx⟩ := id_box w x
  unfold Im.val
  have HB := Lib.hid hb
  have HX := Lib.hid hx
  have CR := Lib.hid (fun w => right_any x.p w ox)
  have hk : Hid (okK x.key = if x.p = ⟨#[]⟩ then decide (0 ≤ x.n ∧ x.n ≤ 2) else rightB x.p && decide (0 ≤ x.n ∧ x.n ≤ 1048576)) := by
    show _ = _
    unfold okK okI Im.key
    simp only [toB_of]
    by_cases h : x.p = ⟨#[]⟩
    · rw [if_pos h, if_pos (by rw [h])]
    · rw [if_neg h, if_neg fun e => h (bytes_inj (by rw [e]))]
  rw [hk.out]
  clear hb hx hk
  obtain ⟨p, n⟩ := x
  simp only at *
  by_cases h : p = ⟨#[]⟩
  · subst h
    rw [if_pos rfl]
    have c0 := id_c0 HX.out
    have c1 := id_c1 HX.out
    by_cases h1 : 0 ≤ n
    · by_cases h2 : n ≤ 2
      · have hv : decide (0 ≤ n ∧ n ≤ 2) = true := decide_eq_true ⟨h1, h2⟩
        rw [hv]
        have h3 : n ≥ 0 := h1
        go_enter Tryd.func7, Tryd.ntmps7
        go_wp2
        go_ret
        exact ⟨rfl, HB.out⟩
      · have hv : decide (0 ≤ n ∧ n ≤ 2) = false := decide_eq_false fun h => h2 h.2
        rw [hv]
        have h3 : n ≥ 0 := h1
        go_enter Tryd.func7, Tryd.ntmps7
        go_wp2
        go_ret
        exact ⟨rfl, HB.out⟩
    · have hv : decide (0 ≤ n ∧ n ≤ 2) = false := decide_eq_false fun h => h1 h.1
      rw [hv]
      have h3 : ¬ n ≥ 0 := h1
      go_enter Tryd.func7, Tryd.ntmps7
      go_wp2
      go_ret
      exact ⟨rfl, HB.out⟩
  · rw [if_neg h]
    have h0 := str_ne_empty h
    clear h
    obtain ⟨b, hbr⟩ : ∃ b, rightB p = b := ⟨_, rfl⟩
    obtain ⟨r, hr⟩ : ∃ r, (rightB p && decide (0 ≤ n ∧ n ≤ 1048576)) = r := ⟨_, rfl⟩
    have HRES : Hid ((b = false → r = false) ∧ (b = true → r = decide (0 ≤ n ∧ n ≤ 1048576))) := by
      rw [← hr, hbr]
      exact ⟨fun e => by rw [e]; rfl, fun e => by rw [e]; rfl⟩
    rw [hr]
    rw [hbr] at CR
    clear hbr hr
    go_enter Tryd.func7, Tryd.ntmps7
    have c0 := id_c0 HX.out
    have c1 := id_c1 HX.out
    go_wp2_with fail
    generalize (w.alloc (.cells #[.string p, .int .i64 n] 23)) = wb at *
    refine (CR.out _).mono ?_
    rintro e w1 ⟨rfl, hb⟩
    have HF := Lib.hid (HB.out.trans (hb.mono HB.out.size))
    have hx1 := HX.out.on hb
    have d0 := id_c0 hx1
    have d1 := id_c1 hx1
    clear hb c0 c1 hx1 CR
    cases b
    · have hrr : Hid (r = false) := HRES.out.1 rfl
      clear HRES
      go_wp2
      go_ret
      rw [hrr.out]
      exact ⟨rfl, HF.out⟩
    · have hrr : Hid (r = decide (0 ≤ n ∧ n ≤ 1048576)) := HRES.out.2 rfl
      clear HRES
      by_cases h1 : 0 ≤ n
      · have h3 : n ≥ 0 := h1
        by_cases h2 : n ≤ 1048576
        · have hv : Hid (r = true) := hrr.out.trans (decide_eq_true ⟨h1, h2⟩)
          clear hrr
          go_wp2
          go_ret
          rw [hv.out]
          exact ⟨rfl, HF.out⟩
        · have hv : Hid (decide (n ≤ 1048576) = r) := (decide_eq_false h2).trans (hrr.out.trans (decide_eq_false fun h => h2 h.2)).symm
          clear hrr
          go_wp2
          go_ret
          rw [← hv.out]
          exact ⟨rfl, HF.out⟩
      · have hv : Hid (r = false) := hrr.out.trans (decide_eq_false fun h => h1 h.1)
        have h3 : ¬ n ≥ 0 := h1
        clear hrr
        go_wp2
        go_ret
        rw [hv.out]
        exact ⟨rfl, HF.out⟩
end Go.Proofs.YthenlajknoddcaaDoor
