
/- Package diff's row: how much is alike, one line of the first list more. -/
import Derived.Test.YtmffmhadimeplaaRefAlike
namespace Go.Proofs.Ytmffmhadimeplaa
open Go.RowKit
set_option linter.unusedVariables false

/-- How much is alike of x and of b's last lines, for each number of these. -/
def rowR (x b : List (List UInt8)) : List Nat := (List.range (b.length + 1)).map fun m => lcs x (b.drop (b.length - m))
/-- The same, where it is reckoned yet: up to place c. -/
def fillR (x b : List (List UInt8)) (c : Nat) : List Nat := (List.range (b.length + 1)).map fun m => if m ≤ c then lcs x (b.drop (b.length - m)) else 0
theorem rowR_len (x b : List (List UInt8)) : (rowR x b).length = b.length + 1 := by simp [rowR]
theorem fillR_len (x b : List (List UInt8)) (c : Nat) : (fillR x b c).length = b.length + 1 := by simp [fillR]
theorem rowR_get (x b : List (List UInt8)) (k : Nat) (h : k < (rowR x b).length) : (rowR x b)[k] = lcs x (b.drop (b.length - k)) := by simp [rowR]
theorem fillR_get (x b : List (List UInt8)) (c k : Nat) (h : k < (fillR x b c).length) (hc : k ≤ c) : (fillR x b c)[k] = lcs x (b.drop (b.length - k)) := by simp [fillR, hc]
theorem fillR_zero (x b : List (List UInt8)) : fillR x b 0 = List.replicate (b.length + 1) 0 := by
  refine List.ext_getElem (by simp [fillR]) fun k h1 h2 => ?_
  simp only [fillR, List.getElem_map, List.getElem_range, List.getElem_replicate]
  split
  · rename_i h
    rw [show b.length - k = b.length by omega, List.drop_length, lcs_nil]
  · rfl
theorem fillR_end (x b : List (List UInt8)) : fillR x b b.length = rowR x b := by
  refine List.ext_getElem (by simp [fillR, rowR]) fun k h1 h2 => ?_
  simp only [fillR_len] at h1
  simp only [fillR, rowR, List.getElem_map, List.getElem_range]
  rw [if_pos (by omega)]
theorem fillR_step (x b : List (List UInt8)) (c : Nat) (hc : c < b.length) : fillR x b (c + 1) = (fillR x b c).set (c + 1) (lcs x (b.drop (b.length - (c + 1)))) := by
  refine List.ext_getElem (by simp [fillR]) fun k h1 h2 => ?_
  rw [List.getElem_set]
  simp only [fillR, List.getElem_map, List.getElem_range]
  split
  · rename_i h
    split
    · rename_i h2; rw [h2]
    · rename_i h2
      rw [if_pos (by omega)]
  · rename_i h
    rw [if_neg (by omega), if_neg (by omega)]
theorem rowR_nil (b : List (List UInt8)) : rowR [] b = List.replicate (b.length + 1) 0 := by
  refine List.ext_getElem (by simp [rowR]) fun k h1 h2 => ?_
  simp only [rowR, List.getElem_map, List.getElem_range, List.getElem_replicate]
  rfl
theorem lcs_line (s : List UInt8) (x b : List (List UInt8)) (e : Nat) (he : e < b.length) : lcs (s :: x) (b.drop e) = if b[e] = s then lcs x (b.drop (e + 1)) + 1 else max (lcs x (b.drop e)) (lcs (s :: x) (b.drop (e + 1))) := by
  rw [List.drop_eq_getElem_cons he, lcs_cons, ← List.drop_eq_getElem_cons he]
  by_cases h : b[e] = s
  · rw [if_pos h, if_pos h.symm]
  · rw [if_neg h, if_neg fun e => h e.symm]

set_option maxHeartbeats 2000000 in
set_option maxRecDepth 100000 in
theorem row_any (s : List UInt8) (x lc : List (List UInt8)) (g : Nat) (A2 : Option Addr) (cap2 : Nat) (w : World) (hR : IntsAt w g (rowR x lc)) (hC : Strs w w.heap.size A2 (toBs lc)) (hn2 : lc.length ≤ 10000) :
    Calls Try.prog 36 #[.string (toB s), .slice (some ⟨g, 0, none⟩) (lc.length + 1) (lc.length + 1), .slice A2 lc.length cap2] w fun e w' => e = .returned (.slice (some ⟨w.heap.size, 0, none⟩) (lc.length + 1) (lc.length + 1)) ∧ IntsAt w' w.heap.size (rowR (s :: x) lc) ∧ Below w.heap.size w w' := by
  have HR := Lib.hid hR
  have HC := Lib.hid hC
  clear hR hC
  have hmk := make_ints lc.length hn2
  have h0 := ints_new w (lc.length + 1)
  have hb0 : Below w.heap.size w (w.alloc (.cells (Array.replicate (lc.length + 1) (intV 0)) 3)) := (Below.refl _ w).alloc (Nat.le_refl _) _
  have H0 := Lib.hid h0
  clear h0
  go_enter Try.func36, Try.ntmps36
  go_wp2
  go_loopw [15] (fun iv wr => ∃ d : Nat, d ≤ lc.length ∧ iv = .int .i64 (d : Int) ∧ Hid (IntsAt wr w.heap.size (fillR (s :: x) lc d)) ∧ Below w.heap.size w wr) (fun iv _ => lc.length - (intOf iv).toNat)
  case atStart =>
    refine ⟨0, Nat.zero_le _, rfl, ?_, hb0⟩
    show IntsAt _ _ _
    rw [fillR_zero]
    exact H0.out
  case round =>
    obtain ⟨d, hd, rfl, hfill, hb⟩ := hrel
    clear H0 hb0 hmk
    by_cases hlt : d < lc.length
    · obtain ⟨e, he⟩ : ∃ e, lc.length - 1 - d = e := ⟨_, rfl⟩
      have hee : e < lc.length := by omega
      obtain ⟨b2, o2, hA2, _, k2⟩ := (HC.out.on hb).at_ (k := e) (by rw [toBs_len]; omega)
      subst hA2
      have e2 : (toBs lc)[e]'(by rw [toBs_len]; omega) = toB (lc[e]'(by omega)) := by simp [toBs]
      rw [e2] at k2
      have hr := HR.out.on hb
      have hl1 := rowR_len x lc
      have hl2 := fillR_len (s :: x) lc d
      have f1 := hr.c (i := d + 1) (by omega)
      have f2 := hr.c (i := d) (by omega)
      have f3 := hfill.out.c (i := d) (by omega)
      have f4 := hfill.out.f (d + 1)
      obtain ⟨p5, f5⟩ : ∃ p5 : Nat, wr.cell? ⟨w.heap.size, d + 1, none⟩ = some (.int .i64 (p5 : Int)) := ⟨_, hfill.out.c (i := d + 1) (by omega)⟩
      rw [rowR_get] at f1 f2
      rw [fillR_get _ _ _ _ _ (Nat.le_refl _)] at f3
      have hx1 : lc.length - (d + 1) = e := by omega
      have hx2 : lc.length - d = e + 1 := by omega
      rw [hx1] at f1
      rw [hx2] at f2 f3
      have m1 := (lcs_le x (lc.drop (e + 1))).2
      have m2 := (lcs_le x (lc.drop e)).2
      have m3 := (lcs_le (s :: x) (lc.drop (e + 1))).2
      rw [List.length_drop] at m1 m2 m3
      have hlcs := lcs_line s x lc e hee
      have hstep := fillR_step (s :: x) lc d hlt
      rw [hx1] at hstep
      have i1 : (lc.length : Int) - 1 - (d : Int) = (e : Int) := by omega
      have i4 : (e : Int) < (lc.length : Int) := by omega
      clear hl1 hl2 e2 hr hx1 hx2 he
      by_cases heq : lc[e] = s
      · rw [if_pos heq] at hlcs
        rw [hlcs] at hstep
        have HST := Lib.hid hstep
        rw [heq] at k2
        clear hstep hlcs heq
        generalize lcs x (lc.drop (e + 1)) = p1 at *
        generalize lcs x (lc.drop e) = p2 at *
        generalize lcs (s :: x) (lc.drop (e + 1)) = p3 at *
        generalize toB s = str at *
        go_wp2
        go_roundw
        case rel =>
          refine ⟨d + 1, by omega, by go_num, ?_, ?_⟩
          · have := hfill.out.set (d + 1) (p1 + 1)
            rw [← HST.out] at this
            exact this
          · exact hb.setCell (by simp) _
        case measure => simp [intOf]; omega
      · rw [if_neg heq] at hlcs
        rw [hlcs] at hstep
        have HST := Lib.hid hstep
        have hne : ((toB (lc[e]'(by omega))).toList == (toB s).toList) = false := by
          rw [beq_eq_false_iff_ne, toList_eq, toList_eq, of_toB, of_toB]
          exact heq
        clear hstep hlcs heq
        generalize lcs x (lc.drop (e + 1)) = p1 at *
        generalize lcs x (lc.drop e) = p2 at *
        generalize lcs (s :: x) (lc.drop (e + 1)) = p3 at *
        generalize toB (lc[e]'(by omega)) = str at *
        generalize toB s = str2 at *
        have i5 : max (p2 : Int) (p3 : Int) = ((max p2 p3 : Nat) : Int) := by omega
        go_wp2
        go_region
        all_goals
          go_wp2
          go_roundw
          case rel =>
            refine ⟨d + 1, by omega, by go_num, ?_, ?_⟩
            · have := hfill.out.set (d + 1) (max p2 p3)
              rw [← HST.out] at this
              exact this
            · first | exact below_drewN hb _ |>.setCell (by simp) _ | exact (hb.setCell (by simp) _).drew
          case measure => simp [intOf]; omega
    · obtain rfl : d = lc.length := by omega
      rw [fillR_end] at hfill
      go_wp2
      go_ret
      exact ⟨rfl, hfill.out, hb⟩
end Go.Proofs.Ytmffmhadimeplaa
