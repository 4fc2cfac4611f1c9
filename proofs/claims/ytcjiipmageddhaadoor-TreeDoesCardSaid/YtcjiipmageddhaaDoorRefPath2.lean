
/- The reference's Begins and Less of layer 5. -/
import Derived.Test.YtcjiipmageddhaaDoorRefPath
import Derived.Test.YtcjiipmageddhaaDoorDSlice
namespace Go.Proofs.YtcjiipmageddhaaDoor
open Go.RowKit
set_option linter.unusedVariables false

theorem rsame_l (A A2 : Option Addr) (la lc : List (List UInt8)) (cap cap2 : Nat) (w : World) (d : Bool) (hd : decide (la = lc) = d) (hs : Strs w w.heap.size A (toBs la)) (ht : Strs w w.heap.size A2 (toBs lc)) (hn : la.length ≤ 1000000) (hn2 : lc.length ≤ 1000000) :
    Calls Tryd.prog 14 #[.slice A la.length cap, .slice A2 lc.length cap2] w fun e w' => e = .returned (.bool d) ∧ ∃ m, w' = w.drewN m := by
  have h := same_q A A2 (toBs la) (toBs lc) cap cap2 w hs ht (by rw [toBs_len]; omega) (by rw [toBs_len]; omega)
  rw [toBs_len, toBs_len, show decide (toBs la = toBs lc) = d from by
    rw [← hd]
    congr 1
    refine propext ⟨fun h => ?_, fun h => by rw [h]⟩
    have := congrArg lists h
    rwa [lists_toBs, lists_toBs] at this] at h
  exact h
theorem bless_eq (l m : List UInt8) : Op.bytesLess (toB l).toList (toB m).toList = decide (l < m) := by
  rw [bytesLess_eq, toList_eq, toList_eq, of_toB, of_toB]
theorem bless_eqs (s t : ByteArray) : Op.bytesLess s.toList t.toList = decide (s.data.toList < t.data.toList) := by
  rw [bytesLess_eq, toList_eq, toList_eq]

set_option maxHeartbeats 2000000 in
set_option maxRecDepth 100000 in
theorem refpless_any (s t : ByteArray) (w : World) (hs : s.size ≤ 9223372036854775807) (ht : t.size ≤ 9223372036854775807) :
    Calls Tryd.prog 55 #[.string s, .string t] w fun e w' => e = .returned (.bool (lessP nameP s.data.toList t.data.toList)) ∧ Below w.heap.size w w' := by
  have C1 := Lib.hid (refnames_any s w hs)
  obtain ⟨d, hd⟩ : ∃ d, d = lessP nameP s.data.toList t.data.toList := ⟨_, rfl⟩
  rw [← hd]
  have hbl := bless_eqs s t
  unfold lessP at hd
  rw [← hbl] at hd
  have hlen : ∀ p : List UInt8, (names nameP p).length ≤ 16 := by
    intro p
    unfold names
    split
    · rename_i h; exact h.2.2
    · simp
  obtain ⟨x, hx⟩ : ∃ x, names nameP s.data.toList = x := ⟨_, rfl⟩
  obtain ⟨y, hy⟩ : ∃ y, names nameP t.data.toList = y := ⟨_, rfl⟩
  have hlx := hlen s.data.toList
  have hly := hlen t.data.toList
  rw [hx] at hd C1 hlx
  rw [hy] at hd hly
  have HD := Lib.hid hd
  have HY := Lib.hid hy
  clear hd hbl hlen hx hy
  go_enter Tryd.func55, Tryd.ntmps55
  go_wp2_with fail
  refine C1.out.mono ?_
  rintro e w1 ⟨v1, rfl, o1, b1⟩
  have C2 := refnames_any t w1 ht
  rw [HY.out] at C2
  have HC2 := Lib.hid C2
  have O1 := Lib.hid o1
  have B1 := Lib.hid b1
  clear C1 C2 o1 b1
  go_wp2_with fail
  refine HC2.out.mono ?_
  rintro e w2 ⟨v2, rfl, o2, b2⟩
  have o1 := O1.out.kept b2
  obtain ⟨A1, k1, rfl, s1, _, _⟩ := o1.strs
  obtain ⟨A2, k2, rfl, s2, _, _⟩ := o2.strs
  have S1 := Lib.hid s1
  have S2 := Lib.hid s2
  have BB := Lib.hid (B1.out.trans (b2.mono B1.out.size))
  clear o1 o2 s1 s2 b2 HC2 O1 B1
  by_cases hz : x.length = 0 ∧ y.length = 0
  · have hfin : Hid (d = Op.bytesLess s.toList t.toList) := by
      show _ = _
      rw [HD.out, if_pos ⟨List.length_eq_zero_iff.1 hz.1, List.length_eq_zero_iff.1 hz.2⟩]
    obtain ⟨z1, z2⟩ := hz
    have z3 : (x.length : Int) = 0 := by omega
    have z4 : (y.length : Int) = 0 := by omega
    go_wp2
    go_ret
    rw [hfin.out]
    exact ⟨rfl, BB.out⟩
  · have HE : Hid (d = lessL x y) := by
      show _ = _
      rw [HD.out, if_neg]
      rintro ⟨e1, e2⟩
      exact hz ⟨by rw [e1]; rfl, by rw [e2]; rfl⟩
    have hg : ((x.length : Int) == 0) = false ∨ ((x.length : Int) == 0) = true ∧ ((y.length : Int) == 0) = false := by
      by_cases h : x.length = 0
      · right
        refine ⟨by rw [h]; rfl, ?_⟩
        rw [beq_eq_false_iff_ne]
        omega
      · left
        rw [beq_eq_false_iff_ne]
        omega
    clear hz HD
    rcases hg with hg | ⟨hg, hg2⟩
    all_goals (
      go_wp2
      go_loopw [7] (fun iv wr => ∃ k : Nat, k ≤ x.length ∧ k ≤ y.length ∧ iv = .int .i64 (k : Int) ∧ Hid (∀ j (h : j < x.length) (h2 : j < y.length), j < k → x[j] = y[j]) ∧ ∃ q, wr = w2.drewN q) (fun iv _ => x.length - (intOf iv).toNat)
      case atStart => exact ⟨0, Nat.zero_le _, Nat.zero_le _, rfl, fun j _ _ h => absurd h (by omega), 0, rfl⟩
      case round =>
        obtain ⟨k, hk, hk2, rfl, hall, q, rfl⟩ := hrel
        by_cases hx : k < x.length
        · by_cases hy : k < y.length
          · obtain ⟨g, off, rfl, _, hc⟩ := S1.out.at_ (k := k) (by rw [toBs_len]; exact hx)
            obtain ⟨g2, off2, rfl, _, hc2⟩ := S2.out.at_ (k := k) (by rw [toBs_len]; exact hy)
            have e1 : (toBs x)[k]'(by rw [toBs_len]; exact hx) = toB x[k] := by simp [toBs]
            have e2 : (toBs y)[k]'(by rw [toBs_len]; exact hy) = toB y[k] := by simp [toBs]
            rw [e1] at hc
            rw [e2] at hc2
            by_cases he : x[k] = y[k]
            · have hyes : Hid (∀ j (h : j < x.length) (h2 : j < y.length), j < k + 1 → x[j] = y[j]) := by
                intro j hj hj2 hjk
                by_cases hjk2 : j = k
                · subst hjk2; exact he
                · exact hall.out j hj hj2 (by omega)
              rw [he] at hc
              generalize toB y[k] = z at *
              clear he hall e1 e2
              go_wp2
              go_quiet (fail)
              go_wp2
              go_roundw
              case rel => exact ⟨k + 1, by omega, by omega, by go_num, hyes, _, rfl⟩
              case measure => simp [intOf] <;> omega
            · have hbl := bless_eq x[k] y[k]
              have hfin : Hid (d = Op.bytesLess (toB x[k]).toList (toB y[k]).toList) := by
                show _ = _
                rw [hbl, HE.out]
                exact lessL_at hx hy hall.out he
              have hne : ((toB x[k]).toList == (toB y[k]).toList) = false := by
                rw [beq_eq_false_iff_ne, toList_eq, toList_eq, of_toB, of_toB]
                exact he
              clear hbl
              generalize toB y[k] = z at *
              generalize toB x[k] = z2 at *
              clear he hall e1 e2
              go_wp2
              go_quiet (fail)
              go_wp2
              go_quiet (fail)
              go_wp2
              go_ret
              rw [hfin.out]
              exact ⟨rfl, below_drewN (below_drewN (below_drewN BB.out _) _) _⟩
          · have hfin : Hid (d = decide (x.length < y.length)) := by
              show _ = _
              rw [HE.out]
              exact lessL_end fun j h h2 => hall.out j h h2 (by omega)
            clear hall
            go_wp2
            go_ret
            rw [hfin.out]
            exact ⟨by simp, below_drewN BB.out _⟩
        · have hfin : Hid (d = decide (x.length < y.length)) := by
            show _ = _
            rw [HE.out]
            exact lessL_end fun j h h2 => hall.out j h h2 (by omega)
          clear hall
          go_wp2
          go_ret
          rw [hfin.out]
          exact ⟨by simp, below_drewN BB.out _⟩)
end Go.Proofs.YtcjiipmageddhaaDoor
