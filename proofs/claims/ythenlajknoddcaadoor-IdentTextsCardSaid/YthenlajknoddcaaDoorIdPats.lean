
/- Package ident's Patches. -/
import Derived.Test.YthenlajknoddcaaDoorIdsLeft
import Derived.Test.YthenlajknoddcaaDoorIdEq
import Derived.Test.YthenlajknoddcaaDoorHeld
import Derived.Test.YthenlajknoddcaaDoorNameSet
import Derived.Deep.CutRange
namespace Go.Proofs.YthenlajknoddcaaDoor
open Go.RowKit
set_option linter.unusedVariables false

set_option maxHeartbeats 4000000 in
set_option maxRecDepth 100000 in
theorem idpats_any (A : Option Addr) (la : List Im) (c : Nat) (w : World) (hs : Ids w w.heap.size A la) (hn : la.length ≤ 1000) :
    Calls Tryd.prog 17 #[.slice A la.length c] w (RowLeft w (patchesI (ikeys la))) := by
  have HA0 := Lib.hid hs
  have HI0 : Hid (Below w.heap.size w w) := Below.refl _ _
  have HO0 : Hid (OwnS w w.heap.size (.slice none 0 0) []) := OwnS.nil _ _
  clear hs
  go_enter Tryd.func17, Tryd.ntmps17
  go_wp2_with fail
  go_loopw [3, 8] (fun v iv wr => ∃ (k : Nat) (A7 : Option Addr) (n7 c7 : Nat) (ls : List (List UInt8)), v = .slice A7 n7 c7 ∧ iv = .int .i64 (k : Int) ∧ k ≤ la.length ∧ ls.length ≤ k ∧ Hid (ls = patL (la.take k) ∧ n7 = ls.length ∧ OwnS wr w.heap.size (.slice A7 n7 c7) ls ∧ Strs wr wr.heap.size A7 (toBs ls) ∧ Below w.heap.size w wr)) (fun _ iv _ => la.length - (intOf iv).toNat)
  case atStart => exact ⟨0, none, 0, 0, [], rfl, rfl, Nat.zero_le _, Nat.le_refl _, rfl, rfl, HO0.out, Strs.none_, HI0.out⟩
  case round =>
    clear HI0 HO0
    obtain ⟨k, A7, n7, c7, ls, rfl, rfl, hk, hll, HI⟩ := hrel
    by_cases hlt : k < la.length
    · obtain ⟨g, off, rfl, hg, d0, d1⟩ := ids_get (HA0.out.on HI.out.2.2.2.2) hlt
      have hps := patL_succ la k hlt
      generalize la[k] = y at *
      have hbx : Below w.heap.size w (wr.alloc (.cells #[.string y.p, .int .i64 y.n] 23)) := HI.out.2.2.2.2.alloc HI.out.2.2.2.2.size _
      have hbx0 : Below wr.heap.size wr (wr.alloc (.cells #[.string y.p, .int .i64 y.n] 23)) := (Below.refl _ _).alloc (Nat.le_refl _) _
      have hy0 := id_new wr y.p y.n
      by_cases hy : y.p = ⟨#[]⟩
      · rw [if_pos hy, List.append_nil] at hps
        have HJ : Hid (ls = patL (la.take (k + 1)) ∧ n7 = ls.length ∧ OwnS (wr.alloc (.cells #[.string y.p, .int .i64 y.n] 23)) w.heap.size (.slice A7 n7 c7) ls ∧ Strs (wr.alloc (.cells #[.string y.p, .int .i64 y.n] 23)) (wr.alloc (.cells #[.string y.p, .int .i64 y.n] 23)).heap.size A7 (toBs ls) ∧ Below w.heap.size w (wr.alloc (.cells #[.string y.p, .int .i64 y.n] 23))) :=
          ⟨by rw [hps]; exact HI.out.1, HI.out.2.1, World.ownsRow.alloc HI.out.2.2.1 _, HI.out.2.2.2.1.on hbx0, hbx⟩
        rw [hy] at d0 HJ
        clear hps HI hy hbx hbx0 hy0
        go_wp2
        go_roundw
        case rel => exact ⟨k + 1, A7, n7, c7, ls, rfl, by go_num, by omega, by omega, HJ⟩
        case measure => simp [intOf]; omega
      · rw [if_neg hy] at hps
        have n1 := str_ne_empty hy
        have HPS := Lib.hid hps
        have HO2 := Lib.hid (World.ownsRow.alloc HI.out.2.2.1 (.cells #[.string y.p, .int .i64 y.n] 23))
        have HB2 := Lib.hid hbx
        have HY := Lib.hid hy0
        have HLS := Lib.hid HI.out.1
        obtain ⟨M, hM⟩ : ∃ M, M = ls.length + [y.p.data.toList].length := ⟨_, rfl⟩
        have HM := Lib.hid hM
        clear hps hy hM HI hbx hbx0 hy0
        go_upto_region 6 with (fail)
        generalize (wr.alloc (.cells #[.string y.p, .int .i64 y.n] 23)) = w5 at *
        have e0 := id_c0 HY.out
        have e1 := id_c1 HY.out
        generalize wr.heap.size = gx at *
        have HAL := Lib.hid (HB2.out.alloc HB2.out.size (.cells #[.string y.p] 9))
        have HO := Lib.hid (World.ownsRow.alloc HO2.out (.cells #[.string y.p] 9))
        have HS1 := Lib.hid (strs_one w5 y.p)
        clear HO2 HB2 HY
        go_wp2_with (at_builtin; refine wpList_append_row rfl _ _ rfl w.heap.size (.slice A7 n7 c7) ls [y.p.data.toList] rfl HO.out (some ⟨w5.heap.size, 0, none⟩) 1 1 rfl rfl (fun e => by cases e) HS1.out HAL.out.size (by simp only [List.length_cons, List.length_nil]; omega) M HM.out ?_)
        intro A8 c8 w8 ho8 hst hg8
        have HJ : Hid (ls ++ [y.p.data.toList] = patL (la.take (k + 1)) ∧ M = (ls ++ [y.p.data.toList]).length ∧ OwnS w8 w.heap.size (.slice A8 M c8) (ls ++ [y.p.data.toList]) ∧ Strs w8 w8.heap.size A8 (toBs (ls ++ [y.p.data.toList])) ∧ Below w.heap.size w w8) :=
          ⟨by rw [HPS.out, ← HLS.out], by rw [HM.out, List.length_append], ho8, hst, below_append HAL.out HO.out hg8 (Nat.le_refl _)⟩
        have HN : Hid ((ls ++ [y.p.data.toList]).length ≤ k + 1) := by show _ ≤ _; simp only [List.length_append, List.length_cons, List.length_nil]; omega
        clear ho8 hst hg8 HPS HLS HM HO HS1 HAL n1 d0 d1 e0 e1
        generalize ls ++ [y.p.data.toList] = lz at *
        go_wp2
        go_roundw
        case rel => exact ⟨k + 1, A8, M, c8, lz, rfl, by go_num, by omega, HN.out, HJ⟩
        case measure => simp [intOf]; omega
    · obtain rfl : k = la.length := by omega
      have hls : ls = patL la := by
        have h9 := HI.out.1
        rw [List.take_length] at h9
        exact h9
      have hset : Calls Tryd.prog 26 #[.slice A7 n7 c7] wr (SetLeft wr (patL la)) := by
        have h := set_any A7 (toBs ls) c7 wr HI.out.2.2.2.1 (by rw [toBs_len]; omega)
        rw [toBs_len, lists_toBs, ← HI.out.2.1, hls] at h
        exact h
      have CS := Lib.hid hset
      have HB := Lib.hid HI.out.2.2.2.2
      rw [← patL_set]
      clear HI hls hset hll hk hlt
      go_wp2_with fail
      refine CS.out.mono ?_
      rintro e w2 hl2
      have HL : Hid (RowLeft w (setS (patL la)) e w2) := by
        obtain ⟨A2, c2, e2, q1, q2, q3⟩ := own_row hl2
        exact ⟨A2, c2, e2, q1, q2, HB.out.trans (q3.mono HB.out.size)⟩
      obtain ⟨A2, c2, he, _⟩ := HL.out
      subst he
      clear hl2 CS
      go_wp2
      go_ret
      exact HL.out
end Go.Proofs.YthenlajknoddcaaDoor
