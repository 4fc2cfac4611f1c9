
/- Package diff's Alike. -/
import Derived.Test.YtmffmhadimeplaaDTails
import Derived.Test.YtmffmhadimeplaaDBegin
import Derived.Test.YtmffmhadimeplaaDSlice
import Derived.Test.YtmffmhadimeplaaDiffSpec
namespace Go.Proofs.Ytmffmhadimeplaa
open Go.RowKit
set_option linter.unusedVariables false
attribute [local go_sem ↓] Go.wp_at_zero Go.wp_at_succ

theorem lcs_pre {α : Type} [DecidableEq α] : ∀ (a b : List α), lcs a b = pre a b + lcs (a.drop (pre a b)) (b.drop (pre a b))
  | [], b => by simp [pre]
  | x :: a, [] => by simp [pre]
  | x :: a, y :: b => by
    have ih := lcs_pre a b
    unfold pre
    split
    · rename_i h
      rw [lcs_cons, if_pos h, List.drop_succ_cons, List.drop_succ_cons]
      omega
    · simp
/-- tails, where some draws lie ahead of it. -/
theorem tails_h (A A2 : Option Addr) (la lc : List (List UInt8)) (cap cap2 : Nat) (wr : World) (hA : Strs wr wr.heap.size A (toBs la)) (hC : Strs wr wr.heap.size A2 (toBs lc)) (hn : la.length ≤ 10000) (hn2 : lc.length ≤ 10000) (wx : World) (hwx : wx.heap = wr.heap) (hbx : Below wr.heap.size wr wx) :
    Calls Try.prog 28 #[.slice A la.length cap, .slice A2 lc.length cap2] wx fun e w' => ∃ fv, e = .returned fv ∧ Tails w' w'.heap.size fv la lc ∧ Below wr.heap.size wr w' := by
  have hsz : wx.heap.size = wr.heap.size := by rw [hwx]
  refine (tails_any A A2 la lc cap cap2 wx (hA.on hbx) (hC.on hbx) hn hn2).mono ?_
  rintro e w' ⟨fv, h1, h2, h3⟩
  rw [hsz] at h3
  exact ⟨fv, h1, h2, hbx.trans h3⟩

set_option maxHeartbeats 1000000 in
set_option maxRecDepth 100000 in
theorem alike_c : AlikeC := by
  intro A A2 la lc cap cap2 w hA hC hR hR2 hn hn2
  have HA := Lib.hid hA
  have HC := Lib.hid hC
  obtain ⟨B1, c1, p1, r1⟩ := part_all A la cap hR
  obtain ⟨B2, c2, p2, r2⟩ := part_all A2 lc cap2 hR2
  have s1 := p1.strs w _ hA
  have s2 := p2.strs w _ hC
  have hpre := pre_le la lc
  have hlp := lcs_pre la lc
  have hle := lcs_le (la.drop (pre la lc)) (lc.drop (pre la lc))
  obtain ⟨B3, c3, ld, e3, p3, r3⟩ := part_from B1 la c1 (pre la lc) p1.room hpre.1
  obtain ⟨B4, c4, le, e4, p4, r4⟩ := part_from B2 lc c2 (pre la lc) p2.room hpre.2
  have s3 := p3.strs w _ s1
  have s4 := p4.strs w _ s2
  rw [← e3, ← e4] at hlp hle
  have HBEG := Lib.hid (begin_q B1 B2 la lc c1 c2)
  have HT := Lib.hid (tails_h B3 B4 ld le c3 c4)
  have hl3 : ld.length ≤ 400 := by rw [e3, List.length_drop]; omega
  have hl4 : le.length ≤ 400 := by rw [e4, List.length_drop]; omega
  have S1 := Lib.hid s1
  have S2 := Lib.hid s2
  have S3 := Lib.hid s3
  have S4 := Lib.hid s4
  have q1 : min (la.length : Int) 400 = (la.length : Int) := by omega
  have q2 : min (lc.length : Int) 400 = (lc.length : Int) := by omega
  have HL := Lib.hid hlp
  have hle1 := hle.1
  have hp1 := hpre.1
  have hp2 := hpre.2
  clear hA hC hR hR2 p1 p2 p3 p4 s1 s2 s3 s4 e3 e4 hpre hle hlp
  generalize hpp : pre la lc = p at *
  have HP := Lib.hid hpp
  clear hpp
  rw [HL.out]
  have HD : Hid (lcs ld le = lcs ld le) := rfl
  go_enter Try.func16, Try.ntmps16
  go_wp2
  go_region
  all_goals (
    have hd1 : Below w.heap.size w w.drew := (Below.refl _ _).drew
    have hs1 := S1.out.on hd1
    have hs2 := S2.out.on hd1
    have C1 := Lib.hid (HBEG.out w.drew hs1 hs2 (by omega) (by omega))
    clear hd1 hs1 hs2
    go_wp2_with fail
    refine C1.out.mono ?_
    rintro e w2 ⟨rfl, q, rfl⟩
    have hd2 : Below w.heap.size w (w.drew.drewN q) := below_drewN (Below.refl _ _).drew _
    generalize w.drew.drewN q = w2 at *
    have hs3 := S3.out.on hd2
    have hs4 := S4.out.on hd2
    have C2 : Hid (∀ wx : World, wx.heap = w2.heap → Below w2.heap.size w2 wx → Calls Try.prog 28 #[.slice B3 ld.length c3, .slice B4 le.length c4] wx fun e w' => ∃ r a b : Nat, e = .returned (.func (.func 37) #[] #[.pointer (some ⟨r, 0, none⟩), .pointer (some ⟨a, 0, none⟩), .pointer (some ⟨b, 0, none⟩)]) ∧
        Hid (Calls Try.prog 37 #[.int .i64 0, .int .i64 0, .pointer (some ⟨r, 0, none⟩), .pointer (some ⟨a, 0, none⟩), .pointer (some ⟨b, 0, none⟩)] w' fun e2 w2' => e2 = .returned (.int .i64 (lcs ld le : Int)) ∧ ∃ q, w2' = w'.drewN q) ∧ Hid (Below w2.heap.size w2 w')) := by
      intro wx h1 h2
      refine (HT.out w2 hs3 hs4 (by omega) (by omega) wx h1 h2).mono ?_
      rintro e w' ⟨fv, rfl, ht, hb⟩
      obtain ⟨r, a, b, rfl, hc⟩ := tails1_q fv ld le 0 0 _ w' (Nat.zero_le _) (Nat.zero_le _) (by omega) (by omega) ht
      exact ⟨r, a, b, rfl, hc, hb⟩
    have HB := Lib.hid hd2
    clear hd2 hs3 hs4 C1 HT
    generalize hdd : lcs ld le = d at *
    have HDD := Lib.hid hdd
    clear hdd
    have i1 : IntKind.i64.wrap ((p : Int) + (d : Int)) = (p : Int) + (d : Int) := IntWalk.i64_in _ (by omega)
    have i2 : ((p + d : Nat) : Int) = (p : Int) + (d : Int) := by omega
    go_wp2_with fail
    go_region_with (first | (go_at_call 28; refine (C2.out _ (by rfl) (by first | exact Below.refl _ _ | exact (Below.refl _ _).drew | exact below_drewN (Below.refl _ _) _)).mono ?_; rintro e w4 ⟨r, a, b, rfl, hc, hb⟩) | (go_at_call 37; refine hc.out.mono ?_; rintro e w5 ⟨rfl, q5, rfl⟩))
    all_goals
      go_wp2
      go_ret
      rw [HDD.out, i2]
      exact ⟨rfl, HB.out.trans ((below_drewN hb.out _).mono HB.out.size)⟩)
end Go.Proofs.Ytmffmhadimeplaa
