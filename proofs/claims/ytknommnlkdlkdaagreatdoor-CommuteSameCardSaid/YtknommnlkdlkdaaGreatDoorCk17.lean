/- Package commute's Pair, Can, Apart, Touches. Package commute's Can, Apart, Touches. -/
import Derived.Test.YtknommnlkdlkdaaGreatDoorCk16
import Derived.RegionTactic
import Derived.BigRegion
import Derived.WalkKit
namespace Go.Proofs.YtknommnlkdlkdaaGreatDoor
open Go.RowKit
set_option linter.unusedVariables false

theorem pair_wrong {p q : Pk} (h : wrongP p q ≠ 0) : pairP p q = (wrongP p q, zeroP, zeroP) := by
  unfold wrongP at h ⊢
  unfold pairP
  by_cases hp : ckP p = 0
  · rw [if_pos hp] at h ⊢
    rw [if_neg (by simpa using hp), if_pos h]
  · rw [if_neg hp] at h ⊢
    rw [if_pos hp]
theorem wrong_right {p q : Pk} (h : wrongP p q = 0) : ckP p = 0 ∧ ckP q = 0 := by
  unfold wrongP at h
  by_cases hp : ckP p = 0
  · rw [if_pos hp] at h
    exact ⟨hp, h⟩
  · rw [if_neg hp] at h
    exact absurd h hp
theorem TwoLeft.draw {w w' : World} {k1 k2 : Pk} {v : Value} {e : Ending} (h : TwoLeft w k1 k2 v e w') : TwoLeft w k1 k2 v e w'.drew := by
  obtain ⟨y, z, rfl, h, hb⟩ := h
  have hd : Below w'.heap.size w' w'.drew := (Below.refl _ _).drew
  exact ⟨y, z, rfl, ⟨h.out.1.on hd, h.out.2.1.on hd, h.out.2.2⟩, hb.drew⟩
/-- What Pair hands back. -/
def pairLeft (w : World) (p q : Pk) : Ending → World → Prop := TwoLeft w (pairP p q).2.1 (pairP p q).2.2 (.int .i64 (pairP p q).1)
set_option maxHeartbeats 20000000 in
set_option maxRecDepth 100000 in
theorem cpair_any (x y : Pm) (w : World) (ox : x.Ok w w.heap.size) (oy : y.Ok w w.heap.size) (wx : WdK x.key) (wy : WdK y.key) (hT : Tabs w) :
    Calls Tryz.prog 9 #[x.val, y.val] w (pairLeft w x.key y.key) := by
  obtain ⟨n, hn⟩ : ∃ n, wrongP x.key y.key = n := ⟨_, rfl⟩
  have CW := Lib.hid (fun W (hb : Below w.heap.size w W) => cwrong_any x y W (ox.on hb) (oy.on hb) wx wy (Tabs.on hT hb) n hn)
  have CT := Lib.hid (fun (h0 : ckP x.key = 0) (k0 : ckP y.key = 0) W (hb : Below w.heap.size w W) => cturned_any x y W (ox.on hb) (oy.on hb) wx wy h0 k0)
  have HW : Hid ((n ≠ 0 → pairP x.key y.key = (n, zeroP, zeroP)) ∧ (n = 0 → (ckP x.key = 0 ∧ ckP y.key = 0) ∧ pairP x.key y.key = (if (turnP x.key y.key).isSome = true then 0 else 13, (turnP x.key y.key).getD (zeroP, zeroP)))) := by
    subst hn
    exact ⟨pair_wrong, fun h => ⟨wrong_right h, pair_turn (wrong_right h).1 (wrong_right h).2⟩⟩
  clear ox oy wx wy hT hn
  unfold pairLeft
  generalize pairP x.key y.key = pr at *
  generalize turnP x.key y.key = tn at *
  generalize ckP x.key = n1 at *
  generalize ckP y.key = n2 at *
  obtain ⟨kind, p, q, at_, a1, c1, old, a2, c2, new⟩ := x
  obtain ⟨kind2, p2, q2, at2, a3, c3, old2, a4, c4, new2⟩ := y
  unfold Pm.val at CW CT ⊢
  simp only [] at CW CT ⊢
  obtain ⟨hal, hx, hy, hg, hh⟩ := box4 w ⟨kind, p, q, at_, a1, c1, old, a2, c2, new⟩ ⟨kind2, p2, q2, at2, a3, c3, old2, a4, c4, new2⟩
  have e0 : ((((w.alloc (.cells (Pm.cells ⟨kind, p, q, at_, a1, c1, old, a2, c2, new⟩).toArray 25)).alloc (.cells (Pm.cells ⟨kind2, p2, q2, at2, a3, c3, old2, a4, c4, new2⟩).toArray 25)).alloc (.cells (Pm.cells ⟨0, ⟨#[]⟩, ⟨#[]⟩, 0, none, 0, [], none, 0, []⟩).toArray 25)).alloc (.cells (Pm.cells ⟨0, ⟨#[]⟩, ⟨#[]⟩, 0, none, 0, [], none, 0, []⟩).toArray 25)) = ((((w.alloc (.cells #[.int .i64 kind, .string p, .string q, .int .i64 at_, .slice a1 old.length c1, .slice a2 new.length c2] 25)).alloc (.cells #[.int .i64 kind2, .string p2, .string q2, .int .i64 at2, .slice a3 old2.length c3, .slice a4 new2.length c4] 25)).alloc (.cells #[.int .i64 0, .string ⟨#[]⟩, .string ⟨#[]⟩, .int .i64 0, .slice none 0 0, .slice none 0 0] 25)).alloc (.cells #[.int .i64 0, .string ⟨#[]⟩, .string ⟨#[]⟩, .int .i64 0, .slice none 0 0, .slice none 0 0] 25)) := rfl
  rw [e0] at hal hx hy hg hh
  have HX := Lib.hid hx
  have HY := Lib.hid hy
  have HG := Lib.hid hg
  have HH := Lib.hid hh
  have HA := Lib.hid hal
  clear hal hx hy hg hh e0
  have CW := Lib.hid (CW.out _ HA.out)
  by_cases h0 : n = 0
  · obtain ⟨⟨hc1, hc2⟩, hpr⟩ := HW.out.2 h0
    subst hpr; subst h0
    obtain ⟨cd, hcd⟩ : ∃ c : Int, (if tn.isSome = true then (0 : Int) else 13) = c := ⟨_, rfl⟩
    rw [hcd]
    have HCD := Lib.hid hcd
    have CT := Lib.hid (CT.out hc1 hc2)
    clear hcd
    clear HW hc1 hc2
    go_enter Tryz.func9, Tryz.ntmps9
    go_wp2_with fail
    generalize ((((w.alloc (.cells #[.int .i64 kind, .string p, .string q, .int .i64 at_, .slice a1 old.length c1, .slice a2 new.length c2] 25)).alloc (.cells #[.int .i64 kind2, .string p2, .string q2, .int .i64 at2, .slice a3 old2.length c3, .slice a4 new2.length c4] 25)).alloc (.cells #[.int .i64 0, .string ⟨#[]⟩, .string ⟨#[]⟩, .int .i64 0, .slice none 0 0, .slice none 0 0] 25)).alloc (.cells #[.int .i64 0, .string ⟨#[]⟩, .string ⟨#[]⟩, .int .i64 0, .slice none 0 0, .slice none 0 0] 25)) = wa at *
    refine CW.out.mono ?_
    rintro e wb ⟨rfl, hb⟩
    replace HX := Lib.hid (HX.out.on hb)
    replace HY := Lib.hid (HY.out.on hb)
    replace HG := Lib.hid (HG.out.on hb)
    replace HH := Lib.hid (HH.out.on hb)
    replace HA := Lib.hid (HA.out.trans (hb.mono HA.out.size))
    clear hb
    clear CW
    have b0 := HX.out.c0
    have b1 := HX.out.c1
    have b2 := HX.out.c2
    have b3 := HX.out.c3
    have b4 := HX.out.c4
    have b5 := HX.out.c5
    have d0 := HY.out.c0
    have d1 := HY.out.c1
    have d2 := HY.out.c2
    have d3 := HY.out.c3
    have d4 := HY.out.c4
    have d5 := HY.out.c5
    go_wp2_with fail
    clear b0 b1 b2 b3 b4 b5 d0 d1 d2 d3 d4 d5
    refine (CT.out wb HA.out).mono ?_
    rintro e wc ⟨y7, y8, rfl, hy, hb⟩
    replace HX := Lib.hid (HX.out.on hb)
    replace HY := Lib.hid (HY.out.on hb)
    replace HG := Lib.hid (HG.out.on hb)
    replace HH := Lib.hid (HH.out.on hb)
    replace HA := Lib.hid (HA.out.trans (hb.mono HA.out.size))
    clear hb
    have HS := Lib.hid hy.out
    obtain ⟨bl, b7, b8⟩ := box2 wc y7 y8
    have e1 : ((wc.alloc (.cells y7.cells.toArray 25)).alloc (.cells y8.cells.toArray 25)) = ((wc.alloc (.cells #[.int .i64 y7.kind, .string y7.p, .string y7.dst, .int .i64 y7.at_, .slice y7.a1 y7.old.length y7.c1, .slice y7.a2 y7.new.length y7.c2] 25)).alloc (.cells #[.int .i64 y8.kind, .string y8.p, .string y8.dst, .int .i64 y8.at_, .slice y8.a1 y8.old.length y8.c1, .slice y8.a2 y8.new.length y8.c2] 25)) := rfl
    rw [e1] at bl b7 b8
    have B7 := Lib.hid b7
    have B8 := Lib.hid b8
    have BL := Lib.hid bl
    have hsz : w.heap.size + 1 + 1 + 1 < wc.heap.size := HH.out.lt
    clear hy b7 b8 bl e1 CT HX HY
    cases tn with
    | none =>
      have hcd : cd = 13 := HCD.out.symm
      subst hcd
      have HG := Lib.hid (HG.out.on BL.out)
      have HH := Lib.hid (HH.out.on BL.out)
      have g0 := HG.out.c0
      have gf0 := HG.out.fz 0
      have h0 := HH.out.c0
      have hf0 := HH.out.fz 0
      have g1 := HG.out.c1
      have gf1 := HG.out.fz 1
      have h1 := HH.out.c1
      have hf1 := HH.out.fz 1
      have g2 := HG.out.c2
      have gf2 := HG.out.fz 2
      have h2 := HH.out.c2
      have hf2 := HH.out.fz 2
      have g3 := HG.out.c3
      have gf3 := HG.out.fz 3
      have h3 := HH.out.c3
      have hf3 := HH.out.fz 3
      have g4 := HG.out.c4
      have gf4 := HG.out.fz 4
      have h4 := HH.out.c4
      have hf4 := HH.out.fz 4
      have g5 := HG.out.c5
      have gf5 := HG.out.fz 5
      have h5 := HH.out.c5
      have hf5 := HH.out.fz 5
      have HTW := Lib.hid (two_set (w := w) (.int .i64 13) (HA.out.trans (BL.out.mono HA.out.size)) (show w.heap.size ≤ w.heap.size + 1 + 1 by omega) (show w.heap.size ≤ w.heap.size + 1 + 1 + 1 by omega) (show w.heap.size + 1 + 1 ≠ w.heap.size + 1 + 1 + 1 by omega) HG.out HH.out (sep_zero _) (sep_zero _) (rfl : _ = zeroP) (rfl : _ = zeroP))
      have HT1 := Lib.hid HTW.out.1
      have HT2 := Lib.hid HTW.out.2.1
      have HT3 := Lib.hid HTW.out.2.2
      clear HTW HS B7 B8 BL
      go_wp2
      (try simp only [Exit.inBlock, Exit.then])
      refine bodyPost_ret (ret_prim3 rfl _ _ _ _ ⟨0, ⟨#[]⟩, ⟨#[]⟩, 0, none, 0, [], none, 0, []⟩ ⟨0, ⟨#[]⟩, ⟨#[]⟩, 0, none, 0, [], none, 0, []⟩ _ rfl rfl rfl HT2.out HT3.out) rfl ?_
      exact HT1.out
    | some r =>
      have hcd : cd = 0 := HCD.out.symm
      subst hcd
      have HS7 := Lib.hid (HS.out.1.on BL.out)
      have HS8 := Lib.hid (HS.out.2.1.on BL.out)
      have K7 := Lib.hid HS.out.2.2.1
      have K8 := Lib.hid HS.out.2.2.2
      have HG := Lib.hid (HG.out.on BL.out)
      have HH := Lib.hid (HH.out.on BL.out)
      have HA2 := Lib.hid (HA.out.trans (BL.out.mono HA.out.size))
      go_wp2_with fail
      generalize ((wc.alloc (.cells #[.int .i64 y7.kind, .string y7.p, .string y7.dst, .int .i64 y7.at_, .slice y7.a1 y7.old.length y7.c1, .slice y7.a2 y7.new.length y7.c2] 25)).alloc (.cells #[.int .i64 y8.kind, .string y8.p, .string y8.dst, .int .i64 y8.at_, .slice y8.a1 y8.old.length y8.c1, .slice y8.a2 y8.new.length y8.c2] 25)) = wd at *
      obtain ⟨l0, l1, l2, l3, l4, l5, l6, l7, l8, l9, l10, l11⟩ := six_six B7.out B8.out
      have tg := HG.out
      have th := HH.out
      have HTW := Lib.hid (two_set (w := w) (.int .i64 0) HA2.out (show w.heap.size ≤ w.heap.size + 1 + 1 by omega) (show w.heap.size ≤ w.heap.size + 1 + 1 + 1 by omega) (show w.heap.size + 1 + 1 ≠ w.heap.size + 1 + 1 + 1 by omega) tg th HS7.out HS8.out K7.out K8.out)
      have HT1 := Lib.hid HTW.out.1.draw
      have HT2 := Lib.hid HTW.out.2.1.draw
      have HT3 := Lib.hid HTW.out.2.2.draw
      have g0 := tg.c0
      have gf0 := tg.fz 0
      have h0 := th.c0
      have hf0 := th.fz 0
      have g1 := tg.c1
      have gf1 := tg.fz 1
      have h1 := th.c1
      have hf1 := th.fz 1
      have g2 := tg.c2
      have gf2 := tg.fz 2
      have h2 := th.c2
      have hf2 := th.fz 2
      have g3 := tg.c3
      have gf3 := tg.fz 3
      have h3 := th.c3
      have hf3 := th.fz 3
      have g4 := tg.c4
      have gf4 := tg.fz 4
      have h4 := th.c4
      have hf4 := th.fz 4
      have g5 := tg.c5
      have gf5 := tg.fz 5
      have h5 := th.c5
      have hf5 := th.fz 5
      clear tg th HTW HS7 HS8 HS
      go_region
      all_goals
        clear l0 l1 l2 l3 l4 l5 l6 l7 l8 l9 l10 l11 g0 gf0 h0 hf0 g1 gf1 h1 hf1 g2 gf2 h2 hf2 g3 gf3 h3 hf3 g4 gf4 h4 hf4 g5 gf5 h5 hf5
        go_wp2
        (try simp only [Exit.inBlock, Exit.then])
        refine bodyPost_ret (ret_prim3 rfl _ _ _ _ y7 y8 _ rfl rfl rfl HT2.out HT3.out) rfl ?_
        exact HT1.out
  · have hpr := HW.out.1 h0
    subst hpr
    have hn : (n != 0) = true := by simpa using h0
    have hn2 : (n == 0) = false := by simpa using h0
    clear HW CT h0
    go_enter Tryz.func9, Tryz.ntmps9
    go_wp2_with fail
    generalize ((((w.alloc (.cells #[.int .i64 kind, .string p, .string q, .int .i64 at_, .slice a1 old.length c1, .slice a2 new.length c2] 25)).alloc (.cells #[.int .i64 kind2, .string p2, .string q2, .int .i64 at2, .slice a3 old2.length c3, .slice a4 new2.length c4] 25)).alloc (.cells #[.int .i64 0, .string ⟨#[]⟩, .string ⟨#[]⟩, .int .i64 0, .slice none 0 0, .slice none 0 0] 25)).alloc (.cells #[.int .i64 0, .string ⟨#[]⟩, .string ⟨#[]⟩, .int .i64 0, .slice none 0 0, .slice none 0 0] 25)) = wa at *
    refine CW.out.mono ?_
    rintro e wb ⟨rfl, hb⟩
    replace HX := Lib.hid (HX.out.on hb)
    replace HY := Lib.hid (HY.out.on hb)
    replace HG := Lib.hid (HG.out.on hb)
    replace HH := Lib.hid (HH.out.on hb)
    replace HA := Lib.hid (HA.out.trans (hb.mono HA.out.size))
    clear hb
    clear CW
    have g0 := HG.out.c0
    have gf0 := HG.out.fz 0
    have h0 := HH.out.c0
    have hf0 := HH.out.fz 0
    have g1 := HG.out.c1
    have gf1 := HG.out.fz 1
    have h1 := HH.out.c1
    have hf1 := HH.out.fz 1
    have g2 := HG.out.c2
    have gf2 := HG.out.fz 2
    have h2 := HH.out.c2
    have hf2 := HH.out.fz 2
    have g3 := HG.out.c3
    have gf3 := HG.out.fz 3
    have h3 := HH.out.c3
    have hf3 := HH.out.fz 3
    have g4 := HG.out.c4
    have gf4 := HG.out.fz 4
    have h4 := HH.out.c4
    have hf4 := HH.out.fz 4
    have g5 := HG.out.c5
    have gf5 := HG.out.fz 5
    have h5 := HH.out.c5
    have hf5 := HH.out.fz 5
    have HTW := Lib.hid (two_set (w := w) (.int .i64 n) HA.out (show w.heap.size ≤ w.heap.size + 1 + 1 by omega) (show w.heap.size ≤ w.heap.size + 1 + 1 + 1 by omega) (show w.heap.size + 1 + 1 ≠ w.heap.size + 1 + 1 + 1 by omega) HG.out HH.out (sep_zero _) (sep_zero _) (rfl : _ = zeroP) (rfl : _ = zeroP))
    have HT1 := Lib.hid HTW.out.1
    have HT2 := Lib.hid HTW.out.2.1
    have HT3 := Lib.hid HTW.out.2.2
    clear HTW
    go_wp2
    (try simp only [Exit.inBlock, Exit.then])
    refine bodyPost_ret (ret_prim3 rfl _ _ _ _ ⟨0, ⟨#[]⟩, ⟨#[]⟩, 0, none, 0, [], none, 0, []⟩ ⟨0, ⟨#[]⟩, ⟨#[]⟩, 0, none, 0, [], none, 0, []⟩ _ rfl rfl rfl HT2.out HT3.out) rfl ?_
    exact HT1.out

end Go.Proofs.YtknommnlkdlkdaaGreatDoor
namespace Go.Proofs.YtknommnlkdlkdaaGreatDoor
open Go.RowKit
set_option linter.unusedVariables false

set_option maxHeartbeats 8000000 in
set_option maxRecDepth 100000 in
theorem ccan_any (x y : Pm) (w : World) (ox : x.Ok w w.heap.size) (oy : y.Ok w w.heap.size) (wx : WdK x.key) (wy : WdK y.key) (hT : Tabs w) (k1 k2 : Pk) (hpr : pairP x.key y.key = (0, k1, k2)) :
    Calls Tryz.prog 13 #[x.val, y.val] w fun e w' => e = .returned (.bool true) ∧ Below w.heap.size w w' := by
  obtain ⟨hal, hx, hy⟩ := box2 w x y
  have C := cpair_any x y ((w.alloc (.cells x.cells.toArray 25)).alloc (.cells y.cells.toArray 25)) (ox.on hal) (oy.on hal) wx wy (Tabs.on hT hal)
  unfold pairLeft at C
  rw [hpr] at C
  have HA := Lib.hid hal
  clear hx hy hpr wx wy ox oy hT hal
  obtain ⟨kind, p, q, at_, a1, c1, old, a2, c2, new⟩ := x
  obtain ⟨kind2, p2, q2, at2, a3, c3, old2, a4, c4, new2⟩ := y
  unfold Pm.val at C ⊢
  simp only [] at C ⊢
  have e0 : ((w.alloc (.cells (Pm.cells ⟨kind, p, q, at_, a1, c1, old, a2, c2, new⟩).toArray 25)).alloc (.cells (Pm.cells ⟨kind2, p2, q2, at2, a3, c3, old2, a4, c4, new2⟩).toArray 25)) = ((w.alloc (.cells #[.int .i64 kind, .string p, .string q, .int .i64 at_, .slice a1 old.length c1, .slice a2 new.length c2] 25)).alloc (.cells #[.int .i64 kind2, .string p2, .string q2, .int .i64 at2, .slice a3 old2.length c3, .slice a4 new2.length c4] 25)) := rfl
  rw [e0] at C HA
  have C := Lib.hid C
  clear e0
  go_enter Tryz.func13, Tryz.ntmps13
  go_wp2_with fail
  generalize ((w.alloc (.cells #[.int .i64 kind, .string p, .string q, .int .i64 at_, .slice a1 old.length c1, .slice a2 new.length c2] 25)).alloc (.cells #[.int .i64 kind2, .string p2, .string q2, .int .i64 at2, .slice a3 old2.length c3, .slice a4 new2.length c4] 25)) = wa at *
  refine C.out.mono ?_
  rintro e wc ⟨y7, y8, rfl, hy, hb⟩
  have hX := HA.out.trans (hb.mono HA.out.size)
  have hX1 := hX.alloc hX.size (.cells #[.int .i64 y7.kind, .string y7.p, .string y7.dst, .int .i64 y7.at_, .slice y7.a1 y7.old.length y7.c1, .slice y7.a2 y7.new.length y7.c2] 25)
  have HB := Lib.hid (hX1.alloc hX1.size (.cells #[.int .i64 y8.kind, .string y8.p, .string y8.dst, .int .i64 y8.at_, .slice y8.a1 y8.old.length y8.c1, .slice y8.a2 y8.new.length y8.c2] 25))
  clear hX hX1
  clear hy hb
  go_wp2
  go_ret
  exact ⟨rfl, HB.out⟩
set_option maxHeartbeats 8000000 in
set_option maxRecDepth 100000 in
theorem capart2_any (x y : Pm) (w : World) (ox : x.Ok w w.heap.size) (oy : y.Ok w w.heap.size) (wx : WdK x.key) (wy : WdK y.key) (hT : Tabs w) (hx0 : ckP x.key = 0) (hy0 : ckP y.key = 0) (r : Bool) (hr : apartP x.key y.key = r) :
    Calls Tryz.prog 14 #[x.val, y.val] w fun e w' => e = .returned (.bool r) ∧ Below w.heap.size w w' := by
  have CW := Lib.hid (fun W (hb : Below w.heap.size w W) => cwrong_any x y W (ox.on hb) (oy.on hb) wx wy (Tabs.on hT hb) 0 (by unfold wrongP; rw [if_pos hx0, hy0]))
  have CP := Lib.hid (fun W => capart_any x y W wx.p wx.q wy.p wy.q r ((clear_apart hx0 hy0).trans hr))
  clear ox oy wx wy hT hx0 hy0 hr
  obtain ⟨kind, p, q, at_, a1, c1, old, a2, c2, new⟩ := x
  obtain ⟨kind2, p2, q2, at2, a3, c3, old2, a4, c4, new2⟩ := y
  unfold Pm.val at CW CP ⊢
  simp only [] at CW CP ⊢
  obtain ⟨hal, hx, hy⟩ := box2 w ⟨kind, p, q, at_, a1, c1, old, a2, c2, new⟩ ⟨kind2, p2, q2, at2, a3, c3, old2, a4, c4, new2⟩
  have e0 : ((w.alloc (.cells (Pm.cells ⟨kind, p, q, at_, a1, c1, old, a2, c2, new⟩).toArray 25)).alloc (.cells (Pm.cells ⟨kind2, p2, q2, at2, a3, c3, old2, a4, c4, new2⟩).toArray 25)) = ((w.alloc (.cells #[.int .i64 kind, .string p, .string q, .int .i64 at_, .slice a1 old.length c1, .slice a2 new.length c2] 25)).alloc (.cells #[.int .i64 kind2, .string p2, .string q2, .int .i64 at2, .slice a3 old2.length c3, .slice a4 new2.length c4] 25)) := rfl
  rw [e0] at hal hx hy
  have HX := Lib.hid hx
  have HY := Lib.hid hy
  have HA := Lib.hid hal
  clear hal hx hy e0
  go_enter Tryz.func14, Tryz.ntmps14
  go_wp2_with fail
  generalize ((w.alloc (.cells #[.int .i64 kind, .string p, .string q, .int .i64 at_, .slice a1 old.length c1, .slice a2 new.length c2] 25)).alloc (.cells #[.int .i64 kind2, .string p2, .string q2, .int .i64 at2, .slice a3 old2.length c3, .slice a4 new2.length c4] 25)) = wa at *
  refine (CW.out wa HA.out).mono ?_
  rintro e wb ⟨rfl, hb⟩
  replace HX := Lib.hid (HX.out.on hb)
  replace HY := Lib.hid (HY.out.on hb)
  replace HA := Lib.hid (HA.out.trans (hb.mono HA.out.size))
  clear hb CW
  have b0 := HX.out.c0
  have b1 := HX.out.c1
  have b2 := HX.out.c2
  have b3 := HX.out.c3
  have b4 := HX.out.c4
  have b5 := HX.out.c5
  have d0 := HY.out.c0
  have d1 := HY.out.c1
  have d2 := HY.out.c2
  have d3 := HY.out.c3
  have d4 := HY.out.c4
  have d5 := HY.out.c5
  go_wp2_with fail
  clear b0 b1 b2 b3 b4 b5 d0 d1 d2 d3 d4 d5
  refine (CP.out wb).mono ?_
  rintro e wc ⟨rfl, hb⟩
  have HB := Lib.hid (HA.out.trans (hb.mono HA.out.size))
  clear hb
  go_wp2
  go_ret
  exact ⟨rfl, HB.out⟩
set_option maxHeartbeats 8000000 in
set_option maxRecDepth 100000 in
theorem ctouches_any (x : Pm) (w : World) (ox : x.Ok w w.heap.size) (wx : WdK x.key) (hT : Tabs w) (hx0 : ckP x.key = 0) :
    Calls Tryz.prog 15 #[x.val] w (RowLeft w (touches x.key)) := by
  obtain ⟨hal, hx⟩ := box1 w x
  have CK := check_w (ox.on hal) wx (Tabs.on hT hal)
  rw [hx0] at CK
  have CT := fun W => ctouched_any x W
  generalize touches x.key = t at *
  clear ox wx hT hx0
  obtain ⟨kind, p, q, at_, a1, c1, old, a2, c2, new⟩ := x
  unfold Pm.val at CK CT ⊢
  simp only [] at CK CT ⊢
  have e0 : (w.alloc (.cells (Pm.cells ⟨kind, p, q, at_, a1, c1, old, a2, c2, new⟩).toArray 25)) = (w.alloc (.cells #[.int .i64 kind, .string p, .string q, .int .i64 at_, .slice a1 old.length c1, .slice a2 new.length c2] 25)) := rfl
  rw [e0] at hal hx CK
  have HX := Lib.hid hx
  have HA := Lib.hid hal
  have CK := Lib.hid CK
  have CT := Lib.hid CT
  clear hal hx e0
  go_enter Tryz.func15, Tryz.ntmps15
  go_wp2_with fail
  generalize (w.alloc (.cells #[.int .i64 kind, .string p, .string q, .int .i64 at_, .slice a1 old.length c1, .slice a2 new.length c2] 25)) = wa at *
  refine CK.out.mono ?_
  rintro e wb ⟨rfl, hb⟩
  replace HX := Lib.hid (HX.out.on hb)
  replace HA := Lib.hid (HA.out.trans (hb.mono HA.out.size))
  clear hb CK
  have b0 := HX.out.c0
  have b1 := HX.out.c1
  have b2 := HX.out.c2
  have b3 := HX.out.c3
  have b4 := HX.out.c4
  have b5 := HX.out.c5
  go_wp2_with fail
  clear b0 b1 b2 b3 b4 b5
  refine (CT.out wb).mono ?_
  rintro e wc ⟨A, c, rfl, hn, hs, hb⟩
  have HR : Hid (RowLeft w t (.returned (.slice A t.length c)) wc) := ⟨A, c, rfl, hn, hs, HA.out.trans (hb.mono HA.out.size)⟩
  clear hn hs hb
  go_wp2
  go_ret
  exact HR.out

end Go.Proofs.YtknommnlkdlkdaaGreatDoor
