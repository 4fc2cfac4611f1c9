/- The reference's Pair of layer 8. -/
import Derived.BigQuiet
import Derived.Deep.QuietTactic
import Derived.Handy
import Derived.Test.YtalabahjfmcnbaaGreatDoorShelf
import Derived.Deep.RegionHeld3
import Derived.WalkKit
import Derived.RegionTactic
import Derived.BigRegion
import Derived.Test.YtalabahjfmcnbaaGreatDoorCk13
import Derived.Test.YtalabahjfmcnbaaGreatDoorCk27
namespace Go.Proofs.YtalabahjfmcnbaaGreatDoor
open Go.RowKit
set_option linter.unusedVariables false

theorem zero_okB (w : World) (B : Nat) : Pm.Ok ⟨0, ⟨#[]⟩, ⟨#[]⟩, 0, none, 0, [], none, 0, []⟩ w B :=
  ⟨⟨Strs.none_, Strs.none_, ⟨fun _ => rfl, Nat.le_refl _⟩, ⟨fun _ => rfl, Nat.le_refl _⟩, by show (-9223372036854775808 : Int) ≤ 0; decide, by show (0 : Int) ≤ 9223372036854775807; decide, by show (0 : Nat) ≤ 9223372036854775807; decide, by show (0 : Nat) ≤ 9223372036854775807; decide⟩, by show (0 : Nat) ≤ 9223372036854775807; decide, by show (0 : Nat) ≤ 9223372036854775807; decide, by show (-9223372036854775808 : Int) ≤ 0; decide, by show (0 : Int) ≤ 9223372036854775807; decide⟩
theorem ok_at {x : Pm} {w : World} {B : Nat} (k : x.Ok w B) {t : Int} (h1 : -9223372036854775808 ≤ t) (h2 : t ≤ 9223372036854775807) : Pm.Ok { x with at_ := t } w B := ⟨⟨k.h.old, k.h.new, k.h.r1, k.h.r2, h1, h2, k.h.n1, k.h.n2⟩, k.p, k.q, k.lo, k.hi⟩
theorem ok_p {x : Pm} {w : World} {B : Nat} (k : x.Ok w B) {p : ByteArray} (h : p.size ≤ 9223372036854775807) : Pm.Ok { x with p := p } w B := ⟨k.h, h, k.q, k.lo, k.hi⟩
theorem pm_set3 {w : World} {g : Nat} {x : Pm} (k : PrimAt w g x) (t : Int) : PrimAt (w.setCell ⟨g, 3, none⟩ (.int .i64 t)) g { x with at_ := t } := by
  unfold PrimAt at k ⊢
  simp [World.setCell, Array.getElem?_modify, k, Pm.cells]
theorem pm_set1 {w : World} {g : Nat} {x : Pm} (k : PrimAt w g x) (p : ByteArray) : PrimAt (w.setCell ⟨g, 1, none⟩ (.string p)) g { x with p := p } := by
  unfold PrimAt at k ⊢
  simp [World.setCell, Array.getElem?_modify, k, Pm.cells]
theorem two_setB {w w2 : World} {B G H : Nat} {y0 z0 y z : Pm} {res : Int × Pk × Pk} {n : Int} (hb : Below w.heap.size w w2) (hB : B ≤ w.heap.size) (hG : w.heap.size ≤ G) (hH : w.heap.size ≤ H) (hne : G ≠ H) (hP : PrimAt w2 G y0) (hQ : PrimAt w2 H z0) (hy : y.Ok w2 B) (hz : z.Ok w2 B) (hk : res = (n, y.key, z.key)) :
    PairB w B res (.returned (.tuple #[.agg #[.int .i64 y.kind, .string y.p, .string y.dst, .int .i64 y.at_, .slice y.a1 y.old.length y.c1, .slice y.a2 y.new.length y.c2], .agg #[.int .i64 z.kind, .string z.p, .string z.dst, .int .i64 z.at_, .slice z.a1 z.old.length z.c1, .slice z.a2 z.new.length z.c2], .int .i64 n])) (setPrim (setPrim w2 G y) H z) ∧ PrimAt (setPrim (setPrim w2 G y) H z) G y ∧ PrimAt (setPrim (setPrim w2 G y) H z) H z := by
  have g1 := setPrim_grown w2 G y
  have p1 := setPrim_at hP y
  have q1 := hQ.grown g1 (by simpa using hne)
  have g2 := setPrim_grown (setPrim w2 G y) H z
  have b1 := below_prim y hb hG hb.size
  have hs : w.heap.size ≤ (setPrim w2 G y).heap.size := by rw [setPrim_size]; exact hb.size
  have hB2 : B ≤ w2.heap.size := Nat.le_trans hB hb.size
  have c1 := below_prim (B := B) y (Below.refl B w2) (Nat.le_trans hB hG) hB2
  have c2 := below_prim (B := B) z c1 (Nat.le_trans hB hH) (by rw [setPrim_size]; exact hB2)
  exact ⟨⟨y, z, n, rfl, ⟨hy.below c2, hz.below c2, hk⟩, below_prim z b1 hH hs⟩, p1.grown g2 (by simpa using Ne.symm hne), setPrim_at q1 z⟩
theorem turn_res {p q b a : Pk} (h : turnP p q = some (b, a)) : (((if (turnP p q).isSome = true then (0 : Int) else 13), (turnP p q).getD (zeroP, zeroP)) : Int × Pk × Pk) = (0, b, a) := by rw [h]; rfl
theorem turn_non {p q : Pk} (h : turnP p q = none) : (((if (turnP p q).isSome = true then (0 : Int) else 13), (turnP p q).getD (zeroP, zeroP)) : Int × Pk × Pk) = (13, zeroP, zeroP) := by rw [h]; rfl
set_option maxHeartbeats 40000000 in
set_option maxRecDepth 100000 in
theorem refpair8_any (x y : Pm) (w : World) (B : Nat) (hB : B ≤ w.heap.size) (ox : x.Ok w B) (oy : y.Ok w B) (wx : WdK x.key) (wy : WdK y.key) (hT : Tabs w) :
    Calls Tryz.prog 26 #[x.val, y.val] w (PairB w B (pairP x.key y.key)) := by
  have C1 := Lib.hid (fun W (hb : Below w.heap.size w W) => refck_w ((ox.more hB).on hb) wx (Tabs.on hT hb))
  have C2 := Lib.hid (fun W (hb : Below w.heap.size w W) => refck_w ((oy.more hB).on hb) wy (Tabs.on hT hb))
  have OX := Lib.hid (fun W (hb : Below w.heap.size w W) => ox.below (hb.mono hB))
  have OY := Lib.hid (fun W (hb : Below w.heap.size w W) => oy.below (hb.mono hB))
  have CA := Lib.hid (fun h1 h2 W (hb : Below w.heap.size w W) r hr => refapart_any x y W ((ox.more hB).on hb) ((oy.more hB).on hb) wx wy (Tabs.on hT hb) h1 h2 r hr)
  have HPQ : Hid (x.p.size ≤ 9223372036854775807 ∧ y.dst.size ≤ 9223372036854775807) := ⟨ox.p, oy.q⟩
  have HB0 := Lib.hid hB
  have RX : Hid (-9223372036854775808 ≤ x.at_ ∧ x.at_ ≤ 9223372036854775807 ∧ -9223372036854775808 ≤ y.at_ ∧ y.at_ ≤ 9223372036854775807) := ⟨ox.h.lo, ox.h.hi, oy.h.lo, oy.h.hi⟩
  clear ox oy wx wy hT hB
  unfold Pm.val at C1 C2 CA ⊢
  obtain ⟨hal, hx, hy, hg, hh⟩ := box4 w x y
  have e0 : ((((w.alloc (.cells x.cells.toArray 33)).alloc (.cells y.cells.toArray 33)).alloc (.cells (Pm.cells ⟨0, ⟨#[]⟩, ⟨#[]⟩, 0, none, 0, [], none, 0, []⟩).toArray 33)).alloc (.cells (Pm.cells ⟨0, ⟨#[]⟩, ⟨#[]⟩, 0, none, 0, [], none, 0, []⟩).toArray 33)) = ((((w.alloc (.cells #[.int .i64 x.kind, .string x.p, .string x.dst, .int .i64 x.at_, .slice x.a1 x.old.length x.c1, .slice x.a2 x.new.length x.c2] 33)).alloc (.cells #[.int .i64 y.kind, .string y.p, .string y.dst, .int .i64 y.at_, .slice y.a1 y.old.length y.c1, .slice y.a2 y.new.length y.c2] 33)).alloc (.cells #[.int .i64 0, .string ⟨#[]⟩, .string ⟨#[]⟩, .int .i64 0, .slice none 0 0, .slice none 0 0] 33)).alloc (.cells #[.int .i64 0, .string ⟨#[]⟩, .string ⟨#[]⟩, .int .i64 0, .slice none 0 0, .slice none 0 0] 33)) := rfl
  rw [e0] at hal hx hy hg hh
  have HX := Lib.hid hx
  have HY := Lib.hid hy
  have HG := Lib.hid hg
  have HH := Lib.hid hh
  have HA := Lib.hid hal
  clear hal hx hy hg hh e0
  by_cases h1 : ckP x.key = 0
  · by_cases h2 : ckP y.key = 0
    · have hpt := pair_turn h1 h2
      obtain ⟨R9, hR9⟩ : ∃ r, pairP x.key y.key = r := ⟨_, rfl⟩
      rw [hR9] at hpt ⊢
      have HT := Lib.hid (turn_ways x y)
      have HN6 := Lib.hid (fun (h6 : x.kind = 6) => ck_nums h1 h6)
      have HM6 := Lib.hid (fun (h6 : y.kind = 6) => ck_nums h2 h6)
      have CA := Lib.hid (CA.out h1 h2)
      rw [h1] at C1
      rw [h2] at C2
      have HPT := Lib.hid hpt
      clear hpt h1 h2 hR9
      by_cases w1 : x.kind = 6 ∧ y.kind = 6 ∧ x.p = y.p
      · have HTW1 := Lib.hid (HT.out.1 w1)
        obtain ⟨a1, a2, a3⟩ : 0 ≤ x.at_ ∧ x.old.length ≤ 2000 ∧ x.new.length ≤ 2000 := HN6.out w1.1
        obtain ⟨c1, c2, c3⟩ : 0 ≤ y.at_ ∧ y.old.length ≤ 2000 ∧ y.new.length ≤ 2000 := HM6.out w1.2.1
        obtain ⟨r1, r2, r3, r4⟩ := RX.out
        have k1 : (x.kind == 6) = true := by simpa using w1.1
        have k2 : (y.kind == 6) = true := by simpa using w1.2.1
        have k3 : (x.p.toList == y.p.toList) = true := by rw [str_beq]; exact decide_eq_true w1.2.2
        obtain ⟨s, hs⟩ : ∃ s, y.at_ - (x.new.length : Int) = s := ⟨_, rfl⟩
        have hs1 : IntKind.i64.wrap (y.at_ - (x.new.length : Int)) = s := by rw [hs]; exact IntWalk.i64_in _ (by omega)
        by_cases l1 : x.at_ < s
        · obtain ⟨t, ht⟩ : ∃ t, IntKind.i64.wrap (s + (x.old.length : Int)) = t := ⟨_, rfl⟩
          have htb : -9223372036854775808 ≤ t ∧ t ≤ 9223372036854775807 := by rw [← ht, IntWalk.i64_left]; exact wrap_lo _
          have HRS : Hid (R9 = (0, Pm.key { y with at_ := t }, x.key)) := by
            have e : shiftP x.key y.key = some (Pm.key { y with at_ := t }, x.key) := by
              unfold shiftP
              rw [if_pos (show x.key.at_ + (x.key.new.length : Int) < y.key.at_ by show x.at_ + (x.new.length : Int) < y.at_; omega)]
              show some ((⟨y.kind, y.p.data.toList, y.dst.data.toList, wrap64 (y.at_ - (x.new.length : Int) + (x.old.length : Int)), y.old, y.new⟩ : Pk), x.key) = _
              rw [hs, ← IntWalk.i64_left, ht]
              rfl
            exact HPT.out.trans (turn_res (HTW1.out.trans e))
          have HTB := Lib.hid htb
          have l1' : ¬ s ≤ x.at_ := by omega
          clear w1 a1 a2 a3 c1 c2 c3 r1 r2 r3 r4 hs htb HT CA HN6 HM6 RX HPT HTW1
          go_enter Tryz.func26, Tryz.ntmps26
          go_wp2_with fail
          generalize hwa : ((((w.alloc (.cells #[.int .i64 x.kind, .string x.p, .string x.dst, .int .i64 x.at_, .slice x.a1 x.old.length x.c1, .slice x.a2 x.new.length x.c2] 33)).alloc (.cells #[.int .i64 y.kind, .string y.p, .string y.dst, .int .i64 y.at_, .slice y.a1 y.old.length y.c1, .slice y.a2 y.new.length y.c2] 33)).alloc (.cells #[.int .i64 0, .string ⟨#[]⟩, .string ⟨#[]⟩, .int .i64 0, .slice none 0 0, .slice none 0 0] 33)).alloc (.cells #[.int .i64 0, .string ⟨#[]⟩, .string ⟨#[]⟩, .int .i64 0, .slice none 0 0, .slice none 0 0] 33)) = wa at *
          clear hwa
          refine (C1.out wa HA.out).mono ?_
          rintro e wb ⟨rfl, hb⟩
          replace HX := Lib.hid (HX.out.on hb)
          replace HY := Lib.hid (HY.out.on hb)
          replace HG := Lib.hid (HG.out.on hb)
          replace HH := Lib.hid (HH.out.on hb)
          replace HA := Lib.hid (HA.out.trans (hb.mono HA.out.size))
          clear hb
          have y0 := HY.out.c0
          have y1 := HY.out.c1
          have y2 := HY.out.c2
          have y3 := HY.out.c3
          have y4 := HY.out.c4
          have y5 := HY.out.c5
          go_wp2_with fail
          refine (C2.out wb HA.out).mono ?_
          rintro e wc ⟨rfl, hb⟩
          replace HX := Lib.hid (HX.out.on hb)
          replace HY := Lib.hid (HY.out.on hb)
          replace HG := Lib.hid (HG.out.on hb)
          replace HH := Lib.hid (HH.out.on hb)
          replace HA := Lib.hid (HA.out.trans (hb.mono HA.out.size))
          clear hb
          clear y0 y1 y2 y3 y4 y5
          have OXc := Lib.hid (OX.out wc HA.out)
          have OYc := Lib.hid (OY.out wc HA.out)
          have x0 := HX.out.c0
          have x1 := HX.out.c1
          have x2 := HX.out.c2
          have x3 := HX.out.c3
          have x4 := HX.out.c4
          have x5 := HX.out.c5
          have y0 := HY.out.c0
          have y1 := HY.out.c1
          have y2 := HY.out.c2
          have y3 := HY.out.c3
          have y4 := HY.out.c4
          have y5 := HY.out.c5
          have xfz := HY.out.fz 3
          go_upto_region 10 with (fail)
          have hgr := grown_cell wc (w.heap.size + 1) 3 (.int .i64 t)
          have hbB : Below B wc (wc.setCell ⟨w.heap.size + 1, 3, none⟩ (.int .i64 t)) := (Below.refl B wc).setCell (show B ≤ w.heap.size + 1 by have := HB0.out; omega) _
          have HYL := Lib.hid (pm_set3 HY.out t)
          have HXL := Lib.hid (HX.out.grown hgr (fun e => by simp only [Option.some.injEq] at e; omega))
          replace HG := Lib.hid (HG.out.grown hgr (fun e => by simp only [Option.some.injEq] at e; omega))
          replace HH := Lib.hid (HH.out.grown hgr (fun e => by simp only [Option.some.injEq] at e; omega))
          replace HA := Lib.hid (HA.out.setCell (show w.heap.size ≤ w.heap.size + 1 by omega) (.int .i64 t) (p := ⟨w.heap.size + 1, 3, none⟩))
          replace OXc := Lib.hid (OXc.out.below hbB)
          replace OYc := Lib.hid (OYc.out.below hbB)
          clear hgr hbB
          clear x0 y0 x1 y1 x2 y2 x3 y3 x4 y4 x5 y5
          clear xfz
          generalize (wc.setCell ⟨w.heap.size + 1, 3, none⟩ (.int .i64 t)) = wL at *
          have HTW := Lib.hid (two_setB (w := w) (n := 0) HA.out HB0.out (show w.heap.size ≤ w.heap.size + 1 + 1 by omega) (show w.heap.size ≤ w.heap.size + 1 + 1 + 1 by omega) (show w.heap.size + 1 + 1 ≠ w.heap.size + 1 + 1 + 1 by omega) HG.out HH.out (ok_at OYc.out HTB.out.1 HTB.out.2) (OXc.out) HRS.out)
          have HT1 := Lib.hid HTW.out.1.draw
          have HT2 := Lib.hid HTW.out.2.1.draw
          have HT3 := Lib.hid HTW.out.2.2.draw
          clear HTW
          have g0 := HG.out.c0
          have gf0 := HG.out.fz 0
          have h0 := HH.out.c0
          have hf0 := HH.out.fz 0
          have g1 := HG.out.c1
          have gf1 := HG.out.fz 1
          have h1 := HH.out.c1
          have hf1 := HH.out.fz 1
          have g2 := HG.out.c2
          have gf2 := HG.out.fz 2
          have h2 := HH.out.c2
          have hf2 := HH.out.fz 2
          have g3 := HG.out.c3
          have gf3 := HG.out.fz 3
          have h3 := HH.out.c3
          have hf3 := HH.out.fz 3
          have g4 := HG.out.c4
          have gf4 := HG.out.fz 4
          have h4 := HH.out.c4
          have hf4 := HH.out.fz 4
          have g5 := HG.out.c5
          have gf5 := HG.out.fz 5
          have h5 := HH.out.c5
          have hf5 := HH.out.fz 5
          have b0 := HXL.out.c0
          have d0 := HYL.out.c0
          have b1 := HXL.out.c1
          have d1 := HYL.out.c1
          have b2 := HXL.out.c2
          have d2 := HYL.out.c2
          have b3 := HXL.out.c3
          have d3 := HYL.out.c3
          have b4 := HXL.out.c4
          have d4 := HYL.out.c4
          have b5 := HXL.out.c5
          have d5 := HYL.out.c5
          go_wp2_with fail
          go_region
          all_goals
            clear g0 gf0 h0 hf0 g1 gf1 h1 hf1 g2 gf2 h2 hf2 g3 gf3 h3 hf3 g4 gf4 h4 hf4 g5 gf5 h5 hf5
            clear b0 d0 b1 d1 b2 d2 b3 d3 b4 d4 b5 d5
            go_wp
            (try simp only [Exit.inBlock, Exit.then])
            refine bodyPost_ret (ret_prim3 rfl _ _ _ _ { y with at_ := t } x _ rfl rfl rfl HT2.out HT3.out) rfl ?_
            exact HT1.out
        · obtain ⟨s2, hs2⟩ : ∃ s, x.at_ - (y.old.length : Int) = s := ⟨_, rfl⟩
          have hs3 : IntKind.i64.wrap (x.at_ - (y.old.length : Int)) = s2 := by rw [hs2]; exact IntWalk.i64_in _ (by omega)
          have l1' : s ≤ x.at_ := by omega
          by_cases l2 : y.at_ < s2
          · obtain ⟨u, hu⟩ : ∃ u, IntKind.i64.wrap (x.at_ + (y.new.length : Int)) = u := ⟨_, rfl⟩
            obtain ⟨t, ht⟩ : ∃ t, IntKind.i64.wrap (u - (y.old.length : Int)) = t := ⟨_, rfl⟩
            have htb : -9223372036854775808 ≤ t ∧ t ≤ 9223372036854775807 := by rw [← ht, IntWalk.i64_left]; exact wrap_lo _
            have HRS : Hid (R9 = (0, y.key, Pm.key { x with at_ := t })) := by
              have e : shiftP x.key y.key = some (y.key, Pm.key { x with at_ := t }) := by
                unfold shiftP
                rw [if_neg (show ¬ x.key.at_ + (x.key.new.length : Int) < y.key.at_ by show ¬ x.at_ + (x.new.length : Int) < y.at_; omega), if_pos (show y.key.at_ + (y.key.old.length : Int) < x.key.at_ by show y.at_ + (y.old.length : Int) < x.at_; omega)]
                show some (y.key, (⟨x.kind, x.p.data.toList, x.dst.data.toList, wrap64 (x.at_ + (y.new.length : Int) - (y.old.length : Int)), x.old, x.new⟩ : Pk)) = _
                have e2 : wrap64 (x.at_ + (y.new.length : Int) - (y.old.length : Int)) = t := by
                  rw [← ht, ← hu, IntWalk.i64_left, IntWalk.i64_left]
                  unfold wrap64
                  omega
                rw [e2]
                rfl
              exact HPT.out.trans (turn_res (HTW1.out.trans e))
            have HTB := Lib.hid htb
            have l2' : ¬ s2 ≤ y.at_ := by omega
            clear w1 a1 a2 a3 c1 c2 c3 r1 r2 r3 r4 hs hs2 htb HT CA HN6 HM6 RX HPT HTW1
            go_enter Tryz.func26, Tryz.ntmps26
            go_wp2_with fail
            generalize hwa : ((((w.alloc (.cells #[.int .i64 x.kind, .string x.p, .string x.dst, .int .i64 x.at_, .slice x.a1 x.old.length x.c1, .slice x.a2 x.new.length x.c2] 33)).alloc (.cells #[.int .i64 y.kind, .string y.p, .string y.dst, .int .i64 y.at_, .slice y.a1 y.old.length y.c1, .slice y.a2 y.new.length y.c2] 33)).alloc (.cells #[.int .i64 0, .string ⟨#[]⟩, .string ⟨#[]⟩, .int .i64 0, .slice none 0 0, .slice none 0 0] 33)).alloc (.cells #[.int .i64 0, .string ⟨#[]⟩, .string ⟨#[]⟩, .int .i64 0, .slice none 0 0, .slice none 0 0] 33)) = wa at *
            clear hwa
            refine (C1.out wa HA.out).mono ?_
            rintro e wb ⟨rfl, hb⟩
            replace HX := Lib.hid (HX.out.on hb)
            replace HY := Lib.hid (HY.out.on hb)
            replace HG := Lib.hid (HG.out.on hb)
            replace HH := Lib.hid (HH.out.on hb)
            replace HA := Lib.hid (HA.out.trans (hb.mono HA.out.size))
            clear hb
            have y0 := HY.out.c0
            have y1 := HY.out.c1
            have y2 := HY.out.c2
            have y3 := HY.out.c3
            have y4 := HY.out.c4
            have y5 := HY.out.c5
            go_wp2_with fail
            refine (C2.out wb HA.out).mono ?_
            rintro e wc ⟨rfl, hb⟩
            replace HX := Lib.hid (HX.out.on hb)
            replace HY := Lib.hid (HY.out.on hb)
            replace HG := Lib.hid (HG.out.on hb)
            replace HH := Lib.hid (HH.out.on hb)
            replace HA := Lib.hid (HA.out.trans (hb.mono HA.out.size))
            clear hb
            clear y0 y1 y2 y3 y4 y5
            have OXc := Lib.hid (OX.out wc HA.out)
            have OYc := Lib.hid (OY.out wc HA.out)
            have x0 := HX.out.c0
            have x1 := HX.out.c1
            have x2 := HX.out.c2
            have x3 := HX.out.c3
            have x4 := HX.out.c4
            have x5 := HX.out.c5
            have y0 := HY.out.c0
            have y1 := HY.out.c1
            have y2 := HY.out.c2
            have y3 := HY.out.c3
            have y4 := HY.out.c4
            have y5 := HY.out.c5
            have xfz := HX.out.fz 3
            go_upto_region 13 with (fail)
            have hgr := grown_cell wc (w.heap.size) 3 (.int .i64 t)
            have hbB : Below B wc (wc.setCell ⟨w.heap.size, 3, none⟩ (.int .i64 t)) := (Below.refl B wc).setCell (show B ≤ w.heap.size by have := HB0.out; omega) _
            have HXL := Lib.hid (pm_set3 HX.out t)
            have HYL := Lib.hid (HY.out.grown hgr (fun e => by simp only [Option.some.injEq] at e; omega))
            replace HG := Lib.hid (HG.out.grown hgr (fun e => by simp only [Option.some.injEq] at e; omega))
            replace HH := Lib.hid (HH.out.grown hgr (fun e => by simp only [Option.some.injEq] at e; omega))
            replace HA := Lib.hid (HA.out.setCell (show w.heap.size ≤ w.heap.size by omega) (.int .i64 t) (p := ⟨w.heap.size, 3, none⟩))
            replace OXc := Lib.hid (OXc.out.below hbB)
            replace OYc := Lib.hid (OYc.out.below hbB)
            clear hgr hbB
            clear x0 y0 x1 y1 x2 y2 x3 y3 x4 y4 x5 y5
            clear xfz
            generalize (wc.setCell ⟨w.heap.size, 3, none⟩ (.int .i64 t)) = wL at *
            have HTW := Lib.hid (two_setB (w := w) (n := 0) HA.out HB0.out (show w.heap.size ≤ w.heap.size + 1 + 1 by omega) (show w.heap.size ≤ w.heap.size + 1 + 1 + 1 by omega) (show w.heap.size + 1 + 1 ≠ w.heap.size + 1 + 1 + 1 by omega) HG.out HH.out (OYc.out) (ok_at OXc.out HTB.out.1 HTB.out.2) HRS.out)
            have HT1 := Lib.hid HTW.out.1.draw
            have HT2 := Lib.hid HTW.out.2.1.draw
            have HT3 := Lib.hid HTW.out.2.2.draw
            clear HTW
            have g0 := HG.out.c0
            have gf0 := HG.out.fz 0
            have h0 := HH.out.c0
            have hf0 := HH.out.fz 0
            have g1 := HG.out.c1
            have gf1 := HG.out.fz 1
            have h1 := HH.out.c1
            have hf1 := HH.out.fz 1
            have g2 := HG.out.c2
            have gf2 := HG.out.fz 2
            have h2 := HH.out.c2
            have hf2 := HH.out.fz 2
            have g3 := HG.out.c3
            have gf3 := HG.out.fz 3
            have h3 := HH.out.c3
            have hf3 := HH.out.fz 3
            have g4 := HG.out.c4
            have gf4 := HG.out.fz 4
            have h4 := HH.out.c4
            have hf4 := HH.out.fz 4
            have g5 := HG.out.c5
            have gf5 := HG.out.fz 5
            have h5 := HH.out.c5
            have hf5 := HH.out.fz 5
            have b0 := HXL.out.c0
            have d0 := HYL.out.c0
            have b1 := HXL.out.c1
            have d1 := HYL.out.c1
            have b2 := HXL.out.c2
            have d2 := HYL.out.c2
            have b3 := HXL.out.c3
            have d3 := HYL.out.c3
            have b4 := HXL.out.c4
            have d4 := HYL.out.c4
            have b5 := HXL.out.c5
            have d5 := HYL.out.c5
            go_wp2_with fail
            go_region
            all_goals
              clear g0 gf0 h0 hf0 g1 gf1 h1 hf1 g2 gf2 h2 hf2 g3 gf3 h3 hf3 g4 gf4 h4 hf4 g5 gf5 h5 hf5
              clear b0 d0 b1 d1 b2 d2 b3 d3 b4 d4 b5 d5
              go_wp
              (try simp only [Exit.inBlock, Exit.then])
              refine bodyPost_ret (ret_prim3 rfl _ _ _ _ y { x with at_ := t } _ rfl rfl rfl HT2.out HT3.out) rfl ?_
              exact HT1.out
          · have HRS : Hid (R9 = (13, Pm.key ⟨0, ⟨#[]⟩, ⟨#[]⟩, 0, none, 0, [], none, 0, []⟩, Pm.key ⟨0, ⟨#[]⟩, ⟨#[]⟩, 0, none, 0, [], none, 0, []⟩)) := by
              have e : shiftP x.key y.key = none := by
                unfold shiftP
                rw [if_neg (show ¬ x.key.at_ + (x.key.new.length : Int) < y.key.at_ by show ¬ x.at_ + (x.new.length : Int) < y.at_; omega), if_neg (show ¬ y.key.at_ + (y.key.old.length : Int) < x.key.at_ by show ¬ y.at_ + (y.old.length : Int) < x.at_; omega)]
              exact HPT.out.trans (turn_non (HTW1.out.trans e))
            have l2' : s2 ≤ y.at_ := by omega
            clear w1 a1 a2 a3 c1 c2 c3 r1 r2 r3 r4 hs hs2 HT CA HN6 HM6 RX HPT HTW1
            go_enter Tryz.func26, Tryz.ntmps26
            go_wp2_with fail
            generalize hwa : ((((w.alloc (.cells #[.int .i64 x.kind, .string x.p, .string x.dst, .int .i64 x.at_, .slice x.a1 x.old.length x.c1, .slice x.a2 x.new.length x.c2] 33)).alloc (.cells #[.int .i64 y.kind, .string y.p, .string y.dst, .int .i64 y.at_, .slice y.a1 y.old.length y.c1, .slice y.a2 y.new.length y.c2] 33)).alloc (.cells #[.int .i64 0, .string ⟨#[]⟩, .string ⟨#[]⟩, .int .i64 0, .slice none 0 0, .slice none 0 0] 33)).alloc (.cells #[.int .i64 0, .string ⟨#[]⟩, .string ⟨#[]⟩, .int .i64 0, .slice none 0 0, .slice none 0 0] 33)) = wa at *
            clear hwa
            refine (C1.out wa HA.out).mono ?_
            rintro e wb ⟨rfl, hb⟩
            replace HX := Lib.hid (HX.out.on hb)
            replace HY := Lib.hid (HY.out.on hb)
            replace HG := Lib.hid (HG.out.on hb)
            replace HH := Lib.hid (HH.out.on hb)
            replace HA := Lib.hid (HA.out.trans (hb.mono HA.out.size))
            clear hb
            have y0 := HY.out.c0
            have y1 := HY.out.c1
            have y2 := HY.out.c2
            have y3 := HY.out.c3
            have y4 := HY.out.c4
            have y5 := HY.out.c5
            go_wp2_with fail
            refine (C2.out wb HA.out).mono ?_
            rintro e wc ⟨rfl, hb⟩
            replace HX := Lib.hid (HX.out.on hb)
            replace HY := Lib.hid (HY.out.on hb)
            replace HG := Lib.hid (HG.out.on hb)
            replace HH := Lib.hid (HH.out.on hb)
            replace HA := Lib.hid (HA.out.trans (hb.mono HA.out.size))
            clear hb
            clear y0 y1 y2 y3 y4 y5
            have OXc := Lib.hid (OX.out wc HA.out)
            have OYc := Lib.hid (OY.out wc HA.out)
            have x0 := HX.out.c0
            have x1 := HX.out.c1
            have x2 := HX.out.c2
            have x3 := HX.out.c3
            have x4 := HX.out.c4
            have x5 := HX.out.c5
            have y0 := HY.out.c0
            have y1 := HY.out.c1
            have y2 := HY.out.c2
            have y3 := HY.out.c3
            have y4 := HY.out.c4
            have y5 := HY.out.c5
            go_upto_region 14 with (fail)
            have HTW := Lib.hid (two_setB (w := w) (n := 13) HA.out HB0.out (show w.heap.size ≤ w.heap.size + 1 + 1 by omega) (show w.heap.size ≤ w.heap.size + 1 + 1 + 1 by omega) (show w.heap.size + 1 + 1 ≠ w.heap.size + 1 + 1 + 1 by omega) HG.out HH.out (zero_okB _ _) (zero_okB _ _) HRS.out)
            have HT1 := Lib.hid HTW.out.1
            have HT2 := Lib.hid HTW.out.2.1
            have HT3 := Lib.hid HTW.out.2.2
            clear HTW
            have g0 := HG.out.c0
            have gf0 := HG.out.fz 0
            have h0 := HH.out.c0
            have hf0 := HH.out.fz 0
            have g1 := HG.out.c1
            have gf1 := HG.out.fz 1
            have h1 := HH.out.c1
            have hf1 := HH.out.fz 1
            have g2 := HG.out.c2
            have gf2 := HG.out.fz 2
            have h2 := HH.out.c2
            have hf2 := HH.out.fz 2
            have g3 := HG.out.c3
            have gf3 := HG.out.fz 3
            have h3 := HH.out.c3
            have hf3 := HH.out.fz 3
            have g4 := HG.out.c4
            have gf4 := HG.out.fz 4
            have h4 := HH.out.c4
            have hf4 := HH.out.fz 4
            have g5 := HG.out.c5
            have gf5 := HG.out.fz 5
            have h5 := HH.out.c5
            have hf5 := HH.out.fz 5
            go_wp
            (try simp only [Exit.inBlock, Exit.then])
            refine bodyPost_ret (ret_prim3 rfl _ _ _ _ ⟨0, ⟨#[]⟩, ⟨#[]⟩, 0, none, 0, [], none, 0, []⟩ ⟨0, ⟨#[]⟩, ⟨#[]⟩, 0, none, 0, [], none, 0, []⟩ _ rfl rfl rfl HT2.out HT3.out) rfl ?_
            exact HT1.out
      · have HT := Lib.hid (HT.out.2 w1)
        by_cases w2 : x.kind = 5 ∧ y.kind = 6 ∧ y.p = x.dst
        · have HRS : Hid (R9 = (0, Pm.key { y with p := x.p }, x.key)) := HPT.out.trans (turn_res (HT.out.1 w2))
          have k1 : (x.kind == 5) = true := by simpa using w2.1
          have k0 : (x.kind == 6) = false := by rw [beq_eq_false_iff_ne]; omega
          have k2 : (y.kind == 6) = true := by simpa using w2.2.1
          have k3 : (y.p.toList == x.dst.toList) = true := by rw [str_beq]; exact decide_eq_true w2.2.2
          clear HT w1 w2 CA HN6 HM6 RX HPT
          go_enter Tryz.func26, Tryz.ntmps26
          go_wp2_with fail
          generalize hwa : ((((w.alloc (.cells #[.int .i64 x.kind, .string x.p, .string x.dst, .int .i64 x.at_, .slice x.a1 x.old.length x.c1, .slice x.a2 x.new.length x.c2] 33)).alloc (.cells #[.int .i64 y.kind, .string y.p, .string y.dst, .int .i64 y.at_, .slice y.a1 y.old.length y.c1, .slice y.a2 y.new.length y.c2] 33)).alloc (.cells #[.int .i64 0, .string ⟨#[]⟩, .string ⟨#[]⟩, .int .i64 0, .slice none 0 0, .slice none 0 0] 33)).alloc (.cells #[.int .i64 0, .string ⟨#[]⟩, .string ⟨#[]⟩, .int .i64 0, .slice none 0 0, .slice none 0 0] 33)) = wa at *
          clear hwa
          refine (C1.out wa HA.out).mono ?_
          rintro e wb ⟨rfl, hb⟩
          replace HX := Lib.hid (HX.out.on hb)
          replace HY := Lib.hid (HY.out.on hb)
          replace HG := Lib.hid (HG.out.on hb)
          replace HH := Lib.hid (HH.out.on hb)
          replace HA := Lib.hid (HA.out.trans (hb.mono HA.out.size))
          clear hb
          have y0 := HY.out.c0
          have y1 := HY.out.c1
          have y2 := HY.out.c2
          have y3 := HY.out.c3
          have y4 := HY.out.c4
          have y5 := HY.out.c5
          go_wp2_with fail
          refine (C2.out wb HA.out).mono ?_
          rintro e wc ⟨rfl, hb⟩
          replace HX := Lib.hid (HX.out.on hb)
          replace HY := Lib.hid (HY.out.on hb)
          replace HG := Lib.hid (HG.out.on hb)
          replace HH := Lib.hid (HH.out.on hb)
          replace HA := Lib.hid (HA.out.trans (hb.mono HA.out.size))
          clear hb
          clear y0 y1 y2 y3 y4 y5
          have OXc := Lib.hid (OX.out wc HA.out)
          have OYc := Lib.hid (OY.out wc HA.out)
          have x0 := HX.out.c0
          have x1 := HX.out.c1
          have x2 := HX.out.c2
          have x3 := HX.out.c3
          have x4 := HX.out.c4
          have x5 := HX.out.c5
          have y0 := HY.out.c0
          have y1 := HY.out.c1
          have y2 := HY.out.c2
          have y3 := HY.out.c3
          have y4 := HY.out.c4
          have y5 := HY.out.c5
          have xfz := HY.out.fz 1
          go_upto_region 17 with (fail)
          have hgr := grown_cell wc (w.heap.size + 1) 1 (.string x.p)
          have hbB : Below B wc (wc.setCell ⟨w.heap.size + 1, 1, none⟩ (.string x.p)) := (Below.refl B wc).setCell (show B ≤ w.heap.size + 1 by have := HB0.out; omega) _
          have HYL := Lib.hid (pm_set1 HY.out x.p)
          have HXL := Lib.hid (HX.out.grown hgr (fun e => by simp only [Option.some.injEq] at e; omega))
          replace HG := Lib.hid (HG.out.grown hgr (fun e => by simp only [Option.some.injEq] at e; omega))
          replace HH := Lib.hid (HH.out.grown hgr (fun e => by simp only [Option.some.injEq] at e; omega))
          replace HA := Lib.hid (HA.out.setCell (show w.heap.size ≤ w.heap.size + 1 by omega) (.string x.p) (p := ⟨w.heap.size + 1, 1, none⟩))
          replace OXc := Lib.hid (OXc.out.below hbB)
          replace OYc := Lib.hid (OYc.out.below hbB)
          clear hgr hbB
          clear x0 y0 x1 y1 x2 y2 x3 y3 x4 y4 x5 y5
          clear xfz
          generalize (wc.setCell ⟨w.heap.size + 1, 1, none⟩ (.string x.p)) = wL at *
          have HTW := Lib.hid (two_setB (w := w) (n := 0) HA.out HB0.out (show w.heap.size ≤ w.heap.size + 1 + 1 by omega) (show w.heap.size ≤ w.heap.size + 1 + 1 + 1 by omega) (show w.heap.size + 1 + 1 ≠ w.heap.size + 1 + 1 + 1 by omega) HG.out HH.out (ok_p OYc.out HPQ.out.1) (OXc.out) HRS.out)
          have HT1 := Lib.hid HTW.out.1.draw
          have HT2 := Lib.hid HTW.out.2.1.draw
          have HT3 := Lib.hid HTW.out.2.2.draw
          clear HTW
          have g0 := HG.out.c0
          have gf0 := HG.out.fz 0
          have h0 := HH.out.c0
          have hf0 := HH.out.fz 0
          have g1 := HG.out.c1
          have gf1 := HG.out.fz 1
          have h1 := HH.out.c1
          have hf1 := HH.out.fz 1
          have g2 := HG.out.c2
          have gf2 := HG.out.fz 2
          have h2 := HH.out.c2
          have hf2 := HH.out.fz 2
          have g3 := HG.out.c3
          have gf3 := HG.out.fz 3
          have h3 := HH.out.c3
          have hf3 := HH.out.fz 3
          have g4 := HG.out.c4
          have gf4 := HG.out.fz 4
          have h4 := HH.out.c4
          have hf4 := HH.out.fz 4
          have g5 := HG.out.c5
          have gf5 := HG.out.fz 5
          have h5 := HH.out.c5
          have hf5 := HH.out.fz 5
          have b0 := HXL.out.c0
          have d0 := HYL.out.c0
          have b1 := HXL.out.c1
          have d1 := HYL.out.c1
          have b2 := HXL.out.c2
          have d2 := HYL.out.c2
          have b3 := HXL.out.c3
          have d3 := HYL.out.c3
          have b4 := HXL.out.c4
          have d4 := HYL.out.c4
          have b5 := HXL.out.c5
          have d5 := HYL.out.c5
          go_wp2_with fail
          go_region
          all_goals
            clear g0 gf0 h0 hf0 g1 gf1 h1 hf1 g2 gf2 h2 hf2 g3 gf3 h3 hf3 g4 gf4 h4 hf4 g5 gf5 h5 hf5
            clear b0 d0 b1 d1 b2 d2 b3 d3 b4 d4 b5 d5
            go_wp
            (try simp only [Exit.inBlock, Exit.then])
            refine bodyPost_ret (ret_prim3 rfl _ _ _ _ { y with p := x.p } x _ rfl rfl rfl HT2.out HT3.out) rfl ?_
            exact HT1.out
        · have HT := Lib.hid (HT.out.2 w2)
          by_cases w3 : x.kind = 6 ∧ y.kind = 5 ∧ y.p = x.p
          · have HRS : Hid (R9 = (0, y.key, Pm.key { x with p := y.dst })) := HPT.out.trans (turn_res (HT.out.1 w3))
            have k1 : (x.kind == 5) = false := by rw [beq_eq_false_iff_ne]; omega
            have k2 : (x.kind == 6) = true := by simpa using w3.1
            have k3 : (y.kind == 5) = true := by simpa using w3.2.1
            have k5 : (y.kind == 6) = false := by rw [beq_eq_false_iff_ne]; omega
            have k4 : (y.p.toList == x.p.toList) = true := by rw [str_beq]; exact decide_eq_true w3.2.2
            clear HT w1 w2 w3 CA HN6 HM6 RX HPT
            go_enter Tryz.func26, Tryz.ntmps26
            go_wp2_with fail
            generalize hwa : ((((w.alloc (.cells #[.int .i64 x.kind, .string x.p, .string x.dst, .int .i64 x.at_, .slice x.a1 x.old.length x.c1, .slice x.a2 x.new.length x.c2] 33)).alloc (.cells #[.int .i64 y.kind, .string y.p, .string y.dst, .int .i64 y.at_, .slice y.a1 y.old.length y.c1, .slice y.a2 y.new.length y.c2] 33)).alloc (.cells #[.int .i64 0, .string ⟨#[]⟩, .string ⟨#[]⟩, .int .i64 0, .slice none 0 0, .slice none 0 0] 33)).alloc (.cells #[.int .i64 0, .string ⟨#[]⟩, .string ⟨#[]⟩, .int .i64 0, .slice none 0 0, .slice none 0 0] 33)) = wa at *
            clear hwa
            refine (C1.out wa HA.out).mono ?_
            rintro e wb ⟨rfl, hb⟩
            replace HX := Lib.hid (HX.out.on hb)
            replace HY := Lib.hid (HY.out.on hb)
            replace HG := Lib.hid (HG.out.on hb)
            replace HH := Lib.hid (HH.out.on hb)
            replace HA := Lib.hid (HA.out.trans (hb.mono HA.out.size))
            clear hb
            have y0 := HY.out.c0
            have y1 := HY.out.c1
            have y2 := HY.out.c2
            have y3 := HY.out.c3
            have y4 := HY.out.c4
            have y5 := HY.out.c5
            go_wp2_with fail
            refine (C2.out wb HA.out).mono ?_
            rintro e wc ⟨rfl, hb⟩
            replace HX := Lib.hid (HX.out.on hb)
            replace HY := Lib.hid (HY.out.on hb)
            replace HG := Lib.hid (HG.out.on hb)
            replace HH := Lib.hid (HH.out.on hb)
            replace HA := Lib.hid (HA.out.trans (hb.mono HA.out.size))
            clear hb
            clear y0 y1 y2 y3 y4 y5
            have OXc := Lib.hid (OX.out wc HA.out)
            have OYc := Lib.hid (OY.out wc HA.out)
            have x0 := HX.out.c0
            have x1 := HX.out.c1
            have x2 := HX.out.c2
            have x3 := HX.out.c3
            have x4 := HX.out.c4
            have x5 := HX.out.c5
            have y0 := HY.out.c0
            have y1 := HY.out.c1
            have y2 := HY.out.c2
            have y3 := HY.out.c3
            have y4 := HY.out.c4
            have y5 := HY.out.c5
            have xfz := HX.out.fz 1
            go_upto_region 20 with (fail)
            have hgr := grown_cell wc (w.heap.size) 1 (.string y.dst)
            have hbB : Below B wc (wc.setCell ⟨w.heap.size, 1, none⟩ (.string y.dst)) := (Below.refl B wc).setCell (show B ≤ w.heap.size by have := HB0.out; omega) _
            have HXL := Lib.hid (pm_set1 HX.out y.dst)
            have HYL := Lib.hid (HY.out.grown hgr (fun e => by simp only [Option.some.injEq] at e; omega))
            replace HG := Lib.hid (HG.out.grown hgr (fun e => by simp only [Option.some.injEq] at e; omega))
            replace HH := Lib.hid (HH.out.grown hgr (fun e => by simp only [Option.some.injEq] at e; omega))
            replace HA := Lib.hid (HA.out.setCell (show w.heap.size ≤ w.heap.size by omega) (.string y.dst) (p := ⟨w.heap.size, 1, none⟩))
            replace OXc := Lib.hid (OXc.out.below hbB)
            replace OYc := Lib.hid (OYc.out.below hbB)
            clear hgr hbB
            clear x0 y0 x1 y1 x2 y2 x3 y3 x4 y4 x5 y5
            clear xfz
            generalize (wc.setCell ⟨w.heap.size, 1, none⟩ (.string y.dst)) = wL at *
            have HTW := Lib.hid (two_setB (w := w) (n := 0) HA.out HB0.out (show w.heap.size ≤ w.heap.size + 1 + 1 by omega) (show w.heap.size ≤ w.heap.size + 1 + 1 + 1 by omega) (show w.heap.size + 1 + 1 ≠ w.heap.size + 1 + 1 + 1 by omega) HG.out HH.out (OYc.out) (ok_p OXc.out HPQ.out.2) HRS.out)
            have HT1 := Lib.hid HTW.out.1.draw
            have HT2 := Lib.hid HTW.out.2.1.draw
            have HT3 := Lib.hid HTW.out.2.2.draw
            clear HTW
            have g0 := HG.out.c0
            have gf0 := HG.out.fz 0
            have h0 := HH.out.c0
            have hf0 := HH.out.fz 0
            have g1 := HG.out.c1
            have gf1 := HG.out.fz 1
            have h1 := HH.out.c1
            have hf1 := HH.out.fz 1
            have g2 := HG.out.c2
            have gf2 := HG.out.fz 2
            have h2 := HH.out.c2
            have hf2 := HH.out.fz 2
            have g3 := HG.out.c3
            have gf3 := HG.out.fz 3
            have h3 := HH.out.c3
            have hf3 := HH.out.fz 3
            have g4 := HG.out.c4
            have gf4 := HG.out.fz 4
            have h4 := HH.out.c4
            have hf4 := HH.out.fz 4
            have g5 := HG.out.c5
            have gf5 := HG.out.fz 5
            have h5 := HH.out.c5
            have hf5 := HH.out.fz 5
            have b0 := HXL.out.c0
            have d0 := HYL.out.c0
            have b1 := HXL.out.c1
            have d1 := HYL.out.c1
            have b2 := HXL.out.c2
            have d2 := HYL.out.c2
            have b3 := HXL.out.c3
            have d3 := HYL.out.c3
            have b4 := HXL.out.c4
            have d4 := HYL.out.c4
            have b5 := HXL.out.c5
            have d5 := HYL.out.c5
            go_wp2_with fail
            go_region
            all_goals
              clear g0 gf0 h0 hf0 g1 gf1 h1 hf1 g2 gf2 h2 hf2 g3 gf3 h3 hf3 g4 gf4 h4 hf4 g5 gf5 h5 hf5
              clear b0 d0 b1 d1 b2 d2 b3 d3 b4 d4 b5 d5
              go_wp
              (try simp only [Exit.inBlock, Exit.then])
              refine bodyPost_ret (ret_prim3 rfl _ _ _ _ y { x with p := y.dst } _ rfl rfl rfl HT2.out HT3.out) rfl ?_
              exact HT1.out
          · have HTT := Lib.hid (HT.out.2 w3)
            obtain ⟨ap, hap⟩ : ∃ a, apartP x.key y.key = a := ⟨_, rfl⟩
            have CA := Lib.hid (fun W hb => CA.out W hb ap hap)
            have HAP := Lib.hid hap
            have f1 : Hid (¬ (x.kind = 6 ∧ y.kind = 6 ∧ x.p = y.p)) := w1
            have f2 : Hid (¬ (x.kind = 5 ∧ y.kind = 6 ∧ y.p = x.dst)) := w2
            have f3 : Hid (¬ (x.kind = 6 ∧ y.kind = 5 ∧ y.p = x.p)) := w3
            clear HT hap HN6 HM6 RX w1 w2 w3
            by_cases u1 : x.kind = 6
            · have k1 : (x.kind == 6) = true := by simpa using u1
              have k1' : (x.kind == 5) = false := by rw [beq_eq_false_iff_ne]; omega
              by_cases u2 : y.kind = 6
              · have k2 : (y.kind == 6) = true := by simpa using u2
                have k2' : (y.kind == 5) = false := by rw [beq_eq_false_iff_ne]; omega
                have k3 : (x.p.toList == y.p.toList) = false := by rw [str_beq]; exact decide_eq_false fun e => f1.out ⟨u1, u2, e⟩
                clear u1 u2
                go_enter Tryz.func26, Tryz.ntmps26
                go_wp2_with fail
                generalize hwa : ((((w.alloc (.cells #[.int .i64 x.kind, .string x.p, .string x.dst, .int .i64 x.at_, .slice x.a1 x.old.length x.c1, .slice x.a2 x.new.length x.c2] 33)).alloc (.cells #[.int .i64 y.kind, .string y.p, .string y.dst, .int .i64 y.at_, .slice y.a1 y.old.length y.c1, .slice y.a2 y.new.length y.c2] 33)).alloc (.cells #[.int .i64 0, .string ⟨#[]⟩, .string ⟨#[]⟩, .int .i64 0, .slice none 0 0, .slice none 0 0] 33)).alloc (.cells #[.int .i64 0, .string ⟨#[]⟩, .string ⟨#[]⟩, .int .i64 0, .slice none 0 0, .slice none 0 0] 33)) = wa at *
                clear hwa
                refine (C1.out wa HA.out).mono ?_
                rintro e wb ⟨rfl, hb⟩
                replace HX := Lib.hid (HX.out.on hb)
                replace HY := Lib.hid (HY.out.on hb)
                replace HG := Lib.hid (HG.out.on hb)
                replace HH := Lib.hid (HH.out.on hb)
                replace HA := Lib.hid (HA.out.trans (hb.mono HA.out.size))
                clear hb
                have y0 := HY.out.c0
                have y1 := HY.out.c1
                have y2 := HY.out.c2
                have y3 := HY.out.c3
                have y4 := HY.out.c4
                have y5 := HY.out.c5
                go_wp2_with fail
                refine (C2.out wb HA.out).mono ?_
                rintro e wc ⟨rfl, hb⟩
                replace HX := Lib.hid (HX.out.on hb)
                replace HY := Lib.hid (HY.out.on hb)
                replace HG := Lib.hid (HG.out.on hb)
                replace HH := Lib.hid (HH.out.on hb)
                replace HA := Lib.hid (HA.out.trans (hb.mono HA.out.size))
                clear hb
                clear y0 y1 y2 y3 y4 y5
                have OXc := Lib.hid (OX.out wc HA.out)
                have OYc := Lib.hid (OY.out wc HA.out)
                have x0 := HX.out.c0
                have x1 := HX.out.c1
                have x2 := HX.out.c2
                have x3 := HX.out.c3
                have x4 := HX.out.c4
                have x5 := HX.out.c5
                have y0 := HY.out.c0
                have y1 := HY.out.c1
                have y2 := HY.out.c2
                have y3 := HY.out.c3
                have y4 := HY.out.c4
                have y5 := HY.out.c5
                clear f1 f2 f3
                go_upto_region 21 with (fail)
                go_wp2_with fail
                clear x0 y0 x1 y1 x2 y2 x3 y3 x4 y4 x5 y5
                refine (CA.out wc HA.out).mono ?_
                rintro e wd ⟨rfl, hb⟩
                have hbB := hb.mono (Nat.le_trans HB0.out HA.out.size)
                replace OXc := Lib.hid (OXc.out.below hbB)
                replace OYc := Lib.hid (OYc.out.below hbB)
                clear hbB
                replace HX := Lib.hid (HX.out.on hb)
                replace HY := Lib.hid (HY.out.on hb)
                replace HG := Lib.hid (HG.out.on hb)
                replace HH := Lib.hid (HH.out.on hb)
                replace HA := Lib.hid (HA.out.trans (hb.mono HA.out.size))
                clear hb
                clear CA
                cases ap
                · have HRS : Hid (R9 = (13, Pm.key ⟨0, ⟨#[]⟩, ⟨#[]⟩, 0, none, 0, [], none, 0, []⟩, Pm.key ⟨0, ⟨#[]⟩, ⟨#[]⟩, 0, none, 0, [], none, 0, []⟩)) := HPT.out.trans (turn_non (HTT.out.trans (by rw [HAP.out]; rfl)))
                  go_upto_region 22 with (fail)
                  have HTW := Lib.hid (two_setB (w := w) (n := 13) HA.out HB0.out (show w.heap.size ≤ w.heap.size + 1 + 1 by omega) (show w.heap.size ≤ w.heap.size + 1 + 1 + 1 by omega) (show w.heap.size + 1 + 1 ≠ w.heap.size + 1 + 1 + 1 by omega) HG.out HH.out (zero_okB _ _) (zero_okB _ _) HRS.out)
                  have HT1 := Lib.hid HTW.out.1
                  have HT2 := Lib.hid HTW.out.2.1
                  have HT3 := Lib.hid HTW.out.2.2
                  clear HTW
                  have g0 := HG.out.c0
                  have gf0 := HG.out.fz 0
                  have h0 := HH.out.c0
                  have hf0 := HH.out.fz 0
                  have g1 := HG.out.c1
                  have gf1 := HG.out.fz 1
                  have h1 := HH.out.c1
                  have hf1 := HH.out.fz 1
                  have g2 := HG.out.c2
                  have gf2 := HG.out.fz 2
                  have h2 := HH.out.c2
                  have hf2 := HH.out.fz 2
                  have g3 := HG.out.c3
                  have gf3 := HG.out.fz 3
                  have h3 := HH.out.c3
                  have hf3 := HH.out.fz 3
                  have g4 := HG.out.c4
                  have gf4 := HG.out.fz 4
                  have h4 := HH.out.c4
                  have hf4 := HH.out.fz 4
                  have g5 := HG.out.c5
                  have gf5 := HG.out.fz 5
                  have h5 := HH.out.c5
                  have hf5 := HH.out.fz 5
                  go_wp
                  (try simp only [Exit.inBlock, Exit.then])
                  refine bodyPost_ret (ret_prim3 rfl _ _ _ _ ⟨0, ⟨#[]⟩, ⟨#[]⟩, 0, none, 0, [], none, 0, []⟩ ⟨0, ⟨#[]⟩, ⟨#[]⟩, 0, none, 0, [], none, 0, []⟩ _ rfl rfl rfl HT2.out HT3.out) rfl ?_
                  exact HT1.out
                · have HRS : Hid (R9 = (0, y.key, x.key)) := HPT.out.trans (turn_res (HTT.out.trans (by rw [HAP.out]; rfl)))
                  have HXL := Lib.hid HX.out
                  have HYL := Lib.hid HY.out
                  have HTW := Lib.hid (two_setB (w := w) (n := 0) HA.out HB0.out (show w.heap.size ≤ w.heap.size + 1 + 1 by omega) (show w.heap.size ≤ w.heap.size + 1 + 1 + 1 by omega) (show w.heap.size + 1 + 1 ≠ w.heap.size + 1 + 1 + 1 by omega) HG.out HH.out (OYc.out) (OXc.out) HRS.out)
                  have HT1 := Lib.hid HTW.out.1.draw
                  have HT2 := Lib.hid HTW.out.2.1.draw
                  have HT3 := Lib.hid HTW.out.2.2.draw
                  clear HTW
                  have g0 := HG.out.c0
                  have gf0 := HG.out.fz 0
                  have h0 := HH.out.c0
                  have hf0 := HH.out.fz 0
                  have g1 := HG.out.c1
                  have gf1 := HG.out.fz 1
                  have h1 := HH.out.c1
                  have hf1 := HH.out.fz 1
                  have g2 := HG.out.c2
                  have gf2 := HG.out.fz 2
                  have h2 := HH.out.c2
                  have hf2 := HH.out.fz 2
                  have g3 := HG.out.c3
                  have gf3 := HG.out.fz 3
                  have h3 := HH.out.c3
                  have hf3 := HH.out.fz 3
                  have g4 := HG.out.c4
                  have gf4 := HG.out.fz 4
                  have h4 := HH.out.c4
                  have hf4 := HH.out.fz 4
                  have g5 := HG.out.c5
                  have gf5 := HG.out.fz 5
                  have h5 := HH.out.c5
                  have hf5 := HH.out.fz 5
                  have b0 := HXL.out.c0
                  have d0 := HYL.out.c0
                  have b1 := HXL.out.c1
                  have d1 := HYL.out.c1
                  have b2 := HXL.out.c2
                  have d2 := HYL.out.c2
                  have b3 := HXL.out.c3
                  have d3 := HYL.out.c3
                  have b4 := HXL.out.c4
                  have d4 := HYL.out.c4
                  have b5 := HXL.out.c5
                  have d5 := HYL.out.c5
                  go_wp2_with fail
                  go_region
                  all_goals
                    clear g0 gf0 h0 hf0 g1 gf1 h1 hf1 g2 gf2 h2 hf2 g3 gf3 h3 hf3 g4 gf4 h4 hf4 g5 gf5 h5 hf5
                    clear b0 d0 b1 d1 b2 d2 b3 d3 b4 d4 b5 d5
                    go_wp
                    (try simp only [Exit.inBlock, Exit.then])
                    refine bodyPost_ret (ret_prim3 rfl _ _ _ _ y x _ rfl rfl rfl HT2.out HT3.out) rfl ?_
                    exact HT1.out
              · have k2 : (y.kind == 6) = false := by simpa using u2
                by_cases u3 : y.kind = 5
                · have k3 : (y.kind == 5) = true := by simpa using u3
                  have k4 : (y.p.toList == x.p.toList) = false := by rw [str_beq]; exact decide_eq_false fun e => f3.out ⟨u1, u3, e⟩
                  clear u1 u2 u3
                  go_enter Tryz.func26, Tryz.ntmps26
                  go_wp2_with fail
                  generalize hwa : ((((w.alloc (.cells #[.int .i64 x.kind, .string x.p, .string x.dst, .int .i64 x.at_, .slice x.a1 x.old.length x.c1, .slice x.a2 x.new.length x.c2] 33)).alloc (.cells #[.int .i64 y.kind, .string y.p, .string y.dst, .int .i64 y.at_, .slice y.a1 y.old.length y.c1, .slice y.a2 y.new.length y.c2] 33)).alloc (.cells #[.int .i64 0, .string ⟨#[]⟩, .string ⟨#[]⟩, .int .i64 0, .slice none 0 0, .slice none 0 0] 33)).alloc (.cells #[.int .i64 0, .string ⟨#[]⟩, .string ⟨#[]⟩, .int .i64 0, .slice none 0 0, .slice none 0 0] 33)) = wa at *
                  clear hwa
                  refine (C1.out wa HA.out).mono ?_
                  rintro e wb ⟨rfl, hb⟩
                  replace HX := Lib.hid (HX.out.on hb)
                  replace HY := Lib.hid (HY.out.on hb)
                  replace HG := Lib.hid (HG.out.on hb)
                  replace HH := Lib.hid (HH.out.on hb)
                  replace HA := Lib.hid (HA.out.trans (hb.mono HA.out.size))
                  clear hb
                  have y0 := HY.out.c0
                  have y1 := HY.out.c1
                  have y2 := HY.out.c2
                  have y3 := HY.out.c3
                  have y4 := HY.out.c4
                  have y5 := HY.out.c5
                  go_wp2_with fail
                  refine (C2.out wb HA.out).mono ?_
                  rintro e wc ⟨rfl, hb⟩
                  replace HX := Lib.hid (HX.out.on hb)
                  replace HY := Lib.hid (HY.out.on hb)
                  replace HG := Lib.hid (HG.out.on hb)
                  replace HH := Lib.hid (HH.out.on hb)
                  replace HA := Lib.hid (HA.out.trans (hb.mono HA.out.size))
                  clear hb
                  clear y0 y1 y2 y3 y4 y5
                  have OXc := Lib.hid (OX.out wc HA.out)
                  have OYc := Lib.hid (OY.out wc HA.out)
                  have x0 := HX.out.c0
                  have x1 := HX.out.c1
                  have x2 := HX.out.c2
                  have x3 := HX.out.c3
                  have x4 := HX.out.c4
                  have x5 := HX.out.c5
                  have y0 := HY.out.c0
                  have y1 := HY.out.c1
                  have y2 := HY.out.c2
                  have y3 := HY.out.c3
                  have y4 := HY.out.c4
                  have y5 := HY.out.c5
                  clear f1 f2 f3
                  go_upto_region 21 with (fail)
                  go_wp2_with fail
                  clear x0 y0 x1 y1 x2 y2 x3 y3 x4 y4 x5 y5
                  refine (CA.out wc HA.out).mono ?_
                  rintro e wd ⟨rfl, hb⟩
                  have hbB := hb.mono (Nat.le_trans HB0.out HA.out.size)
                  replace OXc := Lib.hid (OXc.out.below hbB)
                  replace OYc := Lib.hid (OYc.out.below hbB)
                  clear hbB
                  replace HX := Lib.hid (HX.out.on hb)
                  replace HY := Lib.hid (HY.out.on hb)
                  replace HG := Lib.hid (HG.out.on hb)
                  replace HH := Lib.hid (HH.out.on hb)
                  replace HA := Lib.hid (HA.out.trans (hb.mono HA.out.size))
                  clear hb
                  clear CA
                  cases ap
                  · have HRS : Hid (R9 = (13, Pm.key ⟨0, ⟨#[]⟩, ⟨#[]⟩, 0, none, 0, [], none, 0, []⟩, Pm.key ⟨0, ⟨#[]⟩, ⟨#[]⟩, 0, none, 0, [], none, 0, []⟩)) := HPT.out.trans (turn_non (HTT.out.trans (by rw [HAP.out]; rfl)))
                    go_upto_region 22 with (fail)
                    have HTW := Lib.hid (two_setB (w := w) (n := 13) HA.out HB0.out (show w.heap.size ≤ w.heap.size + 1 + 1 by omega) (show w.heap.size ≤ w.heap.size + 1 + 1 + 1 by omega) (show w.heap.size + 1 + 1 ≠ w.heap.size + 1 + 1 + 1 by omega) HG.out HH.out (zero_okB _ _) (zero_okB _ _) HRS.out)
                    have HT1 := Lib.hid HTW.out.1
                    have HT2 := Lib.hid HTW.out.2.1
                    have HT3 := Lib.hid HTW.out.2.2
                    clear HTW
                    have g0 := HG.out.c0
                    have gf0 := HG.out.fz 0
                    have h0 := HH.out.c0
                    have hf0 := HH.out.fz 0
                    have g1 := HG.out.c1
                    have gf1 := HG.out.fz 1
                    have h1 := HH.out.c1
                    have hf1 := HH.out.fz 1
                    have g2 := HG.out.c2
                    have gf2 := HG.out.fz 2
                    have h2 := HH.out.c2
                    have hf2 := HH.out.fz 2
                    have g3 := HG.out.c3
                    have gf3 := HG.out.fz 3
                    have h3 := HH.out.c3
                    have hf3 := HH.out.fz 3
                    have g4 := HG.out.c4
                    have gf4 := HG.out.fz 4
                    have h4 := HH.out.c4
                    have hf4 := HH.out.fz 4
                    have g5 := HG.out.c5
                    have gf5 := HG.out.fz 5
                    have h5 := HH.out.c5
                    have hf5 := HH.out.fz 5
                    go_wp
                    (try simp only [Exit.inBlock, Exit.then])
                    refine bodyPost_ret (ret_prim3 rfl _ _ _ _ ⟨0, ⟨#[]⟩, ⟨#[]⟩, 0, none, 0, [], none, 0, []⟩ ⟨0, ⟨#[]⟩, ⟨#[]⟩, 0, none, 0, [], none, 0, []⟩ _ rfl rfl rfl HT2.out HT3.out) rfl ?_
                    exact HT1.out
                  · have HRS : Hid (R9 = (0, y.key, x.key)) := HPT.out.trans (turn_res (HTT.out.trans (by rw [HAP.out]; rfl)))
                    have HXL := Lib.hid HX.out
                    have HYL := Lib.hid HY.out
                    have HTW := Lib.hid (two_setB (w := w) (n := 0) HA.out HB0.out (show w.heap.size ≤ w.heap.size + 1 + 1 by omega) (show w.heap.size ≤ w.heap.size + 1 + 1 + 1 by omega) (show w.heap.size + 1 + 1 ≠ w.heap.size + 1 + 1 + 1 by omega) HG.out HH.out (OYc.out) (OXc.out) HRS.out)
                    have HT1 := Lib.hid HTW.out.1.draw
                    have HT2 := Lib.hid HTW.out.2.1.draw
                    have HT3 := Lib.hid HTW.out.2.2.draw
                    clear HTW
                    have g0 := HG.out.c0
                    have gf0 := HG.out.fz 0
                    have h0 := HH.out.c0
                    have hf0 := HH.out.fz 0
                    have g1 := HG.out.c1
                    have gf1 := HG.out.fz 1
                    have h1 := HH.out.c1
                    have hf1 := HH.out.fz 1
                    have g2 := HG.out.c2
                    have gf2 := HG.out.fz 2
                    have h2 := HH.out.c2
                    have hf2 := HH.out.fz 2
                    have g3 := HG.out.c3
                    have gf3 := HG.out.fz 3
                    have h3 := HH.out.c3
                    have hf3 := HH.out.fz 3
                    have g4 := HG.out.c4
                    have gf4 := HG.out.fz 4
                    have h4 := HH.out.c4
                    have hf4 := HH.out.fz 4
                    have g5 := HG.out.c5
                    have gf5 := HG.out.fz 5
                    have h5 := HH.out.c5
                    have hf5 := HH.out.fz 5
                    have b0 := HXL.out.c0
                    have d0 := HYL.out.c0
                    have b1 := HXL.out.c1
                    have d1 := HYL.out.c1
                    have b2 := HXL.out.c2
                    have d2 := HYL.out.c2
                    have b3 := HXL.out.c3
                    have d3 := HYL.out.c3
                    have b4 := HXL.out.c4
                    have d4 := HYL.out.c4
                    have b5 := HXL.out.c5
                    have d5 := HYL.out.c5
                    go_wp2_with fail
                    go_region
                    all_goals
                      clear g0 gf0 h0 hf0 g1 gf1 h1 hf1 g2 gf2 h2 hf2 g3 gf3 h3 hf3 g4 gf4 h4 hf4 g5 gf5 h5 hf5
                      clear b0 d0 b1 d1 b2 d2 b3 d3 b4 d4 b5 d5
                      go_wp
                      (try simp only [Exit.inBlock, Exit.then])
                      refine bodyPost_ret (ret_prim3 rfl _ _ _ _ y x _ rfl rfl rfl HT2.out HT3.out) rfl ?_
                      exact HT1.out
                · have k3 : (y.kind == 5) = false := by simpa using u3
                  clear u1 u2 u3
                  go_enter Tryz.func26, Tryz.ntmps26
                  go_wp2_with fail
                  generalize hwa : ((((w.alloc (.cells #[.int .i64 x.kind, .string x.p, .string x.dst, .int .i64 x.at_, .slice x.a1 x.old.length x.c1, .slice x.a2 x.new.length x.c2] 33)).alloc (.cells #[.int .i64 y.kind, .string y.p, .string y.dst, .int .i64 y.at_, .slice y.a1 y.old.length y.c1, .slice y.a2 y.new.length y.c2] 33)).alloc (.cells #[.int .i64 0, .string ⟨#[]⟩, .string ⟨#[]⟩, .int .i64 0, .slice none 0 0, .slice none 0 0] 33)).alloc (.cells #[.int .i64 0, .string ⟨#[]⟩, .string ⟨#[]⟩, .int .i64 0, .slice none 0 0, .slice none 0 0] 33)) = wa at *
                  clear hwa
                  refine (C1.out wa HA.out).mono ?_
                  rintro e wb ⟨rfl, hb⟩
                  replace HX := Lib.hid (HX.out.on hb)
                  replace HY := Lib.hid (HY.out.on hb)
                  replace HG := Lib.hid (HG.out.on hb)
                  replace HH := Lib.hid (HH.out.on hb)
                  replace HA := Lib.hid (HA.out.trans (hb.mono HA.out.size))
                  clear hb
                  have y0 := HY.out.c0
                  have y1 := HY.out.c1
                  have y2 := HY.out.c2
                  have y3 := HY.out.c3
                  have y4 := HY.out.c4
                  have y5 := HY.out.c5
                  go_wp2_with fail
                  refine (C2.out wb HA.out).mono ?_
                  rintro e wc ⟨rfl, hb⟩
                  replace HX := Lib.hid (HX.out.on hb)
                  replace HY := Lib.hid (HY.out.on hb)
                  replace HG := Lib.hid (HG.out.on hb)
                  replace HH := Lib.hid (HH.out.on hb)
                  replace HA := Lib.hid (HA.out.trans (hb.mono HA.out.size))
                  clear hb
                  clear y0 y1 y2 y3 y4 y5
                  have OXc := Lib.hid (OX.out wc HA.out)
                  have OYc := Lib.hid (OY.out wc HA.out)
                  have x0 := HX.out.c0
                  have x1 := HX.out.c1
                  have x2 := HX.out.c2
                  have x3 := HX.out.c3
                  have x4 := HX.out.c4
                  have x5 := HX.out.c5
                  have y0 := HY.out.c0
                  have y1 := HY.out.c1
                  have y2 := HY.out.c2
                  have y3 := HY.out.c3
                  have y4 := HY.out.c4
                  have y5 := HY.out.c5
                  clear f1 f2 f3
                  go_upto_region 21 with (fail)
                  go_wp2_with fail
                  clear x0 y0 x1 y1 x2 y2 x3 y3 x4 y4 x5 y5
                  refine (CA.out wc HA.out).mono ?_
                  rintro e wd ⟨rfl, hb⟩
                  have hbB := hb.mono (Nat.le_trans HB0.out HA.out.size)
                  replace OXc := Lib.hid (OXc.out.below hbB)
                  replace OYc := Lib.hid (OYc.out.below hbB)
                  clear hbB
                  replace HX := Lib.hid (HX.out.on hb)
                  replace HY := Lib.hid (HY.out.on hb)
                  replace HG := Lib.hid (HG.out.on hb)
                  replace HH := Lib.hid (HH.out.on hb)
                  replace HA := Lib.hid (HA.out.trans (hb.mono HA.out.size))
                  clear hb
                  clear CA
                  cases ap
                  · have HRS : Hid (R9 = (13, Pm.key ⟨0, ⟨#[]⟩, ⟨#[]⟩, 0, none, 0, [], none, 0, []⟩, Pm.key ⟨0, ⟨#[]⟩, ⟨#[]⟩, 0, none, 0, [], none, 0, []⟩)) := HPT.out.trans (turn_non (HTT.out.trans (by rw [HAP.out]; rfl)))
                    go_upto_region 22 with (fail)
                    have HTW := Lib.hid (two_setB (w := w) (n := 13) HA.out HB0.out (show w.heap.size ≤ w.heap.size + 1 + 1 by omega) (show w.heap.size ≤ w.heap.size + 1 + 1 + 1 by omega) (show w.heap.size + 1 + 1 ≠ w.heap.size + 1 + 1 + 1 by omega) HG.out HH.out (zero_okB _ _) (zero_okB _ _) HRS.out)
                    have HT1 := Lib.hid HTW.out.1
                    have HT2 := Lib.hid HTW.out.2.1
                    have HT3 := Lib.hid HTW.out.2.2
                    clear HTW
                    have g0 := HG.out.c0
                    have gf0 := HG.out.fz 0
                    have h0 := HH.out.c0
                    have hf0 := HH.out.fz 0
                    have g1 := HG.out.c1
                    have gf1 := HG.out.fz 1
                    have h1 := HH.out.c1
                    have hf1 := HH.out.fz 1
                    have g2 := HG.out.c2
                    have gf2 := HG.out.fz 2
                    have h2 := HH.out.c2
                    have hf2 := HH.out.fz 2
                    have g3 := HG.out.c3
                    have gf3 := HG.out.fz 3
                    have h3 := HH.out.c3
                    have hf3 := HH.out.fz 3
                    have g4 := HG.out.c4
                    have gf4 := HG.out.fz 4
                    have h4 := HH.out.c4
                    have hf4 := HH.out.fz 4
                    have g5 := HG.out.c5
                    have gf5 := HG.out.fz 5
                    have h5 := HH.out.c5
                    have hf5 := HH.out.fz 5
                    go_wp
                    (try simp only [Exit.inBlock, Exit.then])
                    refine bodyPost_ret (ret_prim3 rfl _ _ _ _ ⟨0, ⟨#[]⟩, ⟨#[]⟩, 0, none, 0, [], none, 0, []⟩ ⟨0, ⟨#[]⟩, ⟨#[]⟩, 0, none, 0, [], none, 0, []⟩ _ rfl rfl rfl HT2.out HT3.out) rfl ?_
                    exact HT1.out
                  · have HRS : Hid (R9 = (0, y.key, x.key)) := HPT.out.trans (turn_res (HTT.out.trans (by rw [HAP.out]; rfl)))
                    have HXL := Lib.hid HX.out
                    have HYL := Lib.hid HY.out
                    have HTW := Lib.hid (two_setB (w := w) (n := 0) HA.out HB0.out (show w.heap.size ≤ w.heap.size + 1 + 1 by omega) (show w.heap.size ≤ w.heap.size + 1 + 1 + 1 by omega) (show w.heap.size + 1 + 1 ≠ w.heap.size + 1 + 1 + 1 by omega) HG.out HH.out (OYc.out) (OXc.out) HRS.out)
                    have HT1 := Lib.hid HTW.out.1.draw
                    have HT2 := Lib.hid HTW.out.2.1.draw
                    have HT3 := Lib.hid HTW.out.2.2.draw
                    clear HTW
                    have g0 := HG.out.c0
                    have gf0 := HG.out.fz 0
                    have h0 := HH.out.c0
                    have hf0 := HH.out.fz 0
                    have g1 := HG.out.c1
                    have gf1 := HG.out.fz 1
                    have h1 := HH.out.c1
                    have hf1 := HH.out.fz 1
                    have g2 := HG.out.c2
                    have gf2 := HG.out.fz 2
                    have h2 := HH.out.c2
                    have hf2 := HH.out.fz 2
                    have g3 := HG.out.c3
                    have gf3 := HG.out.fz 3
                    have h3 := HH.out.c3
                    have hf3 := HH.out.fz 3
                    have g4 := HG.out.c4
                    have gf4 := HG.out.fz 4
                    have h4 := HH.out.c4
                    have hf4 := HH.out.fz 4
                    have g5 := HG.out.c5
                    have gf5 := HG.out.fz 5
                    have h5 := HH.out.c5
                    have hf5 := HH.out.fz 5
                    have b0 := HXL.out.c0
                    have d0 := HYL.out.c0
                    have b1 := HXL.out.c1
                    have d1 := HYL.out.c1
                    have b2 := HXL.out.c2
                    have d2 := HYL.out.c2
                    have b3 := HXL.out.c3
                    have d3 := HYL.out.c3
                    have b4 := HXL.out.c4
                    have d4 := HYL.out.c4
                    have b5 := HXL.out.c5
                    have d5 := HYL.out.c5
                    go_wp2_with fail
                    go_region
                    all_goals
                      clear g0 gf0 h0 hf0 g1 gf1 h1 hf1 g2 gf2 h2 hf2 g3 gf3 h3 hf3 g4 gf4 h4 hf4 g5 gf5 h5 hf5
                      clear b0 d0 b1 d1 b2 d2 b3 d3 b4 d4 b5 d5
                      go_wp
                      (try simp only [Exit.inBlock, Exit.then])
                      refine bodyPost_ret (ret_prim3 rfl _ _ _ _ y x _ rfl rfl rfl HT2.out HT3.out) rfl ?_
                      exact HT1.out
            · have k1 : (x.kind == 6) = false := by simpa using u1
              by_cases u4 : x.kind = 5
              · have k1' : (x.kind == 5) = true := by simpa using u4
                by_cases u2 : y.kind = 6
                · have k2 : (y.kind == 6) = true := by simpa using u2
                  have k3 : (y.p.toList == x.dst.toList) = false := by rw [str_beq]; exact decide_eq_false fun e => f2.out ⟨u4, u2, e⟩
                  clear u1 u2 u4
                  go_enter Tryz.func26, Tryz.ntmps26
                  go_wp2_with fail
                  generalize hwa : ((((w.alloc (.cells #[.int .i64 x.kind, .string x.p, .string x.dst, .int .i64 x.at_, .slice x.a1 x.old.length x.c1, .slice x.a2 x.new.length x.c2] 33)).alloc (.cells #[.int .i64 y.kind, .string y.p, .string y.dst, .int .i64 y.at_, .slice y.a1 y.old.length y.c1, .slice y.a2 y.new.length y.c2] 33)).alloc (.cells #[.int .i64 0, .string ⟨#[]⟩, .string ⟨#[]⟩, .int .i64 0, .slice none 0 0, .slice none 0 0] 33)).alloc (.cells #[.int .i64 0, .string ⟨#[]⟩, .string ⟨#[]⟩, .int .i64 0, .slice none 0 0, .slice none 0 0] 33)) = wa at *
                  clear hwa
                  refine (C1.out wa HA.out).mono ?_
                  rintro e wb ⟨rfl, hb⟩
                  replace HX := Lib.hid (HX.out.on hb)
                  replace HY := Lib.hid (HY.out.on hb)
                  replace HG := Lib.hid (HG.out.on hb)
                  replace HH := Lib.hid (HH.out.on hb)
                  replace HA := Lib.hid (HA.out.trans (hb.mono HA.out.size))
                  clear hb
                  have y0 := HY.out.c0
                  have y1 := HY.out.c1
                  have y2 := HY.out.c2
                  have y3 := HY.out.c3
                  have y4 := HY.out.c4
                  have y5 := HY.out.c5
                  go_wp2_with fail
                  refine (C2.out wb HA.out).mono ?_
                  rintro e wc ⟨rfl, hb⟩
                  replace HX := Lib.hid (HX.out.on hb)
                  replace HY := Lib.hid (HY.out.on hb)
                  replace HG := Lib.hid (HG.out.on hb)
                  replace HH := Lib.hid (HH.out.on hb)
                  replace HA := Lib.hid (HA.out.trans (hb.mono HA.out.size))
                  clear hb
                  clear y0 y1 y2 y3 y4 y5
                  have OXc := Lib.hid (OX.out wc HA.out)
                  have OYc := Lib.hid (OY.out wc HA.out)
                  have x0 := HX.out.c0
                  have x1 := HX.out.c1
                  have x2 := HX.out.c2
                  have x3 := HX.out.c3
                  have x4 := HX.out.c4
                  have x5 := HX.out.c5
                  have y0 := HY.out.c0
                  have y1 := HY.out.c1
                  have y2 := HY.out.c2
                  have y3 := HY.out.c3
                  have y4 := HY.out.c4
                  have y5 := HY.out.c5
                  clear f1 f2 f3
                  go_upto_region 21 with (fail)
                  go_wp2_with fail
                  clear x0 y0 x1 y1 x2 y2 x3 y3 x4 y4 x5 y5
                  refine (CA.out wc HA.out).mono ?_
                  rintro e wd ⟨rfl, hb⟩
                  have hbB := hb.mono (Nat.le_trans HB0.out HA.out.size)
                  replace OXc := Lib.hid (OXc.out.below hbB)
                  replace OYc := Lib.hid (OYc.out.below hbB)
                  clear hbB
                  replace HX := Lib.hid (HX.out.on hb)
                  replace HY := Lib.hid (HY.out.on hb)
                  replace HG := Lib.hid (HG.out.on hb)
                  replace HH := Lib.hid (HH.out.on hb)
                  replace HA := Lib.hid (HA.out.trans (hb.mono HA.out.size))
                  clear hb
                  clear CA
                  cases ap
                  · have HRS : Hid (R9 = (13, Pm.key ⟨0, ⟨#[]⟩, ⟨#[]⟩, 0, none, 0, [], none, 0, []⟩, Pm.key ⟨0, ⟨#[]⟩, ⟨#[]⟩, 0, none, 0, [], none, 0, []⟩)) := HPT.out.trans (turn_non (HTT.out.trans (by rw [HAP.out]; rfl)))
                    go_upto_region 22 with (fail)
                    have HTW := Lib.hid (two_setB (w := w) (n := 13) HA.out HB0.out (show w.heap.size ≤ w.heap.size + 1 + 1 by omega) (show w.heap.size ≤ w.heap.size + 1 + 1 + 1 by omega) (show w.heap.size + 1 + 1 ≠ w.heap.size + 1 + 1 + 1 by omega) HG.out HH.out (zero_okB _ _) (zero_okB _ _) HRS.out)
                    have HT1 := Lib.hid HTW.out.1
                    have HT2 := Lib.hid HTW.out.2.1
                    have HT3 := Lib.hid HTW.out.2.2
                    clear HTW
                    have g0 := HG.out.c0
                    have gf0 := HG.out.fz 0
                    have h0 := HH.out.c0
                    have hf0 := HH.out.fz 0
                    have g1 := HG.out.c1
                    have gf1 := HG.out.fz 1
                    have h1 := HH.out.c1
                    have hf1 := HH.out.fz 1
                    have g2 := HG.out.c2
                    have gf2 := HG.out.fz 2
                    have h2 := HH.out.c2
                    have hf2 := HH.out.fz 2
                    have g3 := HG.out.c3
                    have gf3 := HG.out.fz 3
                    have h3 := HH.out.c3
                    have hf3 := HH.out.fz 3
                    have g4 := HG.out.c4
                    have gf4 := HG.out.fz 4
                    have h4 := HH.out.c4
                    have hf4 := HH.out.fz 4
                    have g5 := HG.out.c5
                    have gf5 := HG.out.fz 5
                    have h5 := HH.out.c5
                    have hf5 := HH.out.fz 5
                    go_wp
                    (try simp only [Exit.inBlock, Exit.then])
                    refine bodyPost_ret (ret_prim3 rfl _ _ _ _ ⟨0, ⟨#[]⟩, ⟨#[]⟩, 0, none, 0, [], none, 0, []⟩ ⟨0, ⟨#[]⟩, ⟨#[]⟩, 0, none, 0, [], none, 0, []⟩ _ rfl rfl rfl HT2.out HT3.out) rfl ?_
                    exact HT1.out
                  · have HRS : Hid (R9 = (0, y.key, x.key)) := HPT.out.trans (turn_res (HTT.out.trans (by rw [HAP.out]; rfl)))
                    have HXL := Lib.hid HX.out
                    have HYL := Lib.hid HY.out
                    have HTW := Lib.hid (two_setB (w := w) (n := 0) HA.out HB0.out (show w.heap.size ≤ w.heap.size + 1 + 1 by omega) (show w.heap.size ≤ w.heap.size + 1 + 1 + 1 by omega) (show w.heap.size + 1 + 1 ≠ w.heap.size + 1 + 1 + 1 by omega) HG.out HH.out (OYc.out) (OXc.out) HRS.out)
                    have HT1 := Lib.hid HTW.out.1.draw
                    have HT2 := Lib.hid HTW.out.2.1.draw
                    have HT3 := Lib.hid HTW.out.2.2.draw
                    clear HTW
                    have g0 := HG.out.c0
                    have gf0 := HG.out.fz 0
                    have h0 := HH.out.c0
                    have hf0 := HH.out.fz 0
                    have g1 := HG.out.c1
                    have gf1 := HG.out.fz 1
                    have h1 := HH.out.c1
                    have hf1 := HH.out.fz 1
                    have g2 := HG.out.c2
                    have gf2 := HG.out.fz 2
                    have h2 := HH.out.c2
                    have hf2 := HH.out.fz 2
                    have g3 := HG.out.c3
                    have gf3 := HG.out.fz 3
                    have h3 := HH.out.c3
                    have hf3 := HH.out.fz 3
                    have g4 := HG.out.c4
                    have gf4 := HG.out.fz 4
                    have h4 := HH.out.c4
                    have hf4 := HH.out.fz 4
                    have g5 := HG.out.c5
                    have gf5 := HG.out.fz 5
                    have h5 := HH.out.c5
                    have hf5 := HH.out.fz 5
                    have b0 := HXL.out.c0
                    have d0 := HYL.out.c0
                    have b1 := HXL.out.c1
                    have d1 := HYL.out.c1
                    have b2 := HXL.out.c2
                    have d2 := HYL.out.c2
                    have b3 := HXL.out.c3
                    have d3 := HYL.out.c3
                    have b4 := HXL.out.c4
                    have d4 := HYL.out.c4
                    have b5 := HXL.out.c5
                    have d5 := HYL.out.c5
                    go_wp2_with fail
                    go_region
                    all_goals
                      clear g0 gf0 h0 hf0 g1 gf1 h1 hf1 g2 gf2 h2 hf2 g3 gf3 h3 hf3 g4 gf4 h4 hf4 g5 gf5 h5 hf5
                      clear b0 d0 b1 d1 b2 d2 b3 d3 b4 d4 b5 d5
                      go_wp
                      (try simp only [Exit.inBlock, Exit.then])
                      refine bodyPost_ret (ret_prim3 rfl _ _ _ _ y x _ rfl rfl rfl HT2.out HT3.out) rfl ?_
                      exact HT1.out
                · have k2 : (y.kind == 6) = false := by simpa using u2
                  clear u1 u2 u4
                  go_enter Tryz.func26, Tryz.ntmps26
                  go_wp2_with fail
                  generalize hwa : ((((w.alloc (.cells #[.int .i64 x.kind, .string x.p, .string x.dst, .int .i64 x.at_, .slice x.a1 x.old.length x.c1, .slice x.a2 x.new.length x.c2] 33)).alloc (.cells #[.int .i64 y.kind, .string y.p, .string y.dst, .int .i64 y.at_, .slice y.a1 y.old.length y.c1, .slice y.a2 y.new.length y.c2] 33)).alloc (.cells #[.int .i64 0, .string ⟨#[]⟩, .string ⟨#[]⟩, .int .i64 0, .slice none 0 0, .slice none 0 0] 33)).alloc (.cells #[.int .i64 0, .string ⟨#[]⟩, .string ⟨#[]⟩, .int .i64 0, .slice none 0 0, .slice none 0 0] 33)) = wa at *
                  clear hwa
                  refine (C1.out wa HA.out).mono ?_
                  rintro e wb ⟨rfl, hb⟩
                  replace HX := Lib.hid (HX.out.on hb)
                  replace HY := Lib.hid (HY.out.on hb)
                  replace HG := Lib.hid (HG.out.on hb)
                  replace HH := Lib.hid (HH.out.on hb)
                  replace HA := Lib.hid (HA.out.trans (hb.mono HA.out.size))
                  clear hb
                  have y0 := HY.out.c0
                  have y1 := HY.out.c1
                  have y2 := HY.out.c2
                  have y3 := HY.out.c3
                  have y4 := HY.out.c4
                  have y5 := HY.out.c5
                  go_wp2_with fail
                  refine (C2.out wb HA.out).mono ?_
                  rintro e wc ⟨rfl, hb⟩
                  replace HX := Lib.hid (HX.out.on hb)
                  replace HY := Lib.hid (HY.out.on hb)
                  replace HG := Lib.hid (HG.out.on hb)
                  replace HH := Lib.hid (HH.out.on hb)
                  replace HA := Lib.hid (HA.out.trans (hb.mono HA.out.size))
                  clear hb
                  clear y0 y1 y2 y3 y4 y5
                  have OXc := Lib.hid (OX.out wc HA.out)
                  have OYc := Lib.hid (OY.out wc HA.out)
                  have x0 := HX.out.c0
                  have x1 := HX.out.c1
                  have x2 := HX.out.c2
                  have x3 := HX.out.c3
                  have x4 := HX.out.c4
                  have x5 := HX.out.c5
                  have y0 := HY.out.c0
                  have y1 := HY.out.c1
                  have y2 := HY.out.c2
                  have y3 := HY.out.c3
                  have y4 := HY.out.c4
                  have y5 := HY.out.c5
                  clear f1 f2 f3
                  go_upto_region 21 with (fail)
                  go_wp2_with fail
                  clear x0 y0 x1 y1 x2 y2 x3 y3 x4 y4 x5 y5
                  refine (CA.out wc HA.out).mono ?_
                  rintro e wd ⟨rfl, hb⟩
                  have hbB := hb.mono (Nat.le_trans HB0.out HA.out.size)
                  replace OXc := Lib.hid (OXc.out.below hbB)
                  replace OYc := Lib.hid (OYc.out.below hbB)
                  clear hbB
                  replace HX := Lib.hid (HX.out.on hb)
                  replace HY := Lib.hid (HY.out.on hb)
                  replace HG := Lib.hid (HG.out.on hb)
                  replace HH := Lib.hid (HH.out.on hb)
                  replace HA := Lib.hid (HA.out.trans (hb.mono HA.out.size))
                  clear hb
                  clear CA
                  cases ap
                  · have HRS : Hid (R9 = (13, Pm.key ⟨0, ⟨#[]⟩, ⟨#[]⟩, 0, none, 0, [], none, 0, []⟩, Pm.key ⟨0, ⟨#[]⟩, ⟨#[]⟩, 0, none, 0, [], none, 0, []⟩)) := HPT.out.trans (turn_non (HTT.out.trans (by rw [HAP.out]; rfl)))
                    go_upto_region 22 with (fail)
                    have HTW := Lib.hid (two_setB (w := w) (n := 13) HA.out HB0.out (show w.heap.size ≤ w.heap.size + 1 + 1 by omega) (show w.heap.size ≤ w.heap.size + 1 + 1 + 1 by omega) (show w.heap.size + 1 + 1 ≠ w.heap.size + 1 + 1 + 1 by omega) HG.out HH.out (zero_okB _ _) (zero_okB _ _) HRS.out)
                    have HT1 := Lib.hid HTW.out.1
                    have HT2 := Lib.hid HTW.out.2.1
                    have HT3 := Lib.hid HTW.out.2.2
                    clear HTW
                    have g0 := HG.out.c0
                    have gf0 := HG.out.fz 0
                    have h0 := HH.out.c0
                    have hf0 := HH.out.fz 0
                    have g1 := HG.out.c1
                    have gf1 := HG.out.fz 1
                    have h1 := HH.out.c1
                    have hf1 := HH.out.fz 1
                    have g2 := HG.out.c2
                    have gf2 := HG.out.fz 2
                    have h2 := HH.out.c2
                    have hf2 := HH.out.fz 2
                    have g3 := HG.out.c3
                    have gf3 := HG.out.fz 3
                    have h3 := HH.out.c3
                    have hf3 := HH.out.fz 3
                    have g4 := HG.out.c4
                    have gf4 := HG.out.fz 4
                    have h4 := HH.out.c4
                    have hf4 := HH.out.fz 4
                    have g5 := HG.out.c5
                    have gf5 := HG.out.fz 5
                    have h5 := HH.out.c5
                    have hf5 := HH.out.fz 5
                    go_wp
                    (try simp only [Exit.inBlock, Exit.then])
                    refine bodyPost_ret (ret_prim3 rfl _ _ _ _ ⟨0, ⟨#[]⟩, ⟨#[]⟩, 0, none, 0, [], none, 0, []⟩ ⟨0, ⟨#[]⟩, ⟨#[]⟩, 0, none, 0, [], none, 0, []⟩ _ rfl rfl rfl HT2.out HT3.out) rfl ?_
                    exact HT1.out
                  · have HRS : Hid (R9 = (0, y.key, x.key)) := HPT.out.trans (turn_res (HTT.out.trans (by rw [HAP.out]; rfl)))
                    have HXL := Lib.hid HX.out
                    have HYL := Lib.hid HY.out
                    have HTW := Lib.hid (two_setB (w := w) (n := 0) HA.out HB0.out (show w.heap.size ≤ w.heap.size + 1 + 1 by omega) (show w.heap.size ≤ w.heap.size + 1 + 1 + 1 by omega) (show w.heap.size + 1 + 1 ≠ w.heap.size + 1 + 1 + 1 by omega) HG.out HH.out (OYc.out) (OXc.out) HRS.out)
                    have HT1 := Lib.hid HTW.out.1.draw
                    have HT2 := Lib.hid HTW.out.2.1.draw
                    have HT3 := Lib.hid HTW.out.2.2.draw
                    clear HTW
                    have g0 := HG.out.c0
                    have gf0 := HG.out.fz 0
                    have h0 := HH.out.c0
                    have hf0 := HH.out.fz 0
                    have g1 := HG.out.c1
                    have gf1 := HG.out.fz 1
                    have h1 := HH.out.c1
                    have hf1 := HH.out.fz 1
                    have g2 := HG.out.c2
                    have gf2 := HG.out.fz 2
                    have h2 := HH.out.c2
                    have hf2 := HH.out.fz 2
                    have g3 := HG.out.c3
                    have gf3 := HG.out.fz 3
                    have h3 := HH.out.c3
                    have hf3 := HH.out.fz 3
                    have g4 := HG.out.c4
                    have gf4 := HG.out.fz 4
                    have h4 := HH.out.c4
                    have hf4 := HH.out.fz 4
                    have g5 := HG.out.c5
                    have gf5 := HG.out.fz 5
                    have h5 := HH.out.c5
                    have hf5 := HH.out.fz 5
                    have b0 := HXL.out.c0
                    have d0 := HYL.out.c0
                    have b1 := HXL.out.c1
                    have d1 := HYL.out.c1
                    have b2 := HXL.out.c2
                    have d2 := HYL.out.c2
                    have b3 := HXL.out.c3
                    have d3 := HYL.out.c3
                    have b4 := HXL.out.c4
                    have d4 := HYL.out.c4
                    have b5 := HXL.out.c5
                    have d5 := HYL.out.c5
                    go_wp2_with fail
                    go_region
                    all_goals
                      clear g0 gf0 h0 hf0 g1 gf1 h1 hf1 g2 gf2 h2 hf2 g3 gf3 h3 hf3 g4 gf4 h4 hf4 g5 gf5 h5 hf5
                      clear b0 d0 b1 d1 b2 d2 b3 d3 b4 d4 b5 d5
                      go_wp
                      (try simp only [Exit.inBlock, Exit.then])
                      refine bodyPost_ret (ret_prim3 rfl _ _ _ _ y x _ rfl rfl rfl HT2.out HT3.out) rfl ?_
                      exact HT1.out
              · have k1' : (x.kind == 5) = false := by simpa using u4
                clear u1 u4
                go_enter Tryz.func26, Tryz.ntmps26
                go_wp2_with fail
                generalize hwa : ((((w.alloc (.cells #[.int .i64 x.kind, .string x.p, .string x.dst, .int .i64 x.at_, .slice x.a1 x.old.length x.c1, .slice x.a2 x.new.length x.c2] 33)).alloc (.cells #[.int .i64 y.kind, .string y.p, .string y.dst, .int .i64 y.at_, .slice y.a1 y.old.length y.c1, .slice y.a2 y.new.length y.c2] 33)).alloc (.cells #[.int .i64 0, .string ⟨#[]⟩, .string ⟨#[]⟩, .int .i64 0, .slice none 0 0, .slice none 0 0] 33)).alloc (.cells #[.int .i64 0, .string ⟨#[]⟩, .string ⟨#[]⟩, .int .i64 0, .slice none 0 0, .slice none 0 0] 33)) = wa at *
                clear hwa
                refine (C1.out wa HA.out).mono ?_
                rintro e wb ⟨rfl, hb⟩
                replace HX := Lib.hid (HX.out.on hb)
                replace HY := Lib.hid (HY.out.on hb)
                replace HG := Lib.hid (HG.out.on hb)
                replace HH := Lib.hid (HH.out.on hb)
                replace HA := Lib.hid (HA.out.trans (hb.mono HA.out.size))
                clear hb
                have y0 := HY.out.c0
                have y1 := HY.out.c1
                have y2 := HY.out.c2
                have y3 := HY.out.c3
                have y4 := HY.out.c4
                have y5 := HY.out.c5
                go_wp2_with fail
                refine (C2.out wb HA.out).mono ?_
                rintro e wc ⟨rfl, hb⟩
                replace HX := Lib.hid (HX.out.on hb)
                replace HY := Lib.hid (HY.out.on hb)
                replace HG := Lib.hid (HG.out.on hb)
                replace HH := Lib.hid (HH.out.on hb)
                replace HA := Lib.hid (HA.out.trans (hb.mono HA.out.size))
                clear hb
                clear y0 y1 y2 y3 y4 y5
                have OXc := Lib.hid (OX.out wc HA.out)
                have OYc := Lib.hid (OY.out wc HA.out)
                have x0 := HX.out.c0
                have x1 := HX.out.c1
                have x2 := HX.out.c2
                have x3 := HX.out.c3
                have x4 := HX.out.c4
                have x5 := HX.out.c5
                have y0 := HY.out.c0
                have y1 := HY.out.c1
                have y2 := HY.out.c2
                have y3 := HY.out.c3
                have y4 := HY.out.c4
                have y5 := HY.out.c5
                clear f1 f2 f3
                go_upto_region 21 with (fail)
                go_wp2_with fail
                clear x0 y0 x1 y1 x2 y2 x3 y3 x4 y4 x5 y5
                refine (CA.out wc HA.out).mono ?_
                rintro e wd ⟨rfl, hb⟩
                have hbB := hb.mono (Nat.le_trans HB0.out HA.out.size)
                replace OXc := Lib.hid (OXc.out.below hbB)
                replace OYc := Lib.hid (OYc.out.below hbB)
                clear hbB
                replace HX := Lib.hid (HX.out.on hb)
                replace HY := Lib.hid (HY.out.on hb)
                replace HG := Lib.hid (HG.out.on hb)
                replace HH := Lib.hid (HH.out.on hb)
                replace HA := Lib.hid (HA.out.trans (hb.mono HA.out.size))
                clear hb
                clear CA
                cases ap
                · have HRS : Hid (R9 = (13, Pm.key ⟨0, ⟨#[]⟩, ⟨#[]⟩, 0, none, 0, [], none, 0, []⟩, Pm.key ⟨0, ⟨#[]⟩, ⟨#[]⟩, 0, none, 0, [], none, 0, []⟩)) := HPT.out.trans (turn_non (HTT.out.trans (by rw [HAP.out]; rfl)))
                  go_upto_region 22 with (fail)
                  have HTW := Lib.hid (two_setB (w := w) (n := 13) HA.out HB0.out (show w.heap.size ≤ w.heap.size + 1 + 1 by omega) (show w.heap.size ≤ w.heap.size + 1 + 1 + 1 by omega) (show w.heap.size + 1 + 1 ≠ w.heap.size + 1 + 1 + 1 by omega) HG.out HH.out (zero_okB _ _) (zero_okB _ _) HRS.out)
                  have HT1 := Lib.hid HTW.out.1
                  have HT2 := Lib.hid HTW.out.2.1
                  have HT3 := Lib.hid HTW.out.2.2
                  clear HTW
                  have g0 := HG.out.c0
                  have gf0 := HG.out.fz 0
                  have h0 := HH.out.c0
                  have hf0 := HH.out.fz 0
                  have g1 := HG.out.c1
                  have gf1 := HG.out.fz 1
                  have h1 := HH.out.c1
                  have hf1 := HH.out.fz 1
                  have g2 := HG.out.c2
                  have gf2 := HG.out.fz 2
                  have h2 := HH.out.c2
                  have hf2 := HH.out.fz 2
                  have g3 := HG.out.c3
                  have gf3 := HG.out.fz 3
                  have h3 := HH.out.c3
                  have hf3 := HH.out.fz 3
                  have g4 := HG.out.c4
                  have gf4 := HG.out.fz 4
                  have h4 := HH.out.c4
                  have hf4 := HH.out.fz 4
                  have g5 := HG.out.c5
                  have gf5 := HG.out.fz 5
                  have h5 := HH.out.c5
                  have hf5 := HH.out.fz 5
                  go_wp
                  (try simp only [Exit.inBlock, Exit.then])
                  refine bodyPost_ret (ret_prim3 rfl _ _ _ _ ⟨0, ⟨#[]⟩, ⟨#[]⟩, 0, none, 0, [], none, 0, []⟩ ⟨0, ⟨#[]⟩, ⟨#[]⟩, 0, none, 0, [], none, 0, []⟩ _ rfl rfl rfl HT2.out HT3.out) rfl ?_
                  exact HT1.out
                · have HRS : Hid (R9 = (0, y.key, x.key)) := HPT.out.trans (turn_res (HTT.out.trans (by rw [HAP.out]; rfl)))
                  have HXL := Lib.hid HX.out
                  have HYL := Lib.hid HY.out
                  have HTW := Lib.hid (two_setB (w := w) (n := 0) HA.out HB0.out (show w.heap.size ≤ w.heap.size + 1 + 1 by omega) (show w.heap.size ≤ w.heap.size + 1 + 1 + 1 by omega) (show w.heap.size + 1 + 1 ≠ w.heap.size + 1 + 1 + 1 by omega) HG.out HH.out (OYc.out) (OXc.out) HRS.out)
                  have HT1 := Lib.hid HTW.out.1.draw
                  have HT2 := Lib.hid HTW.out.2.1.draw
                  have HT3 := Lib.hid HTW.out.2.2.draw
                  clear HTW
                  have g0 := HG.out.c0
                  have gf0 := HG.out.fz 0
                  have h0 := HH.out.c0
                  have hf0 := HH.out.fz 0
                  have g1 := HG.out.c1
                  have gf1 := HG.out.fz 1
                  have h1 := HH.out.c1
                  have hf1 := HH.out.fz 1
                  have g2 := HG.out.c2
                  have gf2 := HG.out.fz 2
                  have h2 := HH.out.c2
                  have hf2 := HH.out.fz 2
                  have g3 := HG.out.c3
                  have gf3 := HG.out.fz 3
                  have h3 := HH.out.c3
                  have hf3 := HH.out.fz 3
                  have g4 := HG.out.c4
                  have gf4 := HG.out.fz 4
                  have h4 := HH.out.c4
                  have hf4 := HH.out.fz 4
                  have g5 := HG.out.c5
                  have gf5 := HG.out.fz 5
                  have h5 := HH.out.c5
                  have hf5 := HH.out.fz 5
                  have b0 := HXL.out.c0
                  have d0 := HYL.out.c0
                  have b1 := HXL.out.c1
                  have d1 := HYL.out.c1
                  have b2 := HXL.out.c2
                  have d2 := HYL.out.c2
                  have b3 := HXL.out.c3
                  have d3 := HYL.out.c3
                  have b4 := HXL.out.c4
                  have d4 := HYL.out.c4
                  have b5 := HXL.out.c5
                  have d5 := HYL.out.c5
                  go_wp2_with fail
                  go_region
                  all_goals
                    clear g0 gf0 h0 hf0 g1 gf1 h1 hf1 g2 gf2 h2 hf2 g3 gf3 h3 hf3 g4 gf4 h4 hf4 g5 gf5 h5 hf5
                    clear b0 d0 b1 d1 b2 d2 b3 d3 b4 d4 b5 d5
                    go_wp
                    (try simp only [Exit.inBlock, Exit.then])
                    refine bodyPost_ret (ret_prim3 rfl _ _ _ _ y x _ rfl rfl rfl HT2.out HT3.out) rfl ?_
                    exact HT1.out
    · have k2 : (ckP y.key != 0) = true := by simpa using h2
      have HRS : Hid (pairP x.key y.key = (ckP y.key, Pm.key ⟨0, ⟨#[]⟩, ⟨#[]⟩, 0, none, 0, [], none, 0, []⟩, Pm.key ⟨0, ⟨#[]⟩, ⟨#[]⟩, 0, none, 0, [], none, 0, []⟩)) := by
        show _ = _
        unfold pairP
        rw [if_neg (by simpa using h1), if_pos h2]
        rfl
      rw [h1] at C1
      clear h1 h2 CA OX OY HPQ RX
      generalize ckP y.key = n2 at *
      go_enter Tryz.func26, Tryz.ntmps26
      go_wp2_with fail
      generalize hwa : ((((w.alloc (.cells #[.int .i64 x.kind, .string x.p, .string x.dst, .int .i64 x.at_, .slice x.a1 x.old.length x.c1, .slice x.a2 x.new.length x.c2] 33)).alloc (.cells #[.int .i64 y.kind, .string y.p, .string y.dst, .int .i64 y.at_, .slice y.a1 y.old.length y.c1, .slice y.a2 y.new.length y.c2] 33)).alloc (.cells #[.int .i64 0, .string ⟨#[]⟩, .string ⟨#[]⟩, .int .i64 0, .slice none 0 0, .slice none 0 0] 33)).alloc (.cells #[.int .i64 0, .string ⟨#[]⟩, .string ⟨#[]⟩, .int .i64 0, .slice none 0 0, .slice none 0 0] 33)) = wa at *
      clear hwa
      refine (C1.out wa HA.out).mono ?_
      rintro e wb ⟨rfl, hb⟩
      replace HX := Lib.hid (HX.out.on hb)
      replace HY := Lib.hid (HY.out.on hb)
      replace HG := Lib.hid (HG.out.on hb)
      replace HH := Lib.hid (HH.out.on hb)
      replace HA := Lib.hid (HA.out.trans (hb.mono HA.out.size))
      clear hb
      have y0 := HY.out.c0
      have y1 := HY.out.c1
      have y2 := HY.out.c2
      have y3 := HY.out.c3
      have y4 := HY.out.c4
      have y5 := HY.out.c5
      go_wp2_with fail
      refine (C2.out wb HA.out).mono ?_
      rintro e wc ⟨rfl, hb⟩
      replace HX := Lib.hid (HX.out.on hb)
      replace HY := Lib.hid (HY.out.on hb)
      replace HG := Lib.hid (HG.out.on hb)
      replace HH := Lib.hid (HH.out.on hb)
      replace HA := Lib.hid (HA.out.trans (hb.mono HA.out.size))
      clear hb
      clear y0 y1 y2 y3 y4 y5
      go_upto_region 6 with (fail)
      have HTW := Lib.hid (two_setB (w := w) (n := n2) HA.out HB0.out (show w.heap.size ≤ w.heap.size + 1 + 1 by omega) (show w.heap.size ≤ w.heap.size + 1 + 1 + 1 by omega) (show w.heap.size + 1 + 1 ≠ w.heap.size + 1 + 1 + 1 by omega) HG.out HH.out (zero_okB _ _) (zero_okB _ _) HRS.out)
      have HT1 := Lib.hid HTW.out.1
      have HT2 := Lib.hid HTW.out.2.1
      have HT3 := Lib.hid HTW.out.2.2
      clear HTW
      have g0 := HG.out.c0
      have gf0 := HG.out.fz 0
      have h0 := HH.out.c0
      have hf0 := HH.out.fz 0
      have g1 := HG.out.c1
      have gf1 := HG.out.fz 1
      have h1 := HH.out.c1
      have hf1 := HH.out.fz 1
      have g2 := HG.out.c2
      have gf2 := HG.out.fz 2
      have h2 := HH.out.c2
      have hf2 := HH.out.fz 2
      have g3 := HG.out.c3
      have gf3 := HG.out.fz 3
      have h3 := HH.out.c3
      have hf3 := HH.out.fz 3
      have g4 := HG.out.c4
      have gf4 := HG.out.fz 4
      have h4 := HH.out.c4
      have hf4 := HH.out.fz 4
      have g5 := HG.out.c5
      have gf5 := HG.out.fz 5
      have h5 := HH.out.c5
      have hf5 := HH.out.fz 5
      go_wp
      (try simp only [Exit.inBlock, Exit.then])
      refine bodyPost_ret (ret_prim3 rfl _ _ _ _ ⟨0, ⟨#[]⟩, ⟨#[]⟩, 0, none, 0, [], none, 0, []⟩ ⟨0, ⟨#[]⟩, ⟨#[]⟩, 0, none, 0, [], none, 0, []⟩ _ rfl rfl rfl HT2.out HT3.out) rfl ?_
      exact HT1.out
  · have k1 : (ckP x.key != 0) = true := by simpa using h1
    have HRS : Hid (pairP x.key y.key = (ckP x.key, Pm.key ⟨0, ⟨#[]⟩, ⟨#[]⟩, 0, none, 0, [], none, 0, []⟩, Pm.key ⟨0, ⟨#[]⟩, ⟨#[]⟩, 0, none, 0, [], none, 0, []⟩)) := by
      show _ = _
      unfold pairP
      rw [if_pos h1]
      rfl
    clear h1 C2 CA OX OY HPQ RX
    generalize ckP x.key = n1 at *
    go_enter Tryz.func26, Tryz.ntmps26
    go_wp2_with fail
    generalize hwa : ((((w.alloc (.cells #[.int .i64 x.kind, .string x.p, .string x.dst, .int .i64 x.at_, .slice x.a1 x.old.length x.c1, .slice x.a2 x.new.length x.c2] 33)).alloc (.cells #[.int .i64 y.kind, .string y.p, .string y.dst, .int .i64 y.at_, .slice y.a1 y.old.length y.c1, .slice y.a2 y.new.length y.c2] 33)).alloc (.cells #[.int .i64 0, .string ⟨#[]⟩, .string ⟨#[]⟩, .int .i64 0, .slice none 0 0, .slice none 0 0] 33)).alloc (.cells #[.int .i64 0, .string ⟨#[]⟩, .string ⟨#[]⟩, .int .i64 0, .slice none 0 0, .slice none 0 0] 33)) = wa at *
    clear hwa
    refine (C1.out wa HA.out).mono ?_
    rintro e wb ⟨rfl, hb⟩
    replace HX := Lib.hid (HX.out.on hb)
    replace HY := Lib.hid (HY.out.on hb)
    replace HG := Lib.hid (HG.out.on hb)
    replace HH := Lib.hid (HH.out.on hb)
    replace HA := Lib.hid (HA.out.trans (hb.mono HA.out.size))
    clear hb
    go_upto_region 3 with (fail)
    have HTW := Lib.hid (two_setB (w := w) (n := n1) HA.out HB0.out (show w.heap.size ≤ w.heap.size + 1 + 1 by omega) (show w.heap.size ≤ w.heap.size + 1 + 1 + 1 by omega) (show w.heap.size + 1 + 1 ≠ w.heap.size + 1 + 1 + 1 by omega) HG.out HH.out (zero_okB _ _) (zero_okB _ _) HRS.out)
    have HT1 := Lib.hid HTW.out.1
    have HT2 := Lib.hid HTW.out.2.1
    have HT3 := Lib.hid HTW.out.2.2
    clear HTW
    have g0 := HG.out.c0
    have gf0 := HG.out.fz 0
    have h0 := HH.out.c0
    have hf0 := HH.out.fz 0
    have g1 := HG.out.c1
    have gf1 := HG.out.fz 1
    have h1 := HH.out.c1
    have hf1 := HH.out.fz 1
    have g2 := HG.out.c2
    have gf2 := HG.out.fz 2
    have h2 := HH.out.c2
    have hf2 := HH.out.fz 2
    have g3 := HG.out.c3
    have gf3 := HG.out.fz 3
    have h3 := HH.out.c3
    have hf3 := HH.out.fz 3
    have g4 := HG.out.c4
    have gf4 := HG.out.fz 4
    have h4 := HH.out.c4
    have hf4 := HH.out.fz 4
    have g5 := HG.out.c5
    have gf5 := HG.out.fz 5
    have h5 := HH.out.c5
    have hf5 := HH.out.fz 5
    go_wp
    (try simp only [Exit.inBlock, Exit.then])
    refine bodyPost_ret (ret_prim3 rfl _ _ _ _ ⟨0, ⟨#[]⟩, ⟨#[]⟩, 0, none, 0, [], none, 0, []⟩ ⟨0, ⟨#[]⟩, ⟨#[]⟩, 0, none, 0, [], none, 0, []⟩ _ rfl rfl rfl HT2.out HT3.out) rfl ?_
    exact HT1.out
end Go.Proofs.YtalabahjfmcnbaaGreatDoor
