/- CommuteThree. -/
import Derived.Test.YtknommnlkdlkdaaDoorCk19
namespace Go.Proofs.YtknommnlkdlkdaaDoor
open Go.RowKit
set_option linter.unusedVariables false

theorem box_three (w : World) (x y z : Pm) (ox : x.Ok w w.heap.size) (oy : y.Ok w w.heap.size) (oz : z.Ok w w.heap.size) : Below w.heap.size w (((w.alloc (.cells #[.int .i64 x.kind, .string x.p, .string x.dst, .int .i64 x.at_, .slice x.a1 x.old.length x.c1, .slice x.a2 x.new.length x.c2] 24)).alloc (.cells #[.int .i64 y.kind, .string y.p, .string y.dst, .int .i64 y.at_, .slice y.a1 y.old.length y.c1, .slice y.a2 y.new.length y.c2] 24)).alloc (.cells #[.int .i64 z.kind, .string z.p, .string z.dst, .int .i64 z.at_, .slice z.a1 z.old.length z.c1, .slice z.a2 z.new.length z.c2] 24)) ∧ HeldP (((w.alloc (.cells #[.int .i64 x.kind, .string x.p, .string x.dst, .int .i64 x.at_, .slice x.a1 x.old.length x.c1, .slice x.a2 x.new.length x.c2] 24)).alloc (.cells #[.int .i64 y.kind, .string y.p, .string y.dst, .int .i64 y.at_, .slice y.a1 y.old.length y.c1, .slice y.a2 y.new.length y.c2] 24)).alloc (.cells #[.int .i64 z.kind, .string z.p, .string z.dst, .int .i64 z.at_, .slice z.a1 z.old.length z.c1, .slice z.a2 z.new.length z.c2] 24)) w.heap.size x ∧ HeldP (((w.alloc (.cells #[.int .i64 x.kind, .string x.p, .string x.dst, .int .i64 x.at_, .slice x.a1 x.old.length x.c1, .slice x.a2 x.new.length x.c2] 24)).alloc (.cells #[.int .i64 y.kind, .string y.p, .string y.dst, .int .i64 y.at_, .slice y.a1 y.old.length y.c1, .slice y.a2 y.new.length y.c2] 24)).alloc (.cells #[.int .i64 z.kind, .string z.p, .string z.dst, .int .i64 z.at_, .slice z.a1 z.old.length z.c1, .slice z.a2 z.new.length z.c2] 24)) (w.heap.size + 1) y ∧ HeldP (((w.alloc (.cells #[.int .i64 x.kind, .string x.p, .string x.dst, .int .i64 x.at_, .slice x.a1 x.old.length x.c1, .slice x.a2 x.new.length x.c2] 24)).alloc (.cells #[.int .i64 y.kind, .string y.p, .string y.dst, .int .i64 y.at_, .slice y.a1 y.old.length y.c1, .slice y.a2 y.new.length y.c2] 24)).alloc (.cells #[.int .i64 z.kind, .string z.p, .string z.dst, .int .i64 z.at_, .slice z.a1 z.old.length z.c1, .slice z.a2 z.new.length z.c2] 24)) (w.heap.size + 1 + 1) z := by
  obtain ⟨bl, k7, k8⟩ := box2 w x y
  have hz : ((w.alloc (.cells x.cells.toArray 24)).alloc (.cells y.cells.toArray 24)).heap.size = w.heap.size + 1 + 1 := by rw [World.size_alloc, World.size_alloc]
  have e0 : ((w.alloc (.cells #[.int .i64 x.kind, .string x.p, .string x.dst, .int .i64 x.at_, .slice x.a1 x.old.length x.c1, .slice x.a2 x.new.length x.c2] 24)).alloc (.cells #[.int .i64 y.kind, .string y.p, .string y.dst, .int .i64 y.at_, .slice y.a1 y.old.length y.c1, .slice y.a2 y.new.length y.c2] 24)) = ((w.alloc (.cells x.cells.toArray 24)).alloc (.cells y.cells.toArray 24)) := rfl
  rw [e0]
  generalize ((w.alloc (.cells x.cells.toArray 24)).alloc (.cells y.cells.toArray 24)) = w2 at *
  obtain ⟨b1, k9⟩ := box1 w2 z
  have e1 : (w2.alloc (.cells #[.int .i64 z.kind, .string z.p, .string z.dst, .int .i64 z.at_, .slice z.a1 z.old.length z.c1, .slice z.a2 z.new.length z.c2] 24)) = (w2.alloc (.cells z.cells.toArray 24)) := rfl
  rw [e1]
  rw [hz] at k9
  have hb := bl.trans (b1.mono bl.size)
  exact ⟨hb, ⟨k7.on b1, ox.on hb⟩, ⟨k8.on b1, oy.on hb⟩, ⟨k9, oz.on hb⟩⟩
set_option maxHeartbeats 40000000 in
set_option maxRecDepth 100000 in
theorem commutethree_any (x y z : Pm) (w : World) (ox : x.Ok w w.heap.size) (oy : y.Ok w w.heap.size) (oz : z.Ok w w.heap.size) (hT0 : Tabs w) :
    Calls Tryd.prog 3 #[.agg #[.int .i64 x.kind, .string x.p, .string x.dst, .int .i64 x.at_, .slice x.a1 x.old.length x.c1, .slice x.a2 x.new.length x.c2], .agg #[.int .i64 y.kind, .string y.p, .string y.dst, .int .i64 y.at_, .slice y.a1 y.old.length y.c1, .slice y.a2 y.new.length y.c2], .agg #[.int .i64 z.kind, .string z.p, .string z.dst, .int .i64 z.at_, .slice z.a1 z.old.length z.c1, .slice z.a2 z.new.length z.c2]] w fun e w' => e = .returned (.bool true) ∧ Below w.heap.size w w' := by
  obtain ⟨ha, hx, hy, hz⟩ := box_three w x y z ox oy oz
  have hps := row_three hx.2 hy.2 hz.2
  have CL := light7_any (some ⟨(((w.alloc (.cells #[.int .i64 x.kind, .string x.p, .string x.dst, .int .i64 x.at_, .slice x.a1 x.old.length x.c1, .slice x.a2 x.new.length x.c2] 24)).alloc (.cells #[.int .i64 y.kind, .string y.p, .string y.dst, .int .i64 y.at_, .slice y.a1 y.old.length y.c1, .slice y.a2 y.new.length y.c2] 24)).alloc (.cells #[.int .i64 z.kind, .string z.p, .string z.dst, .int .i64 z.at_, .slice z.a1 z.old.length z.c1, .slice z.a2 z.new.length z.c2] 24)).heap.size, 0, none⟩) [x, y, z] 3 _ hps (by simp)
  have hbr : Below (((w.alloc (.cells #[.int .i64 x.kind, .string x.p, .string x.dst, .int .i64 x.at_, .slice x.a1 x.old.length x.c1, .slice x.a2 x.new.length x.c2] 24)).alloc (.cells #[.int .i64 y.kind, .string y.p, .string y.dst, .int .i64 y.at_, .slice y.a1 y.old.length y.c1, .slice y.a2 y.new.length y.c2] 24)).alloc (.cells #[.int .i64 z.kind, .string z.p, .string z.dst, .int .i64 z.at_, .slice z.a1 z.old.length z.c1, .slice z.a2 z.new.length z.c2] 24)).heap.size (((w.alloc (.cells #[.int .i64 x.kind, .string x.p, .string x.dst, .int .i64 x.at_, .slice x.a1 x.old.length x.c1, .slice x.a2 x.new.length x.c2] 24)).alloc (.cells #[.int .i64 y.kind, .string y.p, .string y.dst, .int .i64 y.at_, .slice y.a1 y.old.length y.c1, .slice y.a2 y.new.length y.c2] 24)).alloc (.cells #[.int .i64 z.kind, .string z.p, .string z.dst, .int .i64 z.at_, .slice z.a1 z.old.length z.c1, .slice z.a2 z.new.length z.c2] 24)) ((((w.alloc (.cells #[.int .i64 x.kind, .string x.p, .string x.dst, .int .i64 x.at_, .slice x.a1 x.old.length x.c1, .slice x.a2 x.new.length x.c2] 24)).alloc (.cells #[.int .i64 y.kind, .string y.p, .string y.dst, .int .i64 y.at_, .slice y.a1 y.old.length y.c1, .slice y.a2 y.new.length y.c2] 24)).alloc (.cells #[.int .i64 z.kind, .string z.p, .string z.dst, .int .i64 z.at_, .slice z.a1 z.old.length z.c1, .slice z.a2 z.new.length z.c2] 24)).alloc (.cells #[.int .i64 x.kind, .string x.p, .string x.dst, .int .i64 x.at_, .slice x.a1 x.old.length x.c1, .slice x.a2 x.new.length x.c2, .int .i64 y.kind, .string y.p, .string y.dst, .int .i64 y.at_, .slice y.a1 y.old.length y.c1, .slice y.a2 y.new.length y.c2, .int .i64 z.kind, .string z.p, .string z.dst, .int .i64 z.at_, .slice z.a1 z.old.length z.c1, .slice z.a2 z.new.length z.c2] 24)) := (Below.refl _ _).alloc (Nat.le_refl _) _
  have hbl := ha.trans (hbr.mono ha.size)
  have HA := Lib.hid hbl
  have Hx := Lib.hid (hx.on hbr)
  have Hy := Lib.hid (hy.on hbr)
  have Hz := Lib.hid (hz.on hbr)
  have HT := Lib.hid (Tabs.on hT0 hbl)
  have hw3 : (((w.alloc (.cells #[.int .i64 x.kind, .string x.p, .string x.dst, .int .i64 x.at_, .slice x.a1 x.old.length x.c1, .slice x.a2 x.new.length x.c2] 24)).alloc (.cells #[.int .i64 y.kind, .string y.p, .string y.dst, .int .i64 y.at_, .slice y.a1 y.old.length y.c1, .slice y.a2 y.new.length y.c2] 24)).alloc (.cells #[.int .i64 z.kind, .string z.p, .string z.dst, .int .i64 z.at_, .slice z.a1 z.old.length z.c1, .slice z.a2 z.new.length z.c2] 24)).heap.size = w.heap.size + 1 + 1 + 1 := by rw [World.size_alloc, World.size_alloc, World.size_alloc]
  rw [hw3] at CL
  have RX : Hid (x.at_ < 9223372036854775808 ∧ y.at_ < 9223372036854775808 ∧ z.at_ < 9223372036854775808) := by
    have h1 : x.at_ ≤ 9223372036854775807 := ox.h.hi
    have h2 : y.at_ ≤ 9223372036854775807 := oy.h.hi
    have h3 : z.at_ ≤ 9223372036854775807 := oz.h.hi
    show _ ∧ _
    omega
  clear ox oy oz hT0 ha hx hy hz hps hbr hbl hw3
  cases h7 : light7B [x, y, z]
  · rw [h7] at CL
    have CL := Lib.hid CL
    clear h7 RX Hx Hy Hz
    go_enter Tryd.func3, Tryd.ntmps3
    go_wp2_with fail
    refine CL.out.mono ?_
    rintro e wl ⟨rfl, rfl⟩
    clear CL
    go_wp2_with fail
    refine (cawake_any _ HT.out).mono ?_
    rintro e wz ⟨rfl, hb⟩
    have HB := Lib.hid (HA.out.trans (hb.mono HA.out.size))
    clear hb
    go_wp2
    go_ret
    exact ⟨rfl, HB.out⟩
  rw [h7] at CL
  obtain ⟨_, hl⟩ := light7_facts h7
  have Lx : Hid (LtK x.key) := light_lt (light7_light (hl x (by simp)))
  have Ly : Hid (LtK y.key) := light_lt (light7_light (hl y (by simp)))
  have Lz : Hid (LtK z.key) := light_lt (light7_light (hl z (by simp)))
  have CL := Lib.hid CL
  clear h7 hl
  by_cases kx : x.kind = 6
  · have ex : (x.kind != 6) = false := by simpa using kx
    have ex' : (x.kind == 6) = true := by simpa using kx
    have Kx := Lib.hid kx
    clear kx
    by_cases ky : y.kind = 6
    · have ey : (y.kind != 6) = false := by simpa using ky
      have ey' : (y.kind == 6) = true := by simpa using ky
      have Ky := Lib.hid ky
      clear ky
      by_cases kz : z.kind = 6
      · have ez : (z.kind != 6) = false := by simpa using kz
        have ez' : (z.kind == 6) = true := by simpa using kz
        have Kz := Lib.hid kz
        clear kz
        have KX : Hid (x.key.kind = 6 ∧ y.key.kind = 6 ∧ z.key.kind = 6) := ⟨Kx.out, Ky.out, Kz.out⟩
        clear Kx Ky Kz
        go_enter Tryd.func3, Tryd.ntmps3
        go_wp2_with fail
        refine CL.out.mono ?_
        rintro e wl ⟨rfl, rfl⟩
        clear CL
        have z_0 := Hz.out.1.c0
        have x_0 := Hx.out.1.c0
        have x_1 := Hx.out.1.c1
        have x_2 := Hx.out.1.c2
        have x_3 := Hx.out.1.c3
        have x_4 := Hx.out.1.c4
        have x_5 := Hx.out.1.c5
        have y_0 := Hy.out.1.c0
        have y_1 := Hy.out.1.c1
        have y_2 := Hy.out.1.c2
        have y_3 := Hy.out.1.c3
        have y_4 := Hy.out.1.c4
        have y_5 := Hy.out.1.c5
        go_wp2_with fail
        clear x_0 x_1 x_2 x_3 x_4 x_5 y_0 y_1 y_2 y_3 y_4 y_5
        clear z_0
        generalize ((((w.alloc (.cells #[.int .i64 x.kind, .string x.p, .string x.dst, .int .i64 x.at_, .slice x.a1 x.old.length x.c1, .slice x.a2 x.new.length x.c2] 24)).alloc (.cells #[.int .i64 y.kind, .string y.p, .string y.dst, .int .i64 y.at_, .slice y.a1 y.old.length y.c1, .slice y.a2 y.new.length y.c2] 24)).alloc (.cells #[.int .i64 z.kind, .string z.p, .string z.dst, .int .i64 z.at_, .slice z.a1 z.old.length z.c1, .slice z.a2 z.new.length z.c2] 24)).alloc (.cells #[.int .i64 x.kind, .string x.p, .string x.dst, .int .i64 x.at_, .slice x.a1 x.old.length x.c1, .slice x.a2 x.new.length x.c2, .int .i64 y.kind, .string y.p, .string y.dst, .int .i64 y.at_, .slice y.a1 y.old.length y.c1, .slice y.a2 y.new.length y.c2, .int .i64 z.kind, .string z.p, .string z.dst, .int .i64 z.at_, .slice z.a1 z.old.length z.c1, .slice z.a2 z.new.length z.c2] 24)) = wk0 at *
        refine (cpair_l x y _ Hx.out.2 Hy.out.2 Lx.out Ly.out HT.out).mono ?_
        rintro e w1 ⟨q1, p1, n1, rfl, hy, hb⟩
        have EQ1 := Lib.hid hy.out.2.2
        have hkp := pair_kept Lx.out Ly.out hy.out hb
        have hbl := hkp.1
        replace Hx := Lib.hid (Hx.out.on hbl)
        replace Hy := Lib.hid (Hy.out.on hbl)
        replace Hz := Lib.hid (Hz.out.on hbl)
        replace HA := Lib.hid (HA.out.trans (hbl.mono HA.out.size))
        replace HT := Lib.hid (Tabs.on HT.out hbl)
        have Hq1 := Lib.hid hkp.2.1
        have Hp1 := Lib.hid hkp.2.2.1
        have Lq1 := Lib.hid hkp.2.2.2.1
        have Lp1 := Lib.hid hkp.2.2.2.2
        clear hy hb hkp hbl
        have p1_0 := Hp1.out.1.c0
        have p1_1 := Hp1.out.1.c1
        have p1_2 := Hp1.out.1.c2
        have p1_3 := Hp1.out.1.c3
        have p1_4 := Hp1.out.1.c4
        have p1_5 := Hp1.out.1.c5
        have z_0 := Hz.out.1.c0
        have z_1 := Hz.out.1.c1
        have z_2 := Hz.out.1.c2
        have z_3 := Hz.out.1.c3
        have z_4 := Hz.out.1.c4
        have z_5 := Hz.out.1.c5
        go_wp2_with fail
        clear p1_0 p1_1 p1_2 p1_3 p1_4 p1_5 z_0 z_1 z_2 z_3 z_4 z_5
        generalize ((w1.alloc (.cells #[.int .i64 q1.kind, .string q1.p, .string q1.dst, .int .i64 q1.at_, .slice q1.a1 q1.old.length q1.c1, .slice q1.a2 q1.new.length q1.c2] 24)).alloc (.cells #[.int .i64 p1.kind, .string p1.p, .string p1.dst, .int .i64 p1.at_, .slice p1.a1 p1.old.length p1.c1, .slice p1.a2 p1.new.length p1.c2] 24)) = wk1 at *
        refine (cpair_l p1 z _ Hp1.out.2 Hz.out.2 Lp1.out Lz.out HT.out).mono ?_
        rintro e w2 ⟨r1, p2, n2, rfl, hy, hb⟩
        have EQ2 := Lib.hid hy.out.2.2
        have hkp := pair_kept Lp1.out Lz.out hy.out hb
        have hbl := hkp.1
        replace Hx := Lib.hid (Hx.out.on hbl)
        replace Hy := Lib.hid (Hy.out.on hbl)
        replace Hz := Lib.hid (Hz.out.on hbl)
        replace Hq1 := Lib.hid (Hq1.out.on hbl)
        replace Hp1 := Lib.hid (Hp1.out.on hbl)
        replace HA := Lib.hid (HA.out.trans (hbl.mono HA.out.size))
        replace HT := Lib.hid (Tabs.on HT.out hbl)
        have Hr1 := Lib.hid hkp.2.1
        have Hp2 := Lib.hid hkp.2.2.1
        have Lr1 := Lib.hid hkp.2.2.2.1
        have Lp2 := Lib.hid hkp.2.2.2.2
        clear hy hb hkp hbl
        have q1_0 := Hq1.out.1.c0
        have q1_1 := Hq1.out.1.c1
        have q1_2 := Hq1.out.1.c2
        have q1_3 := Hq1.out.1.c3
        have q1_4 := Hq1.out.1.c4
        have q1_5 := Hq1.out.1.c5
        have r1_0 := Hr1.out.1.c0
        have r1_1 := Hr1.out.1.c1
        have r1_2 := Hr1.out.1.c2
        have r1_3 := Hr1.out.1.c3
        have r1_4 := Hr1.out.1.c4
        have r1_5 := Hr1.out.1.c5
        go_wp2_with fail
        clear q1_0 q1_1 q1_2 q1_3 q1_4 q1_5 r1_0 r1_1 r1_2 r1_3 r1_4 r1_5
        generalize ((w2.alloc (.cells #[.int .i64 r1.kind, .string r1.p, .string r1.dst, .int .i64 r1.at_, .slice r1.a1 r1.old.length r1.c1, .slice r1.a2 r1.new.length r1.c2] 24)).alloc (.cells #[.int .i64 p2.kind, .string p2.p, .string p2.dst, .int .i64 p2.at_, .slice p2.a1 p2.old.length p2.c1, .slice p2.a2 p2.new.length p2.c2] 24)) = wk2 at *
        refine (cpair_l q1 r1 _ Hq1.out.2 Hr1.out.2 Lq1.out Lr1.out HT.out).mono ?_
        rintro e w3 ⟨r2, q2, n3, rfl, hy, hb⟩
        have EQ3 := Lib.hid hy.out.2.2
        have hkp := pair_kept Lq1.out Lr1.out hy.out hb
        have hbl := hkp.1
        replace Hx := Lib.hid (Hx.out.on hbl)
        replace Hy := Lib.hid (Hy.out.on hbl)
        replace Hz := Lib.hid (Hz.out.on hbl)
        replace Hq1 := Lib.hid (Hq1.out.on hbl)
        replace Hp1 := Lib.hid (Hp1.out.on hbl)
        replace Hr1 := Lib.hid (Hr1.out.on hbl)
        replace Hp2 := Lib.hid (Hp2.out.on hbl)
        replace HA := Lib.hid (HA.out.trans (hbl.mono HA.out.size))
        replace HT := Lib.hid (Tabs.on HT.out hbl)
        have Hr2 := Lib.hid hkp.2.1
        have Hq2 := Lib.hid hkp.2.2.1
        have Lr2 := Lib.hid hkp.2.2.2.1
        have Lq2 := Lib.hid hkp.2.2.2.2
        clear hy hb hkp hbl
        by_cases hn1 : n1 = 0
        · subst hn1
          by_cases hn2 : n2 = 0
          · subst hn2
            by_cases hn3 : n3 = 0
            · subst hn3
              have y_0 := Hy.out.1.c0
              have y_1 := Hy.out.1.c1
              have y_2 := Hy.out.1.c2
              have y_3 := Hy.out.1.c3
              have y_4 := Hy.out.1.c4
              have y_5 := Hy.out.1.c5
              have z_0 := Hz.out.1.c0
              have z_1 := Hz.out.1.c1
              have z_2 := Hz.out.1.c2
              have z_3 := Hz.out.1.c3
              have z_4 := Hz.out.1.c4
              have z_5 := Hz.out.1.c5
              go_wp2_with fail
              clear y_0 y_1 y_2 y_3 y_4 y_5 z_0 z_1 z_2 z_3 z_4 z_5
              generalize ((w3.alloc (.cells #[.int .i64 r2.kind, .string r2.p, .string r2.dst, .int .i64 r2.at_, .slice r2.a1 r2.old.length r2.c1, .slice r2.a2 r2.new.length r2.c2] 24)).alloc (.cells #[.int .i64 q2.kind, .string q2.p, .string q2.dst, .int .i64 q2.at_, .slice q2.a1 q2.old.length q2.c1, .slice q2.a2 q2.new.length q2.c2] 24)) = wk3 at *
              refine (cpair_l y z _ Hy.out.2 Hz.out.2 Ly.out Lz.out HT.out).mono ?_
              rintro e w4 ⟨s1, t1, n4, rfl, hy, hb⟩
              have EQ4 := Lib.hid hy.out.2.2
              have hkp := pair_kept Ly.out Lz.out hy.out hb
              have hbl := hkp.1
              replace Hx := Lib.hid (Hx.out.on hbl)
              replace Hy := Lib.hid (Hy.out.on hbl)
              replace Hz := Lib.hid (Hz.out.on hbl)
              replace Hq1 := Lib.hid (Hq1.out.on hbl)
              replace Hp1 := Lib.hid (Hp1.out.on hbl)
              replace Hr1 := Lib.hid (Hr1.out.on hbl)
              replace Hp2 := Lib.hid (Hp2.out.on hbl)
              replace Hr2 := Lib.hid (Hr2.out.on hbl)
              replace Hq2 := Lib.hid (Hq2.out.on hbl)
              replace HA := Lib.hid (HA.out.trans (hbl.mono HA.out.size))
              replace HT := Lib.hid (Tabs.on HT.out hbl)
              have Hs1 := Lib.hid hkp.2.1
              have Ht1 := Lib.hid hkp.2.2.1
              have Ls1 := Lib.hid hkp.2.2.2.1
              have Lt1 := Lib.hid hkp.2.2.2.2
              clear hy hb hkp hbl
              have x_0 := Hx.out.1.c0
              have x_1 := Hx.out.1.c1
              have x_2 := Hx.out.1.c2
              have x_3 := Hx.out.1.c3
              have x_4 := Hx.out.1.c4
              have x_5 := Hx.out.1.c5
              have s1_0 := Hs1.out.1.c0
              have s1_1 := Hs1.out.1.c1
              have s1_2 := Hs1.out.1.c2
              have s1_3 := Hs1.out.1.c3
              have s1_4 := Hs1.out.1.c4
              have s1_5 := Hs1.out.1.c5
              go_wp2_with fail
              clear x_0 x_1 x_2 x_3 x_4 x_5 s1_0 s1_1 s1_2 s1_3 s1_4 s1_5
              generalize ((w4.alloc (.cells #[.int .i64 s1.kind, .string s1.p, .string s1.dst, .int .i64 s1.at_, .slice s1.a1 s1.old.length s1.c1, .slice s1.a2 s1.new.length s1.c2] 24)).alloc (.cells #[.int .i64 t1.kind, .string t1.p, .string t1.dst, .int .i64 t1.at_, .slice t1.a1 t1.old.length t1.c1, .slice t1.a2 t1.new.length t1.c2] 24)) = wk4 at *
              refine (cpair_l x s1 _ Hx.out.2 Hs1.out.2 Lx.out Ls1.out HT.out).mono ?_
              rintro e w5 ⟨s2, t2, n5, rfl, hy, hb⟩
              have EQ5 := Lib.hid hy.out.2.2
              have hkp := pair_kept Lx.out Ls1.out hy.out hb
              have hbl := hkp.1
              replace Hx := Lib.hid (Hx.out.on hbl)
              replace Hy := Lib.hid (Hy.out.on hbl)
              replace Hz := Lib.hid (Hz.out.on hbl)
              replace Hq1 := Lib.hid (Hq1.out.on hbl)
              replace Hp1 := Lib.hid (Hp1.out.on hbl)
              replace Hr1 := Lib.hid (Hr1.out.on hbl)
              replace Hp2 := Lib.hid (Hp2.out.on hbl)
              replace Hr2 := Lib.hid (Hr2.out.on hbl)
              replace Hq2 := Lib.hid (Hq2.out.on hbl)
              replace Hs1 := Lib.hid (Hs1.out.on hbl)
              replace Ht1 := Lib.hid (Ht1.out.on hbl)
              replace HA := Lib.hid (HA.out.trans (hbl.mono HA.out.size))
              replace HT := Lib.hid (Tabs.on HT.out hbl)
              have Hs2 := Lib.hid hkp.2.1
              have Ht2 := Lib.hid hkp.2.2.1
              have Ls2 := Lib.hid hkp.2.2.2.1
              have Lt2 := Lib.hid hkp.2.2.2.2
              clear hy hb hkp hbl
              have t2_0 := Ht2.out.1.c0
              have t2_1 := Ht2.out.1.c1
              have t2_2 := Ht2.out.1.c2
              have t2_3 := Ht2.out.1.c3
              have t2_4 := Ht2.out.1.c4
              have t2_5 := Ht2.out.1.c5
              have t1_0 := Ht1.out.1.c0
              have t1_1 := Ht1.out.1.c1
              have t1_2 := Ht1.out.1.c2
              have t1_3 := Ht1.out.1.c3
              have t1_4 := Ht1.out.1.c4
              have t1_5 := Ht1.out.1.c5
              go_wp2_with fail
              clear t2_0 t2_1 t2_2 t2_3 t2_4 t2_5 t1_0 t1_1 t1_2 t1_3 t1_4 t1_5
              generalize ((w5.alloc (.cells #[.int .i64 s2.kind, .string s2.p, .string s2.dst, .int .i64 s2.at_, .slice s2.a1 s2.old.length s2.c1, .slice s2.a2 s2.new.length s2.c2] 24)).alloc (.cells #[.int .i64 t2.kind, .string t2.p, .string t2.dst, .int .i64 t2.at_, .slice t2.a1 t2.old.length t2.c1, .slice t2.a2 t2.new.length t2.c2] 24)) = wk5 at *
              refine (cpair_l t2 t1 _ Ht2.out.2 Ht1.out.2 Lt2.out Lt1.out HT.out).mono ?_
              rintro e w6 ⟨u1, u2, n6, rfl, hy, hb⟩
              have EQ6 := Lib.hid hy.out.2.2
              have hkp := pair_kept Lt2.out Lt1.out hy.out hb
              have hbl := hkp.1
              replace Hx := Lib.hid (Hx.out.on hbl)
              replace Hy := Lib.hid (Hy.out.on hbl)
              replace Hz := Lib.hid (Hz.out.on hbl)
              replace Hq1 := Lib.hid (Hq1.out.on hbl)
              replace Hp1 := Lib.hid (Hp1.out.on hbl)
              replace Hr1 := Lib.hid (Hr1.out.on hbl)
              replace Hp2 := Lib.hid (Hp2.out.on hbl)
              replace Hr2 := Lib.hid (Hr2.out.on hbl)
              replace Hq2 := Lib.hid (Hq2.out.on hbl)
              replace Hs1 := Lib.hid (Hs1.out.on hbl)
              replace Ht1 := Lib.hid (Ht1.out.on hbl)
              replace Hs2 := Lib.hid (Hs2.out.on hbl)
              replace Ht2 := Lib.hid (Ht2.out.on hbl)
              replace HA := Lib.hid (HA.out.trans (hbl.mono HA.out.size))
              replace HT := Lib.hid (Tabs.on HT.out hbl)
              have Hu1 := Lib.hid hkp.2.1
              have Hu2 := Lib.hid hkp.2.2.1
              have Lu1 := Lib.hid hkp.2.2.2.1
              have Lu2 := Lib.hid hkp.2.2.2.2
              clear hy hb hkp hbl
              by_cases hn4 : n4 = 0
              · subst hn4
                by_cases hn5 : n5 = 0
                · subst hn5
                  by_cases hn6 : n6 = 0
                  · subst hn6
                    go_wp2_with fail
                    generalize ((w6.alloc (.cells #[.int .i64 u1.kind, .string u1.p, .string u1.dst, .int .i64 u1.at_, .slice u1.a1 u1.old.length u1.c1, .slice u1.a2 u1.new.length u1.c2] 24)).alloc (.cells #[.int .i64 u2.kind, .string u2.p, .string u2.dst, .int .i64 u2.at_, .slice u2.a1 u2.old.length u2.c1, .slice u2.a2 u2.new.length u2.c2] 24)) = wk6 at *
                    refine (cawake_any _ HT.out).mono ?_
                    rintro e wy ⟨rfl, hb⟩
                    replace Hx := Lib.hid (Hx.out.on hb)
                    replace Hy := Lib.hid (Hy.out.on hb)
                    replace Hz := Lib.hid (Hz.out.on hb)
                    replace Hq1 := Lib.hid (Hq1.out.on hb)
                    replace Hp1 := Lib.hid (Hp1.out.on hb)
                    replace Hr1 := Lib.hid (Hr1.out.on hb)
                    replace Hp2 := Lib.hid (Hp2.out.on hb)
                    replace Hr2 := Lib.hid (Hr2.out.on hb)
                    replace Hq2 := Lib.hid (Hq2.out.on hb)
                    replace Hs1 := Lib.hid (Hs1.out.on hb)
                    replace Ht1 := Lib.hid (Ht1.out.on hb)
                    replace Hs2 := Lib.hid (Hs2.out.on hb)
                    replace Ht2 := Lib.hid (Ht2.out.on hb)
                    replace Hu1 := Lib.hid (Hu1.out.on hb)
                    replace Hu2 := Lib.hid (Hu2.out.on hb)
                    replace HA := Lib.hid (HA.out.trans (hb.mono HA.out.size))
                    replace HT := Lib.hid (Tabs.on HT.out hb)
                    clear hb
                    have r2_0 := Hr2.out.1.c0
                    have r2_1 := Hr2.out.1.c1
                    have r2_2 := Hr2.out.1.c2
                    have r2_3 := Hr2.out.1.c3
                    have r2_4 := Hr2.out.1.c4
                    have r2_5 := Hr2.out.1.c5
                    have q2_0 := Hq2.out.1.c0
                    have q2_1 := Hq2.out.1.c1
                    have q2_2 := Hq2.out.1.c2
                    have q2_3 := Hq2.out.1.c3
                    have q2_4 := Hq2.out.1.c4
                    have q2_5 := Hq2.out.1.c5
                    have p2_0 := Hp2.out.1.c0
                    have p2_1 := Hp2.out.1.c1
                    have p2_2 := Hp2.out.1.c2
                    have p2_3 := Hp2.out.1.c3
                    have p2_4 := Hp2.out.1.c4
                    have p2_5 := Hp2.out.1.c5
                    obtain ⟨f1, f2, f3⟩ := three_same KX.out.1 KX.out.2.1 KX.out.2.2 RX.out.1 RX.out.2.1 RX.out.2.2 EQ1.out EQ2.out EQ3.out EQ4.out EQ5.out EQ6.out
                    have hk : pkeys [r2, q2, p2] = pkeys [s2, u1, u2] := by simp [pkeys, f1, f2, f3]
                    have b1 : Below wy.heap.size wy (wy.alloc (.cells #[.int .i64 r2.kind, .string r2.p, .string r2.dst, .int .i64 r2.at_, .slice r2.a1 r2.old.length r2.c1, .slice r2.a2 r2.new.length r2.c2, .int .i64 q2.kind, .string q2.p, .string q2.dst, .int .i64 q2.at_, .slice q2.a1 q2.old.length q2.c1, .slice q2.a2 q2.new.length q2.c2, .int .i64 p2.kind, .string p2.p, .string p2.dst, .int .i64 p2.at_, .slice p2.a1 p2.old.length p2.c1, .slice p2.a2 p2.new.length p2.c2] 24)) := (Below.refl _ _).alloc (Nat.le_refl _) _
                    have z1 : (wy.alloc (.cells #[.int .i64 r2.kind, .string r2.p, .string r2.dst, .int .i64 r2.at_, .slice r2.a1 r2.old.length r2.c1, .slice r2.a2 r2.new.length r2.c2, .int .i64 q2.kind, .string q2.p, .string q2.dst, .int .i64 q2.at_, .slice q2.a1 q2.old.length q2.c1, .slice q2.a2 q2.new.length q2.c2, .int .i64 p2.kind, .string p2.p, .string p2.dst, .int .i64 p2.at_, .slice p2.a1 p2.old.length p2.c1, .slice p2.a2 p2.new.length p2.c2] 24)).heap.size = wy.heap.size + 1 := World.size_alloc _ _
                    have b2 : Below (wy.alloc (.cells #[.int .i64 r2.kind, .string r2.p, .string r2.dst, .int .i64 r2.at_, .slice r2.a1 r2.old.length r2.c1, .slice r2.a2 r2.new.length r2.c2, .int .i64 q2.kind, .string q2.p, .string q2.dst, .int .i64 q2.at_, .slice q2.a1 q2.old.length q2.c1, .slice q2.a2 q2.new.length q2.c2, .int .i64 p2.kind, .string p2.p, .string p2.dst, .int .i64 p2.at_, .slice p2.a1 p2.old.length p2.c1, .slice p2.a2 p2.new.length p2.c2] 24)).heap.size (wy.alloc (.cells #[.int .i64 r2.kind, .string r2.p, .string r2.dst, .int .i64 r2.at_, .slice r2.a1 r2.old.length r2.c1, .slice r2.a2 r2.new.length r2.c2, .int .i64 q2.kind, .string q2.p, .string q2.dst, .int .i64 q2.at_, .slice q2.a1 q2.old.length q2.c1, .slice q2.a2 q2.new.length q2.c2, .int .i64 p2.kind, .string p2.p, .string p2.dst, .int .i64 p2.at_, .slice p2.a1 p2.old.length p2.c1, .slice p2.a2 p2.new.length p2.c2] 24)) ((wy.alloc (.cells #[.int .i64 r2.kind, .string r2.p, .string r2.dst, .int .i64 r2.at_, .slice r2.a1 r2.old.length r2.c1, .slice r2.a2 r2.new.length r2.c2, .int .i64 q2.kind, .string q2.p, .string q2.dst, .int .i64 q2.at_, .slice q2.a1 q2.old.length q2.c1, .slice q2.a2 q2.new.length q2.c2, .int .i64 p2.kind, .string p2.p, .string p2.dst, .int .i64 p2.at_, .slice p2.a1 p2.old.length p2.c1, .slice p2.a2 p2.new.length p2.c2] 24)).alloc (.cells #[.int .i64 s2.kind, .string s2.p, .string s2.dst, .int .i64 s2.at_, .slice s2.a1 s2.old.length s2.c1, .slice s2.a2 s2.new.length s2.c2, .int .i64 u1.kind, .string u1.p, .string u1.dst, .int .i64 u1.at_, .slice u1.a1 u1.old.length u1.c1, .slice u1.a2 u1.new.length u1.c2, .int .i64 u2.kind, .string u2.p, .string u2.dst, .int .i64 u2.at_, .slice u2.a1 u2.old.length u2.c1, .slice u2.a2 u2.new.length u2.c2] 24)) := (Below.refl _ _).alloc (Nat.le_refl _) _
                    have hs2 := Hs2.out.on b1
                    have hu1 := Hu1.out.on b1
                    have hu2 := Hu2.out.on b1
                    have s2_0 := hs2.1.c0
                    have s2_1 := hs2.1.c1
                    have s2_2 := hs2.1.c2
                    have s2_3 := hs2.1.c3
                    have s2_4 := hs2.1.c4
                    have s2_5 := hs2.1.c5
                    have u1_0 := hu1.1.c0
                    have u1_1 := hu1.1.c1
                    have u1_2 := hu1.1.c2
                    have u1_3 := hu1.1.c3
                    have u1_4 := hu1.1.c4
                    have u1_5 := hu1.1.c5
                    have u2_0 := hu2.1.c0
                    have u2_1 := hu2.1.c1
                    have u2_2 := hu2.1.c2
                    have u2_3 := hu2.1.c3
                    have u2_4 := hu2.1.c4
                    have u2_5 := hu2.1.c5
                    have ps1 := (row_three Hr2.out.2 Hq2.out.2 Hp2.out.2).on b2
                    have ps2 := row_three hs2.2 hu1.2 hu2.2
                    rw [z1] at ps2
                    have CS := Lib.hid (refsamep_eq (some ⟨wy.heap.size, 0, none⟩) (some ⟨wy.heap.size + 1, 0, none⟩) [r2, q2, p2] [s2, u1, u2] 3 3 _ hk ps1 ps2 (by simp) (fun v hv => by
                      simp only [List.mem_cons, List.not_mem_nil, or_false] at hv
                      rcases hv with rfl | rfl | rfl
                      · exact ⟨Nat.le_trans Lr2.out.old.1 (by decide), Nat.le_trans Lr2.out.new.1 (by decide)⟩
                      · exact ⟨Nat.le_trans Lq2.out.old.1 (by decide), Nat.le_trans Lq2.out.new.1 (by decide)⟩
                      · exact ⟨Nat.le_trans Lp2.out.old.1 (by decide), Nat.le_trans Lp2.out.new.1 (by decide)⟩))
                    have HB := Lib.hid (HA.out.trans ((b1.trans (b2.mono b1.size)).mono HA.out.size))
                    clear f1 f2 f3 hk b1 b2 ps1 ps2 z1 hs2 hu1 hu2 EQ1 EQ2 EQ3 EQ4 EQ5 EQ6
                    go_wp2_with fail
                    refine CS.out.mono ?_
                    rintro e wz ⟨rfl, qn, rfl⟩
                    clear CS
                    go_wp2
                    go_ret
                    exact ⟨rfl, below_drewN HB.out qn⟩
                  · have en6 : (n6 != 0) = true := by simpa using hn6
                    have en6' : (n6 == 0) = false := by simpa using hn6
                    clear hn6
                    go_wp2_with fail
                    generalize ((w6.alloc (.cells #[.int .i64 u1.kind, .string u1.p, .string u1.dst, .int .i64 u1.at_, .slice u1.a1 u1.old.length u1.c1, .slice u1.a2 u1.new.length u1.c2] 24)).alloc (.cells #[.int .i64 u2.kind, .string u2.p, .string u2.dst, .int .i64 u2.at_, .slice u2.a1 u2.old.length u2.c1, .slice u2.a2 u2.new.length u2.c2] 24)) = wk6 at *
                    refine (cawake_any _ HT.out).mono ?_
                    rintro e wz ⟨rfl, hb⟩
                    have HB := Lib.hid (HA.out.trans (hb.mono HA.out.size))
                    clear hb
                    go_wp2
                    go_ret
                    exact ⟨rfl, HB.out⟩
                · have en5 : (n5 != 0) = true := by simpa using hn5
                  have en5' : (n5 == 0) = false := by simpa using hn5
                  clear hn5
                  go_wp2_with fail
                  generalize ((w6.alloc (.cells #[.int .i64 u1.kind, .string u1.p, .string u1.dst, .int .i64 u1.at_, .slice u1.a1 u1.old.length u1.c1, .slice u1.a2 u1.new.length u1.c2] 24)).alloc (.cells #[.int .i64 u2.kind, .string u2.p, .string u2.dst, .int .i64 u2.at_, .slice u2.a1 u2.old.length u2.c1, .slice u2.a2 u2.new.length u2.c2] 24)) = wk6 at *
                  refine (cawake_any _ HT.out).mono ?_
                  rintro e wz ⟨rfl, hb⟩
                  have HB := Lib.hid (HA.out.trans (hb.mono HA.out.size))
                  clear hb
                  go_wp2
                  go_ret
                  exact ⟨rfl, HB.out⟩
              · have en4 : (n4 != 0) = true := by simpa using hn4
                have en4' : (n4 == 0) = false := by simpa using hn4
                clear hn4
                go_wp2_with fail
                generalize ((w6.alloc (.cells #[.int .i64 u1.kind, .string u1.p, .string u1.dst, .int .i64 u1.at_, .slice u1.a1 u1.old.length u1.c1, .slice u1.a2 u1.new.length u1.c2] 24)).alloc (.cells #[.int .i64 u2.kind, .string u2.p, .string u2.dst, .int .i64 u2.at_, .slice u2.a1 u2.old.length u2.c1, .slice u2.a2 u2.new.length u2.c2] 24)) = wk6 at *
                refine (cawake_any _ HT.out).mono ?_
                rintro e wz ⟨rfl, hb⟩
                have HB := Lib.hid (HA.out.trans (hb.mono HA.out.size))
                clear hb
                go_wp2
                go_ret
                exact ⟨rfl, HB.out⟩
            · have en3 : (n3 != 0) = true := by simpa using hn3
              have en3' : (n3 == 0) = false := by simpa using hn3
              clear hn3
              go_wp2_with fail
              generalize ((w3.alloc (.cells #[.int .i64 r2.kind, .string r2.p, .string r2.dst, .int .i64 r2.at_, .slice r2.a1 r2.old.length r2.c1, .slice r2.a2 r2.new.length r2.c2] 24)).alloc (.cells #[.int .i64 q2.kind, .string q2.p, .string q2.dst, .int .i64 q2.at_, .slice q2.a1 q2.old.length q2.c1, .slice q2.a2 q2.new.length q2.c2] 24)) = wk3 at *
              refine (cawake_any _ HT.out).mono ?_
              rintro e wz ⟨rfl, hb⟩
              have HB := Lib.hid (HA.out.trans (hb.mono HA.out.size))
              clear hb
              go_wp2
              go_ret
              exact ⟨rfl, HB.out⟩
          · have en2 : (n2 != 0) = true := by simpa using hn2
            have en2' : (n2 == 0) = false := by simpa using hn2
            clear hn2
            go_wp2_with fail
            generalize ((w3.alloc (.cells #[.int .i64 r2.kind, .string r2.p, .string r2.dst, .int .i64 r2.at_, .slice r2.a1 r2.old.length r2.c1, .slice r2.a2 r2.new.length r2.c2] 24)).alloc (.cells #[.int .i64 q2.kind, .string q2.p, .string q2.dst, .int .i64 q2.at_, .slice q2.a1 q2.old.length q2.c1, .slice q2.a2 q2.new.length q2.c2] 24)) = wk3 at *
            refine (cawake_any _ HT.out).mono ?_
            rintro e wz ⟨rfl, hb⟩
            have HB := Lib.hid (HA.out.trans (hb.mono HA.out.size))
            clear hb
            go_wp2
            go_ret
            exact ⟨rfl, HB.out⟩
        · have en1 : (n1 != 0) = true := by simpa using hn1
          have en1' : (n1 == 0) = false := by simpa using hn1
          clear hn1
          go_wp2_with fail
          generalize ((w3.alloc (.cells #[.int .i64 r2.kind, .string r2.p, .string r2.dst, .int .i64 r2.at_, .slice r2.a1 r2.old.length r2.c1, .slice r2.a2 r2.new.length r2.c2] 24)).alloc (.cells #[.int .i64 q2.kind, .string q2.p, .string q2.dst, .int .i64 q2.at_, .slice q2.a1 q2.old.length q2.c1, .slice q2.a2 q2.new.length q2.c2] 24)) = wk3 at *
          refine (cawake_any _ HT.out).mono ?_
          rintro e wz ⟨rfl, hb⟩
          have HB := Lib.hid (HA.out.trans (hb.mono HA.out.size))
          clear hb
          go_wp2
          go_ret
          exact ⟨rfl, HB.out⟩
      · have ez : (z.kind != 6) = true := by simpa using kz
        have ez' : (z.kind == 6) = false := by simpa using kz
        clear kz RX
        go_enter Tryd.func3, Tryd.ntmps3
        go_wp2_with fail
        refine CL.out.mono ?_
        rintro e wl ⟨rfl, rfl⟩
        clear CL
        have x_0 := Hx.out.1.c0
        have y_0 := Hy.out.1.c0
        have z_0 := Hz.out.1.c0
        go_wp2_with fail
        refine (cawake_any _ HT.out).mono ?_
        rintro e wz ⟨rfl, hb⟩
        have HB := Lib.hid (HA.out.trans (hb.mono HA.out.size))
        clear hb
        go_wp2
        go_ret
        exact ⟨rfl, HB.out⟩
    · have ey : (y.kind != 6) = true := by simpa using ky
      have ey' : (y.kind == 6) = false := by simpa using ky
      clear ky RX
      go_enter Tryd.func3, Tryd.ntmps3
      go_wp2_with fail
      refine CL.out.mono ?_
      rintro e wl ⟨rfl, rfl⟩
      clear CL
      have x_0 := Hx.out.1.c0
      have y_0 := Hy.out.1.c0
      have z_0 := Hz.out.1.c0
      go_wp2_with fail
      refine (cawake_any _ HT.out).mono ?_
      rintro e wz ⟨rfl, hb⟩
      have HB := Lib.hid (HA.out.trans (hb.mono HA.out.size))
      clear hb
      go_wp2
      go_ret
      exact ⟨rfl, HB.out⟩
  · have ex : (x.kind != 6) = true := by simpa using kx
    have ex' : (x.kind == 6) = false := by simpa using kx
    clear kx RX
    go_enter Tryd.func3, Tryd.ntmps3
    go_wp2_with fail
    refine CL.out.mono ?_
    rintro e wl ⟨rfl, rfl⟩
    clear CL
    have x_0 := Hx.out.1.c0
    have y_0 := Hy.out.1.c0
    have z_0 := Hz.out.1.c0
    go_wp2_with fail
    refine (cawake_any _ HT.out).mono ?_
    rintro e wz ⟨rfl, hb⟩
    have HB := Lib.hid (HA.out.trans (hb.mono HA.out.size))
    clear hb
    go_wp2
    go_ret
    exact ⟨rfl, HB.out⟩
end Go.Proofs.YtknommnlkdlkdaaDoor
