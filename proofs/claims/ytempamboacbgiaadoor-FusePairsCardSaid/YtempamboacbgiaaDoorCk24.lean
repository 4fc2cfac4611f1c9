/- FusePairs. -/
import Derived.Test.YtempamboacbgiaaDoorCk20
import Derived.Test.YtempamboacbgiaaDoorCk22
namespace Go.Proofs.YtempamboacbgiaaDoor
open Go.RowKit
set_option linter.unusedVariables false

theorem box_two9 (w : World) (x y : Pm) (ox : x.Ok w w.heap.size) (oy : y.Ok w w.heap.size) : Below w.heap.size w ((w.alloc (.cells #[.int .i64 x.kind, .string x.p, .string x.dst, .int .i64 x.at_, .slice x.a1 x.old.length x.c1, .slice x.a2 x.new.length x.c2] 24)).alloc (.cells #[.int .i64 y.kind, .string y.p, .string y.dst, .int .i64 y.at_, .slice y.a1 y.old.length y.c1, .slice y.a2 y.new.length y.c2] 24)) ∧ HeldP ((w.alloc (.cells #[.int .i64 x.kind, .string x.p, .string x.dst, .int .i64 x.at_, .slice x.a1 x.old.length x.c1, .slice x.a2 x.new.length x.c2] 24)).alloc (.cells #[.int .i64 y.kind, .string y.p, .string y.dst, .int .i64 y.at_, .slice y.a1 y.old.length y.c1, .slice y.a2 y.new.length y.c2] 24)) w.heap.size x ∧ HeldP ((w.alloc (.cells #[.int .i64 x.kind, .string x.p, .string x.dst, .int .i64 x.at_, .slice x.a1 x.old.length x.c1, .slice x.a2 x.new.length x.c2] 24)).alloc (.cells #[.int .i64 y.kind, .string y.p, .string y.dst, .int .i64 y.at_, .slice y.a1 y.old.length y.c1, .slice y.a2 y.new.length y.c2] 24)) (w.heap.size + 1) y := by
  obtain ⟨bl, k7, k8⟩ := box2 w x y
  exact ⟨bl, ⟨k7, ox.on bl⟩, ⟨k8, oy.on bl⟩⟩
/-- Both steps, and both hunks that were made of them, in their cells. -/
structure Four9 (W : World) (gx gy gh gg : Nat) (x y h g : Pm) : Prop where
  x : PrimAt W gx x
  y : PrimAt W gy y
  h : PrimAt W gh h
  g : PrimAt W gg g
theorem Four9.on {W W' : World} {gx gy gh gg : Nat} {x y h g : Pm} (k : Four9 W gx gy gh gg x y h g) (hb : Below W.heap.size W W') : Four9 W' gx gy gh gg x y h g := ⟨k.x.on hb, k.y.on hb, k.h.on hb, k.g.on hb⟩
theorem Four9.cells {W : World} {gx gy gh gg : Nat} {x y h g : Pm} (k : Four9 W gx gy gh gg x y h g) : W.cell? ⟨gx, 0, none⟩ = some (.int .i64 x.kind) ∧ W.cell? ⟨gx, 1, none⟩ = some (.string x.p) ∧ W.cell? ⟨gx, 2, none⟩ = some (.string x.dst) ∧ W.cell? ⟨gx, 3, none⟩ = some (.int .i64 x.at_) ∧ W.cell? ⟨gx, 4, none⟩ = some (.slice x.a1 x.old.length x.c1) ∧ W.cell? ⟨gx, 5, none⟩ = some (.slice x.a2 x.new.length x.c2) ∧ W.cell? ⟨gy, 0, none⟩ = some (.int .i64 y.kind) ∧ W.cell? ⟨gy, 1, none⟩ = some (.string y.p) ∧ W.cell? ⟨gy, 2, none⟩ = some (.string y.dst) ∧ W.cell? ⟨gy, 3, none⟩ = some (.int .i64 y.at_) ∧ W.cell? ⟨gy, 4, none⟩ = some (.slice y.a1 y.old.length y.c1) ∧ W.cell? ⟨gy, 5, none⟩ = some (.slice y.a2 y.new.length y.c2) ∧ W.cell? ⟨gh, 0, none⟩ = some (.int .i64 h.kind) ∧ W.cell? ⟨gh, 1, none⟩ = some (.string h.p) ∧ W.cell? ⟨gh, 2, none⟩ = some (.string h.dst) ∧ W.cell? ⟨gh, 3, none⟩ = some (.int .i64 h.at_) ∧ W.cell? ⟨gh, 4, none⟩ = some (.slice h.a1 h.old.length h.c1) ∧ W.cell? ⟨gh, 5, none⟩ = some (.slice h.a2 h.new.length h.c2) ∧ W.cell? ⟨gg, 0, none⟩ = some (.int .i64 g.kind) ∧ W.cell? ⟨gg, 1, none⟩ = some (.string g.p) ∧ W.cell? ⟨gg, 2, none⟩ = some (.string g.dst) ∧ W.cell? ⟨gg, 3, none⟩ = some (.int .i64 g.at_) ∧ W.cell? ⟨gg, 4, none⟩ = some (.slice g.a1 g.old.length g.c1) ∧ W.cell? ⟨gg, 5, none⟩ = some (.slice g.a2 g.new.length g.c2) :=
  ⟨k.x.c0, k.x.c1, k.x.c2, k.x.c3, k.x.c4, k.x.c5, k.y.c0, k.y.c1, k.y.c2, k.y.c3, k.y.c4, k.y.c5, k.h.c0, k.h.c1, k.h.c2, k.h.c3, k.h.c4, k.h.c5, k.g.c0, k.g.c1, k.g.c2, k.g.c3, k.g.c4, k.g.c5⟩
theorem hunk_lens {p q : Pk} {z : Pm} (hp : FzK p) (hq : FzK q) (h : z.key = (hunksP p q).getD zeroP) : z.old.length ≤ 1000000 ∧ z.new.length ≤ 1000000 := by
  have hk : FzK z.key := by
    rw [h]
    by_cases ht : touchP p q = true
    · unfold hunksP
      split
      · exact fuse_h_mid hp hq ht
      · exact ⟨Nat.zero_le _, Nat.zero_le _, MidK.nil, MidK.nil, by decide⟩
    · rw [hunks_no (by simpa using ht)]
      exact ⟨Nat.zero_le _, Nat.zero_le _, MidK.nil, MidK.nil, by decide⟩
  exact ⟨Nat.le_trans hk.old.1 (by decide), Nat.le_trans hk.new.1 (by decide)⟩
theorem pair_lens {p q : Pk} {ps : List Pm} (hp : FzK p) (hq : FzK q) (h : pkeys ps = (fuseP p q).getD []) : ps.length ≤ 1 ∧ ∀ z ∈ ps, FzK z.key := by
  cases hf : fuseP p q with
  | none =>
    rw [hf] at h
    have : ps = [] := by
      have := congrArg List.length h
      rw [pkeys_len] at this
      exact List.length_eq_zero_iff.1 this
    subst this
    exact ⟨by simp, fun z hz => by cases hz⟩
  | some l =>
    rw [hf] at h
    have hl : l.length ≤ 1 := by
      rcases fuse_one hf with rfl | ⟨z, rfl⟩ <;> simp
    have h : pkeys ps = l := h
    refine ⟨by rw [← pkeys_len, h]; exact hl, fun z hz => fuse_mid hp hq hf z.key ?_⟩
    rw [← h]
    exact List.mem_map_of_mem hz
set_option maxHeartbeats 40000000 in
set_option maxRecDepth 100000 in
theorem fusepairs_any (x y : Pm) (w : World) (ox : x.Ok w w.heap.size) (oy : y.Ok w w.heap.size) (hT0 : Tabs w) :
    Calls Tryd.prog 3 #[.agg #[.int .i64 x.kind, .string x.p, .string x.dst, .int .i64 x.at_, .slice x.a1 x.old.length x.c1, .slice x.a2 x.new.length x.c2], .agg #[.int .i64 y.kind, .string y.p, .string y.dst, .int .i64 y.at_, .slice y.a1 y.old.length y.c1, .slice y.a2 y.new.length y.c2]] w fun e w' => e = .returned (.bool true) ∧ Below w.heap.size w w' := by
  obtain ⟨ha, hx, hy⟩ := box_two9 w x y ox oy
  have hps := row_two hx.2 hy.2
  have CL := light9_any (some ⟨((w.alloc (.cells #[.int .i64 x.kind, .string x.p, .string x.dst, .int .i64 x.at_, .slice x.a1 x.old.length x.c1, .slice x.a2 x.new.length x.c2] 24)).alloc (.cells #[.int .i64 y.kind, .string y.p, .string y.dst, .int .i64 y.at_, .slice y.a1 y.old.length y.c1, .slice y.a2 y.new.length y.c2] 24)).heap.size, 0, none⟩) [x, y] 2 _ hps (by simp)
  have hbr : Below ((w.alloc (.cells #[.int .i64 x.kind, .string x.p, .string x.dst, .int .i64 x.at_, .slice x.a1 x.old.length x.c1, .slice x.a2 x.new.length x.c2] 24)).alloc (.cells #[.int .i64 y.kind, .string y.p, .string y.dst, .int .i64 y.at_, .slice y.a1 y.old.length y.c1, .slice y.a2 y.new.length y.c2] 24)).heap.size ((w.alloc (.cells #[.int .i64 x.kind, .string x.p, .string x.dst, .int .i64 x.at_, .slice x.a1 x.old.length x.c1, .slice x.a2 x.new.length x.c2] 24)).alloc (.cells #[.int .i64 y.kind, .string y.p, .string y.dst, .int .i64 y.at_, .slice y.a1 y.old.length y.c1, .slice y.a2 y.new.length y.c2] 24)) (((w.alloc (.cells #[.int .i64 x.kind, .string x.p, .string x.dst, .int .i64 x.at_, .slice x.a1 x.old.length x.c1, .slice x.a2 x.new.length x.c2] 24)).alloc (.cells #[.int .i64 y.kind, .string y.p, .string y.dst, .int .i64 y.at_, .slice y.a1 y.old.length y.c1, .slice y.a2 y.new.length y.c2] 24)).alloc (.cells #[.int .i64 x.kind, .string x.p, .string x.dst, .int .i64 x.at_, .slice x.a1 x.old.length x.c1, .slice x.a2 x.new.length x.c2, .int .i64 y.kind, .string y.p, .string y.dst, .int .i64 y.at_, .slice y.a1 y.old.length y.c1, .slice y.a2 y.new.length y.c2] 24)) := (Below.refl _ _).alloc (Nat.le_refl _) _
  have hbl := ha.trans (hbr.mono ha.size)
  have hw2 : ((w.alloc (.cells #[.int .i64 x.kind, .string x.p, .string x.dst, .int .i64 x.at_, .slice x.a1 x.old.length x.c1, .slice x.a2 x.new.length x.c2] 24)).alloc (.cells #[.int .i64 y.kind, .string y.p, .string y.dst, .int .i64 y.at_, .slice y.a1 y.old.length y.c1, .slice y.a2 y.new.length y.c2] 24)).heap.size = w.heap.size + 1 + 1 := by rw [World.size_alloc, World.size_alloc]
  rw [hw2] at CL
  have HA := Lib.hid hbl
  have Hx := Lib.hid (hx.on hbr)
  have Hy := Lib.hid (hy.on hbr)
  have HT := Lib.hid (Tabs.on hT0 hbl)
  have X0 := hx.1
  have Y0 := hy.1
  cases h9 : light9B [x, y]
  · rw [h9] at CL
    have CL := Lib.hid CL
    have x0 := X0.c0
    have x1 := X0.c1
    have x2 := X0.c2
    have x3 := X0.c3
    have x4 := X0.c4
    have x5 := X0.c5
    have y0 := Y0.c0
    have y1 := Y0.c1
    have y2 := Y0.c2
    have y3 := Y0.c3
    have y4 := Y0.c4
    have y5 := Y0.c5
    clear h9 Hx Hy ox oy hT0 ha hx hy hps hbr hbl hw2 X0 Y0
    go_enter Tryd.func3, Tryd.ntmps3
    go_wp2_with fail
    refine CL.out.mono ?_
    rintro e wl ⟨rfl, rfl⟩
    clear CL
    go_wp2_with fail
    refine (fawake_any _ HT.out).mono ?_
    rintro e wz ⟨rfl, hb⟩
    have HB := Lib.hid (HA.out.trans (hb.mono HA.out.size))
    clear hb
    go_wp2
    go_ret
    exact ⟨rfl, HB.out⟩
  rw [h9] at CL
  obtain ⟨_, hl⟩ := light9_facts h9
  have hlx := hl x (by simp)
  have hly := hl y (by simp)
  have Lx : Hid (FzK x.key) := hlx.1.fz hlx.2
  have Ly : Hid (FzK y.key) := hly.1.fz hly.2
  have CL := Lib.hid CL
  have x0 := X0.c0
  have x1 := X0.c1
  have x2 := X0.c2
  have x3 := X0.c3
  have x4 := X0.c4
  have x5 := X0.c5
  have y0 := Y0.c0
  have y1 := Y0.c1
  have y2 := Y0.c2
  have y3 := Y0.c3
  have y4 := Y0.c4
  have y5 := Y0.c5
  clear h9 hl hlx hly ox oy hT0 ha hx hy hps hbr hbl hw2 X0 Y0
  go_enter Tryd.func3, Tryd.ntmps3
  go_wp2_with fail
  refine CL.out.mono ?_
  rintro e wl ⟨rfl, rfl⟩
  clear CL
  clear x0 y0 x1 y1 x2 y2 x3 y3 x4 y4 x5 y5
  have x0 := Hx.out.1.c0
  have x1 := Hx.out.1.c1
  have x2 := Hx.out.1.c2
  have x3 := Hx.out.1.c3
  have x4 := Hx.out.1.c4
  have x5 := Hx.out.1.c5
  have y0 := Hy.out.1.c0
  have y1 := Hy.out.1.c1
  have y2 := Hy.out.1.c2
  have y3 := Hy.out.1.c3
  have y4 := Hy.out.1.c4
  have y5 := Hy.out.1.c5
  go_wp2_with fail
  clear x0 y0 x1 y1 x2 y2 x3 y3 x4 y4 x5 y5
  generalize (((w.alloc (.cells #[.int .i64 x.kind, .string x.p, .string x.dst, .int .i64 x.at_, .slice x.a1 x.old.length x.c1, .slice x.a2 x.new.length x.c2] 24)).alloc (.cells #[.int .i64 y.kind, .string y.p, .string y.dst, .int .i64 y.at_, .slice y.a1 y.old.length y.c1, .slice y.a2 y.new.length y.c2] 24)).alloc (.cells #[.int .i64 x.kind, .string x.p, .string x.dst, .int .i64 x.at_, .slice x.a1 x.old.length x.c1, .slice x.a2 x.new.length x.c2, .int .i64 y.kind, .string y.p, .string y.dst, .int .i64 y.at_, .slice y.a1 y.old.length y.c1, .slice y.a2 y.new.length y.c2] 24)) = wk0 at *
  refine (fPair_any x y _ Hx.out.2 Hy.out.2 Lx.out.at Ly.out.at HT.out).mono ?_
  rintro e w1 ⟨A1, n1, c1, ps1, rfl, hp, hb⟩
  obtain ⟨hn1, hp1, hr1, _, hk1⟩ := hp.out
  subst hn1
  have hbl := hb
  have P1 := Lib.hid hp1
  have K1 := Lib.hid hk1
  clear hp hp1 hr1 hk1
  replace Hx := Lib.hid (Hx.out.on hbl)
  replace Hy := Lib.hid (Hy.out.on hbl)
  replace HA := Lib.hid (HA.out.trans (hbl.mono HA.out.size))
  replace HT := Lib.hid (Tabs.on HT.out hbl)
  clear hb hbl
  have x0 := Hx.out.1.c0
  have x1 := Hx.out.1.c1
  have x2 := Hx.out.1.c2
  have x3 := Hx.out.1.c3
  have x4 := Hx.out.1.c4
  have x5 := Hx.out.1.c5
  have y0 := Hy.out.1.c0
  have y1 := Hy.out.1.c1
  have y2 := Hy.out.1.c2
  have y3 := Hy.out.1.c3
  have y4 := Hy.out.1.c4
  have y5 := Hy.out.1.c5
  go_wp2_with fail
  clear x0 y0 x1 y1 x2 y2 x3 y3 x4 y4 x5 y5
  refine (refpair9_any x y _ Hx.out.2 Hy.out.2 Lx.out.at Ly.out.at HT.out).mono ?_
  rintro e w2 ⟨A2, n2, c2, ps2, rfl, hp, hb⟩
  obtain ⟨hn1, hp1, hr1, _, hk1⟩ := hp.out
  subst hn1
  have hbl := hb
  have P2 := Lib.hid hp1
  have K2 := Lib.hid hk1
  clear hp hp1 hr1 hk1
  replace Hx := Lib.hid (Hx.out.on hbl)
  replace Hy := Lib.hid (Hy.out.on hbl)
  replace P1 := Lib.hid (P1.out.on hbl)
  replace HA := Lib.hid (HA.out.trans (hbl.mono HA.out.size))
  replace HT := Lib.hid (Tabs.on HT.out hbl)
  clear hb hbl
  have x0 := Hx.out.1.c0
  have x1 := Hx.out.1.c1
  have x2 := Hx.out.1.c2
  have x3 := Hx.out.1.c3
  have x4 := Hx.out.1.c4
  have x5 := Hx.out.1.c5
  have y0 := Hy.out.1.c0
  have y1 := Hy.out.1.c1
  have y2 := Hy.out.1.c2
  have y3 := Hy.out.1.c3
  have y4 := Hy.out.1.c4
  have y5 := Hy.out.1.c5
  go_wp2_with fail
  clear x0 y0 x1 y1 x2 y2 x3 y3 x4 y4 x5 y5
  refine (fHunks_any x y _ Hx.out.2 Hy.out.2 Lx.out.at Ly.out.at HT.out).mono ?_
  rintro e w3 ⟨h, rfl, hp, hb⟩
  have hal : Below w3.heap.size w3 (w3.alloc (.cells #[.int .i64 h.kind, .string h.p, .string h.dst, .int .i64 h.at_, .slice h.a1 h.old.length h.c1, .slice h.a2 h.new.length h.c2] 24)) := (Below.refl _ _).alloc (Nat.le_refl _) _
  have hbl := hb.trans (hal.mono hb.size)
  have Hh : Hid (HeldP (w3.alloc (.cells #[.int .i64 h.kind, .string h.p, .string h.dst, .int .i64 h.at_, .slice h.a1 h.old.length h.c1, .slice h.a2 h.new.length h.c2] 24)) w3.heap.size h) := ⟨PrimAt.new_ w3 h, hp.out.1.1.on hal⟩
  have KH := Lib.hid hp.out.2
  clear hp hal
  replace Hx := Lib.hid (Hx.out.on hbl)
  replace Hy := Lib.hid (Hy.out.on hbl)
  replace P1 := Lib.hid (P1.out.on hbl)
  replace P2 := Lib.hid (P2.out.on hbl)
  replace HA := Lib.hid (HA.out.trans (hbl.mono HA.out.size))
  replace HT := Lib.hid (Tabs.on HT.out hbl)
  clear hb hbl
  have x0 := Hx.out.1.c0
  have x1 := Hx.out.1.c1
  have x2 := Hx.out.1.c2
  have x3 := Hx.out.1.c3
  have x4 := Hx.out.1.c4
  have x5 := Hx.out.1.c5
  have y0 := Hy.out.1.c0
  have y1 := Hy.out.1.c1
  have y2 := Hy.out.1.c2
  have y3 := Hy.out.1.c3
  have y4 := Hy.out.1.c4
  have y5 := Hy.out.1.c5
  go_wp2_with fail
  clear x0 y0 x1 y1 x2 y2 x3 y3 x4 y4 x5 y5
  generalize hgh : w3.heap.size = gh at *
  generalize (w3.alloc (.cells #[.int .i64 h.kind, .string h.p, .string h.dst, .int .i64 h.at_, .slice h.a1 h.old.length h.c1, .slice h.a2 h.new.length h.c2] 24)) = wk3 at *
  clear hgh
  refine (refhunks9_any x y _ Hx.out.2 Hy.out.2 Lx.out.at Ly.out.at HT.out).mono ?_
  rintro e w4 ⟨g, rfl, hp, hb⟩
  have hal : Below w4.heap.size w4 (w4.alloc (.cells #[.int .i64 g.kind, .string g.p, .string g.dst, .int .i64 g.at_, .slice g.a1 g.old.length g.c1, .slice g.a2 g.new.length g.c2] 24)) := (Below.refl _ _).alloc (Nat.le_refl _) _
  have hbl := hb.trans (hal.mono hb.size)
  have Hg : Hid (HeldP (w4.alloc (.cells #[.int .i64 g.kind, .string g.p, .string g.dst, .int .i64 g.at_, .slice g.a1 g.old.length g.c1, .slice g.a2 g.new.length g.c2] 24)) w4.heap.size g) := ⟨PrimAt.new_ w4 g, hp.out.1.1.on hal⟩
  have KG := Lib.hid hp.out.2
  clear hp hal
  replace Hx := Lib.hid (Hx.out.on hbl)
  replace Hy := Lib.hid (Hy.out.on hbl)
  replace Hh := Lib.hid (Hh.out.on hbl)
  replace P1 := Lib.hid (P1.out.on hbl)
  replace P2 := Lib.hid (P2.out.on hbl)
  replace HA := Lib.hid (HA.out.trans (hbl.mono HA.out.size))
  replace HT := Lib.hid (Tabs.on HT.out hbl)
  clear hb hbl
  have x0 := Hx.out.1.c0
  have x1 := Hx.out.1.c1
  have x2 := Hx.out.1.c2
  have x3 := Hx.out.1.c3
  have x4 := Hx.out.1.c4
  have x5 := Hx.out.1.c5
  have y0 := Hy.out.1.c0
  have y1 := Hy.out.1.c1
  have y2 := Hy.out.1.c2
  have y3 := Hy.out.1.c3
  have y4 := Hy.out.1.c4
  have y5 := Hy.out.1.c5
  go_wp2_with fail
  clear x0 y0 x1 y1 x2 y2 x3 y3 x4 y4 x5 y5
  generalize hgg : w4.heap.size = gg at *
  generalize (w4.alloc (.cells #[.int .i64 g.kind, .string g.p, .string g.dst, .int .i64 g.at_, .slice g.a1 g.old.length g.c1, .slice g.a2 g.new.length g.c2] 24)) = w6 at *
  clear hgg
  have F9 : Hid (Four9 w6 w.heap.size (w.heap.size + 1) gh gg x y h g) := ⟨Hx.out.1, Hy.out.1, Hh.out.1, Hg.out.1⟩
  have HDR : Hid (Below w6.heap.size w6 w6.drew) := (Below.refl _ _).drew
  have KHG : Hid (h.key = g.key) := KH.out.trans KG.out.symm
  have HL2 := Lib.hid (hunk_lens Lx.out Ly.out KH.out)
  have HL1 : Hid (ps1.length ≤ 1000000 ∧ ∀ z ∈ ps1, z.old.length ≤ 1000000 ∧ z.new.length ≤ 1000000) := by
    have hl := pair_lens Lx.out Ly.out K1.out
    exact ⟨Nat.le_trans hl.1 (by decide), fun z hz => ⟨Nat.le_trans (hl.2 z hz).old.1 (by decide), Nat.le_trans (hl.2 z hz).new.1 (by decide)⟩⟩
  obtain ⟨rt, hrt⟩ : ∃ r, touchP x.key y.key = r := ⟨_, rfl⟩
  have HRT := Lib.hid hrt
  clear hrt KH KG
  generalize (hunksP x.key y.key).isSome = rh at *
  generalize (fuseP x.key y.key).isSome = rb at *
  refine wp_region_noPanic ?_
  refine wp_region_held_drew (S := (fun w' => w'.cell? ⟨w.heap.size, 0, none⟩ = some (.int .i64 x.kind) ∧ w'.cell? ⟨w.heap.size, 1, none⟩ = some (.string x.p) ∧ w'.cell? ⟨w.heap.size, 2, none⟩ = some (.string x.dst) ∧ w'.cell? ⟨w.heap.size, 3, none⟩ = some (.int .i64 x.at_) ∧ w'.cell? ⟨w.heap.size, 4, none⟩ = some (.slice x.a1 x.old.length x.c1) ∧ w'.cell? ⟨w.heap.size, 5, none⟩ = some (.slice x.a2 x.new.length x.c2) ∧ w'.cell? ⟨w.heap.size + 1, 0, none⟩ = some (.int .i64 y.kind) ∧ w'.cell? ⟨w.heap.size + 1, 1, none⟩ = some (.string y.p) ∧ w'.cell? ⟨w.heap.size + 1, 2, none⟩ = some (.string y.dst) ∧ w'.cell? ⟨w.heap.size + 1, 3, none⟩ = some (.int .i64 y.at_) ∧ w'.cell? ⟨w.heap.size + 1, 4, none⟩ = some (.slice y.a1 y.old.length y.c1) ∧ w'.cell? ⟨w.heap.size + 1, 5, none⟩ = some (.slice y.a2 y.new.length y.c2) ∧ w'.cell? ⟨gh, 0, none⟩ = some (.int .i64 h.kind) ∧ w'.cell? ⟨gh, 1, none⟩ = some (.string h.p) ∧ w'.cell? ⟨gh, 2, none⟩ = some (.string h.dst) ∧ w'.cell? ⟨gh, 3, none⟩ = some (.int .i64 h.at_) ∧ w'.cell? ⟨gh, 4, none⟩ = some (.slice h.a1 h.old.length h.c1) ∧ w'.cell? ⟨gh, 5, none⟩ = some (.slice h.a2 h.new.length h.c2) ∧ w'.cell? ⟨gg, 0, none⟩ = some (.int .i64 g.kind) ∧ w'.cell? ⟨gg, 1, none⟩ = some (.string g.p) ∧ w'.cell? ⟨gg, 2, none⟩ = some (.string g.dst) ∧ w'.cell? ⟨gg, 3, none⟩ = some (.int .i64 g.at_) ∧ w'.cell? ⟨gg, 4, none⟩ = some (.slice g.a1 g.old.length g.c1) ∧ w'.cell? ⟨gg, 5, none⟩ = some (.slice g.a2 g.new.length g.c2))) (by kernel_rfl) (F9.out.on (HDR.out)).cells (fun hHeld => ?_)
  refine wpAnyH_ready (rs := [0]) (by kernel_rfl) (by simp) ?_
  refine AllReadyH.cons rfl (fun K hK => ?_) AllReadyH.nil
  go_simp
  go_at_call 6
  refine (fawake_any _ (Tabs.on HT.out HDR.out)).mono ?_
  rintro e w7 ⟨rfl, hb7⟩
  have X7 := Lib.hid (HDR.out.trans (hb7.mono HDR.out.size))
  clear hb7
  refine hK.out _ _ (F9.out.on (X7.out)).cells (fun hHeld0 => ?_)
  clear hK K hHeld
  try simp only [Act.put, List.setIfInBounds_toArray, List.set_cons_zero, List.set_cons_succ]
  refine wpAnyH_take (i := 1) (oi := { dst := some 44, op := _, type := _, pos := _, after := _, guard := _ }) (v := .bool true) rfl (by kernel_rfl) (by kernel_rfl) (by kernel_rfl) (fun _ _ _ h => h) (Or.inl ⟨by rfl, fun w' hSw => ?_⟩) (by assumption) ?_
  · ((try dsimp only at hSw); go_simp)
  try simp only [Act.put, List.setIfInBounds_toArray, List.set_cons_zero, List.set_cons_succ]
  refine wpAnyH_take (i := 2) (oi := { dst := some 45, op := _, type := _, pos := _, after := _, guard := _ }) (v := .bool rb) rfl (by kernel_rfl) (by kernel_rfl) (by kernel_rfl) (fun _ _ _ h => h) (Or.inl ⟨by rfl, fun w' hSw => ?_⟩) (by assumption) ?_
  · ((try dsimp only at hSw); go_simp)
  try simp only [Act.put, List.setIfInBounds_toArray, List.set_cons_zero, List.set_cons_succ]
  refine wpAnyH_take (i := 3) (oi := { dst := some 46, op := _, type := _, pos := _, after := _, guard := _ }) (v := .bool rb) rfl (by kernel_rfl) (by kernel_rfl) (by kernel_rfl) (fun _ _ _ h => h) (Or.inl ⟨by rfl, fun w' hSw => ?_⟩) (by assumption) ?_
  · ((try dsimp only at hSw); go_simp)
  try simp only [Act.put, List.setIfInBounds_toArray, List.set_cons_zero, List.set_cons_succ]
  refine wpAnyH_take (i := 4) (oi := { dst := some 47, op := _, type := _, pos := _, after := _, guard := _ }) (v := .bool true) rfl (by kernel_rfl) (by kernel_rfl) (by kernel_rfl) (fun _ _ _ h => h) (Or.inl ⟨by rfl, fun w' hSw => ?_⟩) (by assumption) ?_
  · ((try dsimp only at hSw); go_simp)
  try simp only [Act.put, List.setIfInBounds_toArray, List.set_cons_zero, List.set_cons_succ]
  refine wpAnyH_take (i := 5) (oi := { dst := some 48, op := _, type := _, pos := _, after := _, guard := _ }) (v := .bool true) rfl (by kernel_rfl) (by kernel_rfl) (by kernel_rfl) (fun _ _ _ h => h) (Or.inl ⟨by rfl, fun w' hSw => ?_⟩) (by assumption) ?_
  · ((try dsimp only at hSw); go_simp)
  try simp only [Act.put, List.setIfInBounds_toArray, List.set_cons_zero, List.set_cons_succ]
  refine wpAnyH_take (i := 6) (oi := { dst := some 49, op := _, type := _, pos := _, after := _, guard := _ }) (v := .bool true) rfl (by kernel_rfl) (by kernel_rfl) (by kernel_rfl) (fun _ _ _ h => h) (Or.inl ⟨by rfl, fun w' hSw => ?_⟩) (by assumption) ?_
  · ((try dsimp only at hSw); go_simp)
  try simp only [Act.put, List.setIfInBounds_toArray, List.set_cons_zero, List.set_cons_succ]
  refine wpAnyH_take (i := 7) (oi := { dst := some 50, op := _, type := _, pos := _, after := _, guard := _ }) (v := .slice A1 ps1.length c1) rfl (by kernel_rfl) (by kernel_rfl) (by kernel_rfl) (fun _ _ _ h => h) (Or.inl ⟨by rfl, fun w' hSw => ?_⟩) (by assumption) ?_
  · ((try dsimp only at hSw); go_simp)
  try simp only [Act.put, List.setIfInBounds_toArray, List.set_cons_zero, List.set_cons_succ]
  refine wpAnyH_take (i := 8) (oi := { dst := some 51, op := _, type := _, pos := _, after := _, guard := _ }) (v := .slice A2 ps2.length c2) rfl (by kernel_rfl) (by kernel_rfl) (by kernel_rfl) (fun _ _ _ h => h) (Or.inl ⟨by rfl, fun w' hSw => ?_⟩) (by assumption) ?_
  · ((try dsimp only at hSw); go_simp)
  try simp only [Act.put, List.setIfInBounds_toArray, List.set_cons_zero, List.set_cons_succ]
  have CS1 := refsamep_eq A1 A2 ps1 ps2 c1 c2 w7 (K1.out.trans K2.out.symm) (P1.out.on X7.out) (P2.out.on X7.out) HL1.out.1 HL1.out.2
  refine wpAnyH_ready (rs := [9]) (by kernel_rfl) (by simp) ?_
  refine AllReadyH.cons rfl (fun K hK => ?_) AllReadyH.nil
  go_simp
  go_at_call 11
  refine CS1.mono ?_
  rintro e w8 ⟨rfl, q8, hw8⟩
  have hb8 : Below w7.heap.size w7 w8 := by subst hw8; exact below_drewN (Below.refl _ _) q8
  have X8 := Lib.hid (X7.out.trans (hb8.mono X7.out.size))
  clear hw8 hb8 CS1
  refine hK.out _ _ (F9.out.on (X8.out)).cells (fun hHeld9 => ?_)
  clear hK K hHeld0
  try simp only [Act.put, List.setIfInBounds_toArray, List.set_cons_zero, List.set_cons_succ]
  refine wpAnyH_take (i := 10) (oi := { dst := some 53, op := _, type := _, pos := _, after := _, guard := _ }) (v := .bool true) rfl (by kernel_rfl) (by kernel_rfl) (by kernel_rfl) (fun _ _ _ h => h) (Or.inl ⟨by rfl, fun w' hSw => ?_⟩) (by assumption) ?_
  · ((try dsimp only at hSw); go_simp)
  try simp only [Act.put, List.setIfInBounds_toArray, List.set_cons_zero, List.set_cons_succ]
  refine wpAnyH_take (i := 11) (oi := { dst := some 54, op := _, type := _, pos := _, after := _, guard := _ }) (v := .bool true) rfl (by kernel_rfl) (by kernel_rfl) (by kernel_rfl) (fun _ _ _ h => h) (Or.inl ⟨by rfl, fun w' hSw => ?_⟩) (by assumption) ?_
  · ((try dsimp only at hSw); go_simp)
  try simp only [Act.put, List.setIfInBounds_toArray, List.set_cons_zero, List.set_cons_succ]
  refine wpAnyH_take (i := 12) (oi := { dst := some 55, op := _, type := _, pos := _, after := _, guard := _ }) (v := .bool rh) rfl (by kernel_rfl) (by kernel_rfl) (by kernel_rfl) (fun _ _ _ h => h) (Or.inl ⟨by rfl, fun w' hSw => ?_⟩) (by assumption) ?_
  · ((try dsimp only at hSw); go_simp)
  try simp only [Act.put, List.setIfInBounds_toArray, List.set_cons_zero, List.set_cons_succ]
  refine wpAnyH_take (i := 13) (oi := { dst := some 56, op := _, type := _, pos := _, after := _, guard := _ }) (v := .bool rh) rfl (by kernel_rfl) (by kernel_rfl) (by kernel_rfl) (fun _ _ _ h => h) (Or.inl ⟨by rfl, fun w' hSw => ?_⟩) (by assumption) ?_
  · ((try dsimp only at hSw); go_simp)
  try simp only [Act.put, List.setIfInBounds_toArray, List.set_cons_zero, List.set_cons_succ]
  refine wpAnyH_take (i := 14) (oi := { dst := some 57, op := _, type := _, pos := _, after := _, guard := _ }) (v := .bool true) rfl (by kernel_rfl) (by kernel_rfl) (by kernel_rfl) (fun _ _ _ h => h) (Or.inl ⟨by rfl, fun w' hSw => ?_⟩) (by assumption) ?_
  · ((try dsimp only at hSw); go_simp)
  try simp only [Act.put, List.setIfInBounds_toArray, List.set_cons_zero, List.set_cons_succ]
  refine wpAnyH_take (i := 15) (oi := { dst := some 58, op := _, type := _, pos := _, after := _, guard := _ }) (v := .bool true) rfl (by kernel_rfl) (by kernel_rfl) (by kernel_rfl) (fun _ _ _ h => h) (Or.inl ⟨by rfl, fun w' hSw => ?_⟩) (by assumption) ?_
  · ((try dsimp only at hSw); go_simp)
  try simp only [Act.put, List.setIfInBounds_toArray, List.set_cons_zero, List.set_cons_succ]
  refine wpAnyH_take (i := 16) (oi := { dst := some 59, op := _, type := _, pos := _, after := _, guard := _ }) (v := .bool true) rfl (by kernel_rfl) (by kernel_rfl) (by kernel_rfl) (fun _ _ _ h => h) (Or.inl ⟨by rfl, fun w' hSw => ?_⟩) (by assumption) ?_
  · ((try dsimp only at hSw); go_simp)
  try simp only [Act.put, List.setIfInBounds_toArray, List.set_cons_zero, List.set_cons_succ]
  refine wpAnyH_take (i := 17) (oi := { dst := some 60, op := _, type := _, pos := _, after := _, guard := _ }) (v := .agg #[.int .i64 h.kind, .string h.p, .string h.dst, .int .i64 h.at_, .slice h.a1 h.old.length h.c1, .slice h.a2 h.new.length h.c2]) rfl (by kernel_rfl) (by kernel_rfl) (by kernel_rfl) (fun _ _ _ h => h) (Or.inl ⟨by rfl, fun w' hSw => ?_⟩) (by assumption) ?_
  · ((try dsimp only at hSw); go_simp)
  try simp only [Act.put, List.setIfInBounds_toArray, List.set_cons_zero, List.set_cons_succ]
  refine wpAnyH_take (i := 19) (oi := { dst := some 62, op := _, type := _, pos := _, after := _, guard := _ }) (v := .agg #[.int .i64 g.kind, .string g.p, .string g.dst, .int .i64 g.at_, .slice g.a1 g.old.length g.c1, .slice g.a2 g.new.length g.c2]) rfl (by kernel_rfl) (by kernel_rfl) (by kernel_rfl) (fun _ _ _ h => h) (Or.inl ⟨by rfl, fun w' hSw => ?_⟩) (by assumption) ?_
  · ((try dsimp only at hSw); go_simp)
  try simp only [Act.put, List.setIfInBounds_toArray, List.set_cons_zero, List.set_cons_succ]
  refine wpAnyH_ready (rs := [18, 20]) (by kernel_rfl) (by simp) ?_
  refine AllReadyH.cons rfl (fun K hK => ?_) (AllReadyH.cons rfl (fun K hK => ?_) AllReadyH.nil)
  · have b1 : Below w8.heap.size w8 (w8.alloc (.cells #[.int .i64 h.kind, .string h.p, .string h.dst, .int .i64 h.at_, .slice h.a1 h.old.length h.c1, .slice h.a2 h.new.length h.c2] 24)) := (Below.refl _ _).alloc (Nat.le_refl _) _
    have b2 : Below (w8.alloc (.cells #[.int .i64 h.kind, .string h.p, .string h.dst, .int .i64 h.at_, .slice h.a1 h.old.length h.c1, .slice h.a2 h.new.length h.c2] 24)).heap.size (w8.alloc (.cells #[.int .i64 h.kind, .string h.p, .string h.dst, .int .i64 h.at_, .slice h.a1 h.old.length h.c1, .slice h.a2 h.new.length h.c2] 24)) ((w8.alloc (.cells #[.int .i64 h.kind, .string h.p, .string h.dst, .int .i64 h.at_, .slice h.a1 h.old.length h.c1, .slice h.a2 h.new.length h.c2] 24)).alloc (.cells #[.int .i64 g.kind, .string g.p, .string g.dst, .int .i64 g.at_, .slice g.a1 g.old.length g.c1, .slice g.a2 g.new.length g.c2] 24)) := (Below.refl _ _).alloc (Nat.le_refl _) _
    have z1 : (w8.alloc (.cells #[.int .i64 h.kind, .string h.p, .string h.dst, .int .i64 h.at_, .slice h.a1 h.old.length h.c1, .slice h.a2 h.new.length h.c2] 24)).heap.size = w8.heap.size + 1 := World.size_alloc _ _
    have X1 := Lib.hid (X8.out.trans (b1.mono X8.out.size))
    have X2 := Lib.hid (X1.out.trans (b2.mono X1.out.size))
    have oh := Hh.out.2.on X8.out
    have og := Hg.out.2.on X8.out
    have CS2 := refsamep_eq (some ⟨w8.heap.size, 0, none⟩) (some ⟨(w8.alloc (.cells #[.int .i64 h.kind, .string h.p, .string h.dst, .int .i64 h.at_, .slice h.a1 h.old.length h.c1, .slice h.a2 h.new.length h.c2] 24)).heap.size, 0, none⟩) [h] [g] 1 1 ((w8.alloc (.cells #[.int .i64 h.kind, .string h.p, .string h.dst, .int .i64 h.at_, .slice h.a1 h.old.length h.c1, .slice h.a2 h.new.length h.c2] 24)).alloc (.cells #[.int .i64 g.kind, .string g.p, .string g.dst, .int .i64 g.at_, .slice g.a1 g.old.length g.c1, .slice g.a2 g.new.length g.c2] 24)) (by simp [pkeys, KHG.out]) ((row_one oh).on b2) (row_one (og.on b1)) (by simp) (fun v hv => by
      simp only [List.mem_cons, List.not_mem_nil, or_false] at hv
      subst hv
      exact HL2.out)
    rw [z1] at CS2
    go_simp
    refine hK.out _ _ (F9.out.on (X1.out)).cells (fun hHeld18 => ?_)
    clear hK K hHeld9
    try simp only [Act.put, List.setIfInBounds_toArray, List.set_cons_zero, List.set_cons_succ]
    refine wpAnyH_ready (rs := [20]) (by kernel_rfl) (by simp) ?_
    refine AllReadyH.cons rfl (fun K hK => ?_) AllReadyH.nil
    go_simp
    refine hK.out _ _ (F9.out.on (X2.out)).cells (fun hHeld20 => ?_)
    clear hK K hHeld18
    try simp only [Act.put, List.setIfInBounds_toArray, List.set_cons_zero, List.set_cons_succ]
    refine wpAnyH_ready (rs := [21]) (by kernel_rfl) (by simp) ?_
    refine AllReadyH.cons rfl (fun K hK => ?_) AllReadyH.nil
    go_simp
    go_at_call 11
    refine CS2.mono ?_
    rintro e w9 ⟨rfl, q9, hw9⟩
    have hb9 : Below ((w8.alloc (.cells #[.int .i64 h.kind, .string h.p, .string h.dst, .int .i64 h.at_, .slice h.a1 h.old.length h.c1, .slice h.a2 h.new.length h.c2] 24)).alloc (.cells #[.int .i64 g.kind, .string g.p, .string g.dst, .int .i64 g.at_, .slice g.a1 g.old.length g.c1, .slice g.a2 g.new.length g.c2] 24)).heap.size ((w8.alloc (.cells #[.int .i64 h.kind, .string h.p, .string h.dst, .int .i64 h.at_, .slice h.a1 h.old.length h.c1, .slice h.a2 h.new.length h.c2] 24)).alloc (.cells #[.int .i64 g.kind, .string g.p, .string g.dst, .int .i64 g.at_, .slice g.a1 g.old.length g.c1, .slice g.a2 g.new.length g.c2] 24)) w9 := by subst hw9; exact below_drewN (Below.refl _ _) q9
    have X9 := Lib.hid (X2.out.trans (hb9.mono X2.out.size))
    clear hw9 hb9 CS2 b1 b2 z1 X1 X2 oh og
    refine hK.out _ _ (F9.out.on (X9.out)).cells (fun hHeld21 => ?_)
    clear hK K hHeld20
    try simp only [Act.put, List.setIfInBounds_toArray, List.set_cons_zero, List.set_cons_succ]
    refine wpAnyH_take (i := 22) (oi := { dst := some 65, op := _, type := _, pos := _, after := _, guard := _ }) (v := .bool true) rfl (by kernel_rfl) (by kernel_rfl) (by kernel_rfl) (fun _ _ _ h => h) (Or.inl ⟨by rfl, fun w' hSw => ?_⟩) (by assumption) ?_
    · ((try dsimp only at hSw); go_simp)
    try simp only [Act.put, List.setIfInBounds_toArray, List.set_cons_zero, List.set_cons_succ]
    refine wpAnyH_take (i := 23) (oi := { dst := some 66, op := _, type := _, pos := _, after := _, guard := _ }) (v := .bool true) rfl (by kernel_rfl) (by kernel_rfl) (by kernel_rfl) (fun _ _ _ h => h) (Or.inl ⟨by rfl, fun w' hSw => ?_⟩) (by assumption) ?_
    · ((try dsimp only at hSw); go_simp)
    try simp only [Act.put, List.setIfInBounds_toArray, List.set_cons_zero, List.set_cons_succ]
    refine wpAnyH_take (i := 24) (oi := { dst := some 67, op := _, type := _, pos := _, after := _, guard := _ }) (v := .agg #[.int .i64 x.kind, .string x.p, .string x.dst, .int .i64 x.at_, .slice x.a1 x.old.length x.c1, .slice x.a2 x.new.length x.c2]) rfl (by kernel_rfl) (by kernel_rfl) (by kernel_rfl) (fun _ _ _ h => h) (Or.inl ⟨by rfl, fun w' hSw => ?_⟩) (by assumption) ?_
    · ((try dsimp only at hSw); go_simp)
    try simp only [Act.put, List.setIfInBounds_toArray, List.set_cons_zero, List.set_cons_succ]
    refine wpAnyH_take (i := 25) (oi := { dst := some 68, op := _, type := _, pos := _, after := _, guard := _ }) (v := .agg #[.int .i64 y.kind, .string y.p, .string y.dst, .int .i64 y.at_, .slice y.a1 y.old.length y.c1, .slice y.a2 y.new.length y.c2]) rfl (by kernel_rfl) (by kernel_rfl) (by kernel_rfl) (fun _ _ _ h => h) (Or.inl ⟨by rfl, fun w' hSw => ?_⟩) (by assumption) ?_
    · ((try dsimp only at hSw); go_simp)
    try simp only [Act.put, List.setIfInBounds_toArray, List.set_cons_zero, List.set_cons_succ]
    refine wpAnyH_take (i := 27) (oi := { dst := some 70, op := _, type := _, pos := _, after := _, guard := _ }) (v := .agg #[.int .i64 x.kind, .string x.p, .string x.dst, .int .i64 x.at_, .slice x.a1 x.old.length x.c1, .slice x.a2 x.new.length x.c2]) rfl (by kernel_rfl) (by kernel_rfl) (by kernel_rfl) (fun _ _ _ h => h) (Or.inl ⟨by rfl, fun w' hSw => ?_⟩) (by assumption) ?_
    · ((try dsimp only at hSw); go_simp)
    try simp only [Act.put, List.setIfInBounds_toArray, List.set_cons_zero, List.set_cons_succ]
    refine wpAnyH_take (i := 28) (oi := { dst := some 71, op := _, type := _, pos := _, after := _, guard := _ }) (v := .agg #[.int .i64 y.kind, .string y.p, .string y.dst, .int .i64 y.at_, .slice y.a1 y.old.length y.c1, .slice y.a2 y.new.length y.c2]) rfl (by kernel_rfl) (by kernel_rfl) (by kernel_rfl) (fun _ _ _ h => h) (Or.inl ⟨by rfl, fun w' hSw => ?_⟩) (by assumption) ?_
    · ((try dsimp only at hSw); go_simp)
    try simp only [Act.put, List.setIfInBounds_toArray, List.set_cons_zero, List.set_cons_succ]
    refine wpAnyH_ready (rs := [26]) (by kernel_rfl) (by simp) ?_
    refine AllReadyH.cons rfl (fun K hK => ?_) AllReadyH.nil
    go_simp
    go_at_call 12
    refine (fTouch_any x y _ (Hx.out.2.on X9.out) (Hy.out.2.on X9.out) Lx.out.at Ly.out.at (Tabs.on HT.out X9.out) rt HRT.out).mono ?_
    rintro e w10 ⟨rfl, hb⟩
    have X10 := Lib.hid (X9.out.trans (hb.mono X9.out.size))
    clear hb
    refine hK.out _ _ (F9.out.on (X10.out)).cells (fun hHeld26 => ?_)
    clear hK K hHeld21
    try simp only [Act.put, List.setIfInBounds_toArray, List.set_cons_zero, List.set_cons_succ]
    refine wpAnyH_ready (rs := [29]) (by kernel_rfl) (by simp) ?_
    refine AllReadyH.cons rfl (fun K hK => ?_) AllReadyH.nil
    go_simp
    go_at_call 13
    refine (reftouch_any x y _ (Hx.out.2.on X10.out) (Hy.out.2.on X10.out) Lx.out.at Ly.out.at (Tabs.on HT.out X10.out) rt HRT.out).mono ?_
    rintro e w11 ⟨rfl, hb⟩
    have X11 := Lib.hid (X10.out.trans (hb.mono X10.out.size))
    clear hb
    refine hK.out _ _ (F9.out.on (X11.out)).cells (fun hHeld29 => ?_)
    clear hK K hHeld26
    try simp only [Act.put, List.setIfInBounds_toArray, List.set_cons_zero, List.set_cons_succ]
    refine wpAnyH_take (i := 30) (oi := { dst := some 73, op := _, type := _, pos := _, after := _, guard := _ }) (v := .bool true) rfl (by kernel_rfl) (by kernel_rfl) (by kernel_rfl) (fun _ _ _ h => h) (Or.inl ⟨by rfl, fun w' hSw => ?_⟩) (by assumption) ?_
    · ((try dsimp only at hSw); go_simp)
    try simp only [Act.put, List.setIfInBounds_toArray, List.set_cons_zero, List.set_cons_succ]
    refine wpAnyH_take (i := 31) (oi := { dst := some 74, op := _, type := _, pos := _, after := _, guard := _ }) (v := .bool true) rfl (by kernel_rfl) (by kernel_rfl) (by kernel_rfl) (fun _ _ _ h => h) (Or.inl ⟨by rfl, fun w' hSw => ?_⟩) (by assumption) ?_
    · ((try dsimp only at hSw); go_simp)
    try simp only [Act.put, List.setIfInBounds_toArray, List.set_cons_zero, List.set_cons_succ]
    refine wpAnyH_take (i := 32) (oi := { dst := some 4, op := _, type := _, pos := _, after := _, guard := _ }) (v := .bool true) rfl (by kernel_rfl) (by kernel_rfl) (by kernel_rfl) (fun _ _ _ h => h) (Or.inl ⟨by rfl, fun w' hSw => ?_⟩) (by assumption) ?_
    · ((try dsimp only at hSw); go_simp)
    try simp only [Act.put, List.setIfInBounds_toArray, List.set_cons_zero, List.set_cons_succ]
    refine wpAnyH_done (by kernel_rfl) ?_ _
    refine NoPanic.normal ?_
    go_wp2
    go_ret
    exact ⟨rfl, HA.out.trans (X11.out.mono HA.out.size)⟩
  · have b1 : Below w8.heap.size w8 (w8.alloc (.cells #[.int .i64 g.kind, .string g.p, .string g.dst, .int .i64 g.at_, .slice g.a1 g.old.length g.c1, .slice g.a2 g.new.length g.c2] 24)) := (Below.refl _ _).alloc (Nat.le_refl _) _
    have b2 : Below (w8.alloc (.cells #[.int .i64 g.kind, .string g.p, .string g.dst, .int .i64 g.at_, .slice g.a1 g.old.length g.c1, .slice g.a2 g.new.length g.c2] 24)).heap.size (w8.alloc (.cells #[.int .i64 g.kind, .string g.p, .string g.dst, .int .i64 g.at_, .slice g.a1 g.old.length g.c1, .slice g.a2 g.new.length g.c2] 24)) ((w8.alloc (.cells #[.int .i64 g.kind, .string g.p, .string g.dst, .int .i64 g.at_, .slice g.a1 g.old.length g.c1, .slice g.a2 g.new.length g.c2] 24)).alloc (.cells #[.int .i64 h.kind, .string h.p, .string h.dst, .int .i64 h.at_, .slice h.a1 h.old.length h.c1, .slice h.a2 h.new.length h.c2] 24)) := (Below.refl _ _).alloc (Nat.le_refl _) _
    have z1 : (w8.alloc (.cells #[.int .i64 g.kind, .string g.p, .string g.dst, .int .i64 g.at_, .slice g.a1 g.old.length g.c1, .slice g.a2 g.new.length g.c2] 24)).heap.size = w8.heap.size + 1 := World.size_alloc _ _
    have X1 := Lib.hid (X8.out.trans (b1.mono X8.out.size))
    have X2 := Lib.hid (X1.out.trans (b2.mono X1.out.size))
    have oh := Hh.out.2.on X8.out
    have og := Hg.out.2.on X8.out
    have CS2 := refsamep_eq (some ⟨(w8.alloc (.cells #[.int .i64 g.kind, .string g.p, .string g.dst, .int .i64 g.at_, .slice g.a1 g.old.length g.c1, .slice g.a2 g.new.length g.c2] 24)).heap.size, 0, none⟩) (some ⟨w8.heap.size, 0, none⟩) [h] [g] 1 1 ((w8.alloc (.cells #[.int .i64 g.kind, .string g.p, .string g.dst, .int .i64 g.at_, .slice g.a1 g.old.length g.c1, .slice g.a2 g.new.length g.c2] 24)).alloc (.cells #[.int .i64 h.kind, .string h.p, .string h.dst, .int .i64 h.at_, .slice h.a1 h.old.length h.c1, .slice h.a2 h.new.length h.c2] 24)) (by simp [pkeys, KHG.out]) (row_one (oh.on b1)) ((row_one og).on b2) (by simp) (fun v hv => by
      simp only [List.mem_cons, List.not_mem_nil, or_false] at hv
      subst hv
      exact HL2.out)
    rw [z1] at CS2
    go_simp
    refine hK.out _ _ (F9.out.on (X1.out)).cells (fun hHeld20 => ?_)
    clear hK K hHeld9
    try simp only [Act.put, List.setIfInBounds_toArray, List.set_cons_zero, List.set_cons_succ]
    refine wpAnyH_ready (rs := [18]) (by kernel_rfl) (by simp) ?_
    refine AllReadyH.cons rfl (fun K hK => ?_) AllReadyH.nil
    go_simp
    refine hK.out _ _ (F9.out.on (X2.out)).cells (fun hHeld18 => ?_)
    clear hK K hHeld20
    try simp only [Act.put, List.setIfInBounds_toArray, List.set_cons_zero, List.set_cons_succ]
    refine wpAnyH_ready (rs := [21]) (by kernel_rfl) (by simp) ?_
    refine AllReadyH.cons rfl (fun K hK => ?_) AllReadyH.nil
    go_simp
    go_at_call 11
    refine CS2.mono ?_
    rintro e w9 ⟨rfl, q9, hw9⟩
    have hb9 : Below ((w8.alloc (.cells #[.int .i64 g.kind, .string g.p, .string g.dst, .int .i64 g.at_, .slice g.a1 g.old.length g.c1, .slice g.a2 g.new.length g.c2] 24)).alloc (.cells #[.int .i64 h.kind, .string h.p, .string h.dst, .int .i64 h.at_, .slice h.a1 h.old.length h.c1, .slice h.a2 h.new.length h.c2] 24)).heap.size ((w8.alloc (.cells #[.int .i64 g.kind, .string g.p, .string g.dst, .int .i64 g.at_, .slice g.a1 g.old.length g.c1, .slice g.a2 g.new.length g.c2] 24)).alloc (.cells #[.int .i64 h.kind, .string h.p, .string h.dst, .int .i64 h.at_, .slice h.a1 h.old.length h.c1, .slice h.a2 h.new.length h.c2] 24)) w9 := by subst hw9; exact below_drewN (Below.refl _ _) q9
    have X9 := Lib.hid (X2.out.trans (hb9.mono X2.out.size))
    clear hw9 hb9 CS2 b1 b2 z1 X1 X2 oh og
    refine hK.out _ _ (F9.out.on (X9.out)).cells (fun hHeld21 => ?_)
    clear hK K hHeld18
    try simp only [Act.put, List.setIfInBounds_toArray, List.set_cons_zero, List.set_cons_succ]
    refine wpAnyH_take (i := 22) (oi := { dst := some 65, op := _, type := _, pos := _, after := _, guard := _ }) (v := .bool true) rfl (by kernel_rfl) (by kernel_rfl) (by kernel_rfl) (fun _ _ _ h => h) (Or.inl ⟨by rfl, fun w' hSw => ?_⟩) (by assumption) ?_
    · ((try dsimp only at hSw); go_simp)
    try simp only [Act.put, List.setIfInBounds_toArray, List.set_cons_zero, List.set_cons_succ]
    refine wpAnyH_take (i := 23) (oi := { dst := some 66, op := _, type := _, pos := _, after := _, guard := _ }) (v := .bool true) rfl (by kernel_rfl) (by kernel_rfl) (by kernel_rfl) (fun _ _ _ h => h) (Or.inl ⟨by rfl, fun w' hSw => ?_⟩) (by assumption) ?_
    · ((try dsimp only at hSw); go_simp)
    try simp only [Act.put, List.setIfInBounds_toArray, List.set_cons_zero, List.set_cons_succ]
    refine wpAnyH_take (i := 24) (oi := { dst := some 67, op := _, type := _, pos := _, after := _, guard := _ }) (v := .agg #[.int .i64 x.kind, .string x.p, .string x.dst, .int .i64 x.at_, .slice x.a1 x.old.length x.c1, .slice x.a2 x.new.length x.c2]) rfl (by kernel_rfl) (by kernel_rfl) (by kernel_rfl) (fun _ _ _ h => h) (Or.inl ⟨by rfl, fun w' hSw => ?_⟩) (by assumption) ?_
    · ((try dsimp only at hSw); go_simp)
    try simp only [Act.put, List.setIfInBounds_toArray, List.set_cons_zero, List.set_cons_succ]
    refine wpAnyH_take (i := 25) (oi := { dst := some 68, op := _, type := _, pos := _, after := _, guard := _ }) (v := .agg #[.int .i64 y.kind, .string y.p, .string y.dst, .int .i64 y.at_, .slice y.a1 y.old.length y.c1, .slice y.a2 y.new.length y.c2]) rfl (by kernel_rfl) (by kernel_rfl) (by kernel_rfl) (fun _ _ _ h => h) (Or.inl ⟨by rfl, fun w' hSw => ?_⟩) (by assumption) ?_
    · ((try dsimp only at hSw); go_simp)
    try simp only [Act.put, List.setIfInBounds_toArray, List.set_cons_zero, List.set_cons_succ]
    refine wpAnyH_take (i := 27) (oi := { dst := some 70, op := _, type := _, pos := _, after := _, guard := _ }) (v := .agg #[.int .i64 x.kind, .string x.p, .string x.dst, .int .i64 x.at_, .slice x.a1 x.old.length x.c1, .slice x.a2 x.new.length x.c2]) rfl (by kernel_rfl) (by kernel_rfl) (by kernel_rfl) (fun _ _ _ h => h) (Or.inl ⟨by rfl, fun w' hSw => ?_⟩) (by assumption) ?_
    · ((try dsimp only at hSw); go_simp)
    try simp only [Act.put, List.setIfInBounds_toArray, List.set_cons_zero, List.set_cons_succ]
    refine wpAnyH_take (i := 28) (oi := { dst := some 71, op := _, type := _, pos := _, after := _, guard := _ }) (v := .agg #[.int .i64 y.kind, .string y.p, .string y.dst, .int .i64 y.at_, .slice y.a1 y.old.length y.c1, .slice y.a2 y.new.length y.c2]) rfl (by kernel_rfl) (by kernel_rfl) (by kernel_rfl) (fun _ _ _ h => h) (Or.inl ⟨by rfl, fun w' hSw => ?_⟩) (by assumption) ?_
    · ((try dsimp only at hSw); go_simp)
    try simp only [Act.put, List.setIfInBounds_toArray, List.set_cons_zero, List.set_cons_succ]
    refine wpAnyH_ready (rs := [26]) (by kernel_rfl) (by simp) ?_
    refine AllReadyH.cons rfl (fun K hK => ?_) AllReadyH.nil
    go_simp
    go_at_call 12
    refine (fTouch_any x y _ (Hx.out.2.on X9.out) (Hy.out.2.on X9.out) Lx.out.at Ly.out.at (Tabs.on HT.out X9.out) rt HRT.out).mono ?_
    rintro e w10 ⟨rfl, hb⟩
    have X10 := Lib.hid (X9.out.trans (hb.mono X9.out.size))
    clear hb
    refine hK.out _ _ (F9.out.on (X10.out)).cells (fun hHeld26 => ?_)
    clear hK K hHeld21
    try simp only [Act.put, List.setIfInBounds_toArray, List.set_cons_zero, List.set_cons_succ]
    refine wpAnyH_ready (rs := [29]) (by kernel_rfl) (by simp) ?_
    refine AllReadyH.cons rfl (fun K hK => ?_) AllReadyH.nil
    go_simp
    go_at_call 13
    refine (reftouch_any x y _ (Hx.out.2.on X10.out) (Hy.out.2.on X10.out) Lx.out.at Ly.out.at (Tabs.on HT.out X10.out) rt HRT.out).mono ?_
    rintro e w11 ⟨rfl, hb⟩
    have X11 := Lib.hid (X10.out.trans (hb.mono X10.out.size))
    clear hb
    refine hK.out _ _ (F9.out.on (X11.out)).cells (fun hHeld29 => ?_)
    clear hK K hHeld26
    try simp only [Act.put, List.setIfInBounds_toArray, List.set_cons_zero, List.set_cons_succ]
    refine wpAnyH_take (i := 30) (oi := { dst := some 73, op := _, type := _, pos := _, after := _, guard := _ }) (v := .bool true) rfl (by kernel_rfl) (by kernel_rfl) (by kernel_rfl) (fun _ _ _ h => h) (Or.inl ⟨by rfl, fun w' hSw => ?_⟩) (by assumption) ?_
    · ((try dsimp only at hSw); go_simp)
    try simp only [Act.put, List.setIfInBounds_toArray, List.set_cons_zero, List.set_cons_succ]
    refine wpAnyH_take (i := 31) (oi := { dst := some 74, op := _, type := _, pos := _, after := _, guard := _ }) (v := .bool true) rfl (by kernel_rfl) (by kernel_rfl) (by kernel_rfl) (fun _ _ _ h => h) (Or.inl ⟨by rfl, fun w' hSw => ?_⟩) (by assumption) ?_
    · ((try dsimp only at hSw); go_simp)
    try simp only [Act.put, List.setIfInBounds_toArray, List.set_cons_zero, List.set_cons_succ]
    refine wpAnyH_take (i := 32) (oi := { dst := some 4, op := _, type := _, pos := _, after := _, guard := _ }) (v := .bool true) rfl (by kernel_rfl) (by kernel_rfl) (by kernel_rfl) (fun _ _ _ h => h) (Or.inl ⟨by rfl, fun w' hSw => ?_⟩) (by assumption) ?_
    · ((try dsimp only at hSw); go_simp)
    try simp only [Act.put, List.setIfInBounds_toArray, List.set_cons_zero, List.set_cons_succ]
    refine wpAnyH_done (by kernel_rfl) ?_ _
    refine NoPanic.normal ?_
    go_wp2
    go_ret
    exact ⟨rfl, HA.out.trans (X11.out.mono HA.out.size)⟩
end Go.Proofs.YtempamboacbgiaaDoor
