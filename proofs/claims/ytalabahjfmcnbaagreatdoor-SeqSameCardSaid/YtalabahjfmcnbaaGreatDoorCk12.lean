/- Package commute's turned. -/
import Derived.BigQuiet
import Derived.Deep.QuietTactic
import Derived.Handy
import Derived.Test.YtalabahjfmcnbaaGreatDoorShelf
import Derived.WalkKit
import Derived.Test.YtalabahjfmcnbaaGreatDoorCk11
namespace Go.Proofs.YtalabahjfmcnbaaGreatDoor
open Go.RowKit
set_option linter.unusedVariables false

/-- The other way round, of steps that may be. -/
def turnP (p q : Pk) : Option (Pk × Pk) :=
  if p.kind = 6 ∧ q.kind = 6 ∧ p.path = q.path then shiftP p q
  else if p.kind = 5 ∧ q.kind = 6 ∧ q.path = p.dst then some (⟨q.kind, p.path, q.dst, q.at_, q.old, q.new⟩, p)
  else if p.kind = 6 ∧ q.kind = 5 ∧ q.path = p.path then some (q, ⟨p.kind, q.dst, p.dst, p.at_, p.old, p.new⟩)
  else if apartP p q = true then some (q, p) else none
theorem pair_turn {p q : Pk} (hp : ckP p = 0) (hq : ckP q = 0) : pairP p q = (if (turnP p q).isSome = true then 0 else 13, (turnP p q).getD (zeroP, zeroP)) := by
  unfold pairP turnP
  rw [if_neg (by simpa using hp), if_neg (by simpa using hq)]
  by_cases h1 : p.kind = 6 ∧ q.kind = 6 ∧ p.path = q.path
  · rw [if_pos h1, if_pos h1]
    cases shiftP p q <;> rfl
  rw [if_neg h1, if_neg h1]
  by_cases h2 : p.kind = 5 ∧ q.kind = 6 ∧ q.path = p.dst
  · rw [if_pos h2, if_pos h2]
    rfl
  rw [if_neg h2, if_neg h2]
  by_cases h3 : p.kind = 6 ∧ q.kind = 5 ∧ q.path = p.path
  · rw [if_pos h3, if_pos h3]
    rfl
  rw [if_neg h3, if_neg h3]
  by_cases h4 : apartP p q = true
  · rw [if_pos h4, if_pos h4]
    rfl
  · rw [if_neg h4, if_neg h4]
    rfl
theorem tl_eq {s t : ByteArray} : s.data.toList = t.data.toList ↔ s = t := ⟨bytes_inj, fun e => by rw [e]⟩
/-- Which way it goes. -/
theorem turn_ways (x y : Pm) : (x.kind = 6 ∧ y.kind = 6 ∧ x.p = y.p → turnP x.key y.key = shiftP x.key y.key) ∧ (¬ (x.kind = 6 ∧ y.kind = 6 ∧ x.p = y.p) →
    (x.kind = 5 ∧ y.kind = 6 ∧ y.p = x.dst → turnP x.key y.key = some (⟨y.kind, x.p.data.toList, y.dst.data.toList, y.at_, y.old, y.new⟩, x.key)) ∧ (¬ (x.kind = 5 ∧ y.kind = 6 ∧ y.p = x.dst) →
      (x.kind = 6 ∧ y.kind = 5 ∧ y.p = x.p → turnP x.key y.key = some (y.key, ⟨x.kind, y.dst.data.toList, x.dst.data.toList, x.at_, x.old, x.new⟩)) ∧ (¬ (x.kind = 6 ∧ y.kind = 5 ∧ y.p = x.p) → turnP x.key y.key = if apartP x.key y.key = true then some (y.key, x.key) else none))) := by
  have e1 : (x.key.kind = 6 ∧ y.key.kind = 6 ∧ x.key.path = y.key.path) ↔ (x.kind = 6 ∧ y.kind = 6 ∧ x.p = y.p) := by simp only [Pm.key, tl_eq]
  have e2 : (x.key.kind = 5 ∧ y.key.kind = 6 ∧ y.key.path = x.key.dst) ↔ (x.kind = 5 ∧ y.kind = 6 ∧ y.p = x.dst) := by simp only [Pm.key, tl_eq]
  have e3 : (x.key.kind = 6 ∧ y.key.kind = 5 ∧ y.key.path = x.key.path) ↔ (x.kind = 6 ∧ y.kind = 5 ∧ y.p = x.p) := by simp only [Pm.key, tl_eq]
  unfold turnP
  simp only [e1, e2, e3]
  refine ⟨fun h => if_pos h, fun h1 => ?_⟩
  rw [if_neg h1]
  refine ⟨fun h => if_pos h, fun h2 => ?_⟩
  rw [if_neg h2]
  refine ⟨fun h => if_pos h, fun h3 => ?_⟩
  rw [if_neg h3]
set_option maxHeartbeats 40000000 in
set_option maxRecDepth 100000 in
theorem cturned_any (x y : Pm) (w : World) (ox : x.Ok w w.heap.size) (oy : y.Ok w w.heap.size) (wx : WdK x.key) (wy : WdK y.key) (hx0 : ckP x.key = 0) (hy0 : ckP y.key = 0) :
    Calls Tryz.prog 70 #[x.val, y.val] w (turnLeft w (turnP x.key y.key)) := by
  have s1 := wx.p
  have s2 := wx.q
  have s3 := wy.p
  have s4 := wy.q
  have m1 := wx.old.1
  have m2 := wx.new.1
  have m3 := wy.old.1
  have m4 := wy.new.1
  simp only [Pm.key] at s1 s2 s3 s4 m1 m2 m3 m4
  have CF := Lib.hid (fun W (_ : Below w.heap.size w W) (r : Bool) hr => cone_any x y W r hr)
  have CS := Lib.hid (fun (h6 : x.kind = 6) (k6 : y.kind = 6) W (hb : Below w.heap.size w W) => cshift_any x y W (ox.on hb) (oy.on hb) m1 m2 m3 m4 ((ck_facts hx0).2.2.2.2.2.2 h6).1 ((ck_facts hy0).2.2.2.2.2.2 k6).1)
  have CP := Lib.hid (fun W (_ : Below w.heap.size w W) => capart_any x y W s1 s2 s3 s4 _ (clear_apart hx0 hy0))
  have CA := Lib.hid (fun W (hb : Below w.heap.size w W) => cat_any x.p y W (oy.on hb) (Nat.le_trans m3 (by decide)) (Nat.le_trans m4 (by decide)) ox.p)
  have CA2 := Lib.hid (fun W (hb : Below w.heap.size w W) => cat_any y.dst x W (ox.on hb) (Nat.le_trans m1 (by decide)) (Nat.le_trans m2 (by decide)) oy.q)
  have CC := Lib.hid (fun W (hb : Below w.heap.size w W) => ccopied_any x W (ox.on hb) (Nat.le_trans m1 (by decide)) (Nat.le_trans m2 (by decide)))
  have CC2 := Lib.hid (fun W (hb : Below w.heap.size w W) => ccopied_any y W (oy.on hb) (Nat.le_trans m3 (by decide)) (Nat.le_trans m4 (by decide)))
  have HT := Lib.hid (turn_ways x y)
  clear ox oy wx wy hx0 hy0 s1 s2 s3 s4 m1 m2 m3 m4
  generalize turnP x.key y.key = tn at *
  generalize shiftP x.key y.key = sh at *
  generalize apartP x.key y.key = ap at *
  obtain ⟨kind, p, q, at_, a1, c1, old, a2, c2, new⟩ := x
  obtain ⟨kind2, p2, q2, at2, a3, c3, old2, a4, c4, new2⟩ := y
  unfold Pm.val at CF CS CP CA CA2 CC CC2 ⊢
  simp only [] at CF CS CP CA CA2 CC CC2 HT ⊢
  obtain ⟨hal, hx, hy, hg, hh⟩ := box4 w ⟨kind, p, q, at_, a1, c1, old, a2, c2, new⟩ ⟨kind2, p2, q2, at2, a3, c3, old2, a4, c4, new2⟩
  have e0 : ((((w.alloc (.cells (Pm.cells ⟨kind, p, q, at_, a1, c1, old, a2, c2, new⟩).toArray 33)).alloc (.cells (Pm.cells ⟨kind2, p2, q2, at2, a3, c3, old2, a4, c4, new2⟩).toArray 33)).alloc (.cells (Pm.cells ⟨0, ⟨#[]⟩, ⟨#[]⟩, 0, none, 0, [], none, 0, []⟩).toArray 33)).alloc (.cells (Pm.cells ⟨0, ⟨#[]⟩, ⟨#[]⟩, 0, none, 0, [], none, 0, []⟩).toArray 33)) = ((((w.alloc (.cells #[.int .i64 kind, .string p, .string q, .int .i64 at_, .slice a1 old.length c1, .slice a2 new.length c2] 33)).alloc (.cells #[.int .i64 kind2, .string p2, .string q2, .int .i64 at2, .slice a3 old2.length c3, .slice a4 new2.length c4] 33)).alloc (.cells #[.int .i64 0, .string ⟨#[]⟩, .string ⟨#[]⟩, .int .i64 0, .slice none 0 0, .slice none 0 0] 33)).alloc (.cells #[.int .i64 0, .string ⟨#[]⟩, .string ⟨#[]⟩, .int .i64 0, .slice none 0 0, .slice none 0 0] 33)) := rfl
  rw [e0] at hal hx hy hg hh
  have HX := Lib.hid hx
  have HY := Lib.hid hy
  have HG := Lib.hid hg
  have HH := Lib.hid hh
  have HA := Lib.hid hal
  clear hal hx hy hg hh e0
  by_cases w1 : kind = 6 ∧ kind2 = 6 ∧ p = p2
  · have ht := HT.out.1 w1
    subst ht
    have CF := Lib.hid (CF.out _ HA.out true (decide_eq_true w1))
    have CS := Lib.hid (CS.out w1.1 w1.2.1)
    clear HT CP CA CA2 CC CC2 w1
    go_enter Tryz.func70, Tryz.ntmps70
    go_wp2_with fail
    generalize ((((w.alloc (.cells #[.int .i64 kind, .string p, .string q, .int .i64 at_, .slice a1 old.length c1, .slice a2 new.length c2] 33)).alloc (.cells #[.int .i64 kind2, .string p2, .string q2, .int .i64 at2, .slice a3 old2.length c3, .slice a4 new2.length c4] 33)).alloc (.cells #[.int .i64 0, .string ⟨#[]⟩, .string ⟨#[]⟩, .int .i64 0, .slice none 0 0, .slice none 0 0] 33)).alloc (.cells #[.int .i64 0, .string ⟨#[]⟩, .string ⟨#[]⟩, .int .i64 0, .slice none 0 0, .slice none 0 0] 33)) = wa at *
    refine CF.out.mono ?_
    rintro e wb ⟨rfl, hb⟩
    replace HX := Lib.hid (HX.out.on hb)
    replace HY := Lib.hid (HY.out.on hb)
    replace HG := Lib.hid (HG.out.on hb)
    replace HH := Lib.hid (HH.out.on hb)
    replace HA := Lib.hid (HA.out.trans (hb.mono HA.out.size))
    clear hb
    clear CF
    have b0 := HX.out.c0
    have b1 := HX.out.c1
    have b2 := HX.out.c2
    have b3 := HX.out.c3
    have b4 := HX.out.c4
    have b5 := HX.out.c5
    have d0 := HY.out.c0
    have d1 := HY.out.c1
    have d2 := HY.out.c2
    have d3 := HY.out.c3
    have d4 := HY.out.c4
    have d5 := HY.out.c5
    go_wp2_with fail
    clear b0 b1 b2 b3 b4 b5 d0 d1 d2 d3 d4 d5
    refine (CS.out wb HA.out).mono ?_
    rintro e wc ⟨y7, y8, rfl, hy, hb⟩
    replace HX := Lib.hid (HX.out.on hb)
    replace HY := Lib.hid (HY.out.on hb)
    replace HG := Lib.hid (HG.out.on hb)
    replace HH := Lib.hid (HH.out.on hb)
    replace HA := Lib.hid (HA.out.trans (hb.mono HA.out.size))
    clear hb
    have g0 := HG.out.c0
    have gf0 := HG.out.fz 0
    have h0 := HH.out.c0
    have hf0 := HH.out.fz 0
    have g1 := HG.out.c1
    have gf1 := HG.out.fz 1
    have h1 := HH.out.c1
    have hf1 := HH.out.fz 1
    have g2 := HG.out.c2
    have gf2 := HG.out.fz 2
    have h2 := HH.out.c2
    have hf2 := HH.out.fz 2
    have g3 := HG.out.c3
    have gf3 := HG.out.fz 3
    have h3 := HH.out.c3
    have hf3 := HH.out.fz 3
    have g4 := HG.out.c4
    have gf4 := HG.out.fz 4
    have h4 := HH.out.c4
    have hf4 := HH.out.fz 4
    have g5 := HG.out.c5
    have gf5 := HG.out.fz 5
    have h5 := HH.out.c5
    have hf5 := HH.out.fz 5
    have HTW := Lib.hid (two_set (w := w) (.bool tn.isSome) HA.out (show w.heap.size ≤ w.heap.size + 1 + 1 by omega) (show w.heap.size ≤ w.heap.size + 1 + 1 + 1 by omega) (show w.heap.size + 1 + 1 ≠ w.heap.size + 1 + 1 + 1 by omega) HG.out HH.out hy.out.1 hy.out.2.1 hy.out.2.2.1 hy.out.2.2.2)
    have HT1 := Lib.hid HTW.out.1
    have HT2 := Lib.hid HTW.out.2.1
    have HT3 := Lib.hid HTW.out.2.2
    clear HTW hy CS
    go_wp2
    (try simp only [Exit.inBlock, Exit.then])
    refine bodyPost_ret (ret_prim3 rfl _ _ _ _ y7 y8 _ rfl rfl rfl HT2.out HT3.out) rfl ?_
    exact HT1.out
  have HT := Lib.hid (HT.out.2 w1)
  have CF := Lib.hid (CF.out _ HA.out false (decide_eq_false w1))
  clear CS w1

  by_cases w2 : kind = 5 ∧ kind2 = 6 ∧ p2 = q
  · have ht := HT.out.1 w2
    subst ht
    have k1 : (kind == 5) = true := by simpa using w2.1
    have k2 : (kind2 == 6) = true := by simpa using w2.2.1
    have k3 : (p2.toList == q.toList) = true := by rw [str_beq]; exact decide_eq_true w2.2.2
    clear HT CP CA2 CC2 w2
    go_enter Tryz.func70, Tryz.ntmps70
    go_wp2_with fail
    generalize ((((w.alloc (.cells #[.int .i64 kind, .string p, .string q, .int .i64 at_, .slice a1 old.length c1, .slice a2 new.length c2] 33)).alloc (.cells #[.int .i64 kind2, .string p2, .string q2, .int .i64 at2, .slice a3 old2.length c3, .slice a4 new2.length c4] 33)).alloc (.cells #[.int .i64 0, .string ⟨#[]⟩, .string ⟨#[]⟩, .int .i64 0, .slice none 0 0, .slice none 0 0] 33)).alloc (.cells #[.int .i64 0, .string ⟨#[]⟩, .string ⟨#[]⟩, .int .i64 0, .slice none 0 0, .slice none 0 0] 33)) = wa at *
    refine CF.out.mono ?_
    rintro e wb ⟨rfl, hb⟩
    replace HX := Lib.hid (HX.out.on hb)
    replace HY := Lib.hid (HY.out.on hb)
    replace HG := Lib.hid (HG.out.on hb)
    replace HH := Lib.hid (HH.out.on hb)
    replace HA := Lib.hid (HA.out.trans (hb.mono HA.out.size))
    clear hb
    clear CF
    have b0 := HX.out.c0
    have b1 := HX.out.c1
    have b2 := HX.out.c2
    have b3 := HX.out.c3
    have b4 := HX.out.c4
    have b5 := HX.out.c5
    have d0 := HY.out.c0
    have d1 := HY.out.c1
    have d2 := HY.out.c2
    have d3 := HY.out.c3
    have d4 := HY.out.c4
    have d5 := HY.out.c5
    go_wp2_with fail
    clear b0 b1 b2 b3 b4 b5 d0 d1 d2 d3 d4 d5
    have CA' := Lib.hid (fun W (hb : Below wb.heap.size wb W) => CA.out W (HA.out.trans (hb.mono HA.out.size)))
    have CC' := Lib.hid (fun W (hb : Below wb.heap.size wb W) => CC.out W (HA.out.trans (hb.mono HA.out.size)))
    have HDR : Hid (Below wb.heap.size wb wb.drew) := (Below.refl _ _).drew
    have S0 := Lib.hid (six_six (HX.out.on HDR.out) (HY.out.on HDR.out))
    go_region_held3 (fun w' => w'.cell? ⟨w.heap.size, 0, none⟩ = some (.int .i64 kind) ∧ w'.cell? ⟨w.heap.size, 1, none⟩ = some (.string p) ∧ w'.cell? ⟨w.heap.size, 2, none⟩ = some (.string q) ∧ w'.cell? ⟨w.heap.size, 3, none⟩ = some (.int .i64 at_) ∧ w'.cell? ⟨w.heap.size, 4, none⟩ = some (.slice a1 old.length c1) ∧ w'.cell? ⟨w.heap.size, 5, none⟩ = some (.slice a2 new.length c2) ∧ w'.cell? ⟨w.heap.size + 1, 0, none⟩ = some (.int .i64 kind2) ∧ w'.cell? ⟨w.heap.size + 1, 1, none⟩ = some (.string p2) ∧ w'.cell? ⟨w.heap.size + 1, 2, none⟩ = some (.string q2) ∧ w'.cell? ⟨w.heap.size + 1, 3, none⟩ = some (.int .i64 at2) ∧ w'.cell? ⟨w.heap.size + 1, 4, none⟩ = some (.slice a3 old2.length c3) ∧ w'.cell? ⟨w.heap.size + 1, 5, none⟩ = some (.slice a4 new2.length c4)) (first
      | with_reducible exact S0.out
      | with_reducible exact S7.out
      | with_reducible exact S8.out
      | with_reducible exact SA.out
      | with_reducible exact SB.out
      | (go_keep; done)) (first
      | (go_at_call 115; (with_reducible refine (CA'.out _ HDR.out).mono ?_); rintro e w7 ⟨y7, rfl, hy7, hb7⟩
         have X7 := Lib.hid (HDR.out.trans (hb7.mono HDR.out.size))
         have S7 := Lib.hid (six_six (HX.out.on X7.out) (HY.out.on X7.out)))
      | (go_at_call 116; (with_reducible refine (CC'.out _ X7.out).mono ?_); rintro e w8 ⟨y8, rfl, hy8, hb8⟩
         have X8 := Lib.hid (X7.out.trans (hb8.mono X7.out.size))
         have S8 := Lib.hid (six_six (HX.out.on X8.out) (HY.out.on X8.out))
         have SX := Lib.hid (HX.out.on X8.out)
         have SY := Lib.hid (HY.out.on X8.out)
         have tya := HG.out.on X8.out
         have ya0 := tya.c0
         have yaf0 := tya.fz 0
         have ya1 := tya.c1
         have yaf1 := tya.fz 1
         have ya2 := tya.c2
         have yaf2 := tya.fz 2
         have ya3 := tya.c3
         have yaf3 := tya.fz 3
         have ya4 := tya.c4
         have yaf4 := tya.fz 4
         have ya5 := tya.c5
         have yaf5 := tya.fz 5
         have tza := HH.out.on X8.out
         have za0 := tza.c0
         have zaf0 := tza.fz 0
         have za1 := tza.c1
         have zaf1 := tza.fz 1
         have za2 := tza.c2
         have zaf2 := tza.fz 2
         have za3 := tza.c3
         have zaf3 := tza.fz 3
         have za4 := tza.c4
         have zaf4 := tza.fz 4
         have za5 := tza.c5
         have zaf5 := tza.fz 5
         have SA := Lib.hid (six_six (prim_set6 (h := w.heap.size + 1 + 1) (v0 := .int .i64 y7.kind) (v1 := .string y7.p) (v2 := .string y7.dst) (v3 := .int .i64 y7.at_) (v4 := .slice y7.a1 y7.old.length y7.c1) (v5 := .slice y7.a2 y7.new.length y7.c2) SX.out (by omega)) (prim_set6 (h := w.heap.size + 1 + 1) (v0 := .int .i64 y7.kind) (v1 := .string y7.p) (v2 := .string y7.dst) (v3 := .int .i64 y7.at_) (v4 := .slice y7.a1 y7.old.length y7.c1) (v5 := .slice y7.a2 y7.new.length y7.c2) SY.out (by omega)))
         have SB := Lib.hid (six_six (prim_set6 (h := w.heap.size + 1 + 1 + 1) (v0 := .int .i64 y8.kind) (v1 := .string y8.p) (v2 := .string y8.dst) (v3 := .int .i64 y8.at_) (v4 := .slice y8.a1 y8.old.length y8.c1) (v5 := .slice y8.a2 y8.new.length y8.c2) (prim_set6 (h := w.heap.size + 1 + 1) (v0 := .int .i64 y7.kind) (v1 := .string y7.p) (v2 := .string y7.dst) (v3 := .int .i64 y7.at_) (v4 := .slice y7.a1 y7.old.length y7.c1) (v5 := .slice y7.a2 y7.new.length y7.c2) SX.out (by omega)) (by omega)) (prim_set6 (h := w.heap.size + 1 + 1 + 1) (v0 := .int .i64 y8.kind) (v1 := .string y8.p) (v2 := .string y8.dst) (v3 := .int .i64 y8.at_) (v4 := .slice y8.a1 y8.old.length y8.c1) (v5 := .slice y8.a2 y8.new.length y8.c2) (prim_set6 (h := w.heap.size + 1 + 1) (v0 := .int .i64 y7.kind) (v1 := .string y7.p) (v2 := .string y7.dst) (v3 := .int .i64 y7.at_) (v4 := .slice y7.a1 y7.old.length y7.c1) (v5 := .slice y7.a2 y7.new.length y7.c2) SY.out (by omega)) (by omega)))))
    all_goals
      have HT := Lib.hid (two_set (w := w) (.bool true) (HA.out.trans (X8.out.mono HA.out.size)) (show w.heap.size ≤ w.heap.size + 1 + 1 by omega) (show w.heap.size ≤ w.heap.size + 1 + 1 + 1 by omega) (show w.heap.size + 1 + 1 ≠ w.heap.size + 1 + 1 + 1 by omega) (HG.out.on X8.out) (HH.out.on X8.out) (hy7.out.1.on hb8) hy8.out.1 hy7.out.2 hy8.out.2)
      have HT1 := Lib.hid HT.out.1
      have HT2 := Lib.hid HT.out.2.1
      have HT3 := Lib.hid HT.out.2.2
      clear HT S0 SX SY SA SB S7 hb7 S8 hb8 tya tza ya0 yaf0 ya1 yaf1 ya2 yaf2 ya3 yaf3 ya4 yaf4 ya5 yaf5 za0 zaf0 za1 zaf1 za2 zaf2 za3 zaf3 za4 zaf4 za5 zaf5
      go_wp2
      (try simp only [Exit.inBlock, Exit.then])
      refine bodyPost_ret (ret_prim3 rfl _ _ _ _ y7 y8 _ rfl rfl rfl HT2.out HT3.out) rfl ?_
      exact HT1.out
  have HT := Lib.hid (HT.out.2 w2)
  by_cases w3 : kind = 6 ∧ kind2 = 5 ∧ p2 = p
  · have ht := HT.out.1 w3
    subst ht
    have k1 : (kind == 5) = false := by rw [beq_eq_false_iff_ne]; omega
    have k2 : (kind == 6) = true := by simpa using w3.1
    have k3 : (kind2 == 5) = true := by simpa using w3.2.1
    have k4 : (p2.toList == p.toList) = true := by rw [str_beq]; exact decide_eq_true w3.2.2
    clear HT CP CA CC w2 w3
    go_enter Tryz.func70, Tryz.ntmps70
    go_wp2_with fail
    generalize ((((w.alloc (.cells #[.int .i64 kind, .string p, .string q, .int .i64 at_, .slice a1 old.length c1, .slice a2 new.length c2] 33)).alloc (.cells #[.int .i64 kind2, .string p2, .string q2, .int .i64 at2, .slice a3 old2.length c3, .slice a4 new2.length c4] 33)).alloc (.cells #[.int .i64 0, .string ⟨#[]⟩, .string ⟨#[]⟩, .int .i64 0, .slice none 0 0, .slice none 0 0] 33)).alloc (.cells #[.int .i64 0, .string ⟨#[]⟩, .string ⟨#[]⟩, .int .i64 0, .slice none 0 0, .slice none 0 0] 33)) = wa at *
    refine CF.out.mono ?_
    rintro e wb ⟨rfl, hb⟩
    replace HX := Lib.hid (HX.out.on hb)
    replace HY := Lib.hid (HY.out.on hb)
    replace HG := Lib.hid (HG.out.on hb)
    replace HH := Lib.hid (HH.out.on hb)
    replace HA := Lib.hid (HA.out.trans (hb.mono HA.out.size))
    clear hb
    clear CF
    have b0 := HX.out.c0
    have b1 := HX.out.c1
    have b2 := HX.out.c2
    have b3 := HX.out.c3
    have b4 := HX.out.c4
    have b5 := HX.out.c5
    have d0 := HY.out.c0
    have d1 := HY.out.c1
    have d2 := HY.out.c2
    have d3 := HY.out.c3
    have d4 := HY.out.c4
    have d5 := HY.out.c5
    go_wp2_with fail
    clear b0 b1 b2 b3 b4 b5 d0 d1 d2 d3 d4 d5
    have CA2' := Lib.hid (fun W (hb : Below wb.heap.size wb W) => CA2.out W (HA.out.trans (hb.mono HA.out.size)))
    have CC2' := Lib.hid (fun W (hb : Below wb.heap.size wb W) => CC2.out W (HA.out.trans (hb.mono HA.out.size)))
    have HDR : Hid (Below wb.heap.size wb wb.drew) := (Below.refl _ _).drew
    have S0 := Lib.hid (six_six (HX.out.on HDR.out) (HY.out.on HDR.out))
    go_region_held3 (fun w' => w'.cell? ⟨w.heap.size, 0, none⟩ = some (.int .i64 kind) ∧ w'.cell? ⟨w.heap.size, 1, none⟩ = some (.string p) ∧ w'.cell? ⟨w.heap.size, 2, none⟩ = some (.string q) ∧ w'.cell? ⟨w.heap.size, 3, none⟩ = some (.int .i64 at_) ∧ w'.cell? ⟨w.heap.size, 4, none⟩ = some (.slice a1 old.length c1) ∧ w'.cell? ⟨w.heap.size, 5, none⟩ = some (.slice a2 new.length c2) ∧ w'.cell? ⟨w.heap.size + 1, 0, none⟩ = some (.int .i64 kind2) ∧ w'.cell? ⟨w.heap.size + 1, 1, none⟩ = some (.string p2) ∧ w'.cell? ⟨w.heap.size + 1, 2, none⟩ = some (.string q2) ∧ w'.cell? ⟨w.heap.size + 1, 3, none⟩ = some (.int .i64 at2) ∧ w'.cell? ⟨w.heap.size + 1, 4, none⟩ = some (.slice a3 old2.length c3) ∧ w'.cell? ⟨w.heap.size + 1, 5, none⟩ = some (.slice a4 new2.length c4)) (first
      | with_reducible exact S0.out
      | with_reducible exact S7.out
      | with_reducible exact S8.out
      | with_reducible exact SA.out
      | with_reducible exact SB.out
      | (go_keep; done)) (first
      | (go_at_call 116; (with_reducible refine (CC2'.out _ HDR.out).mono ?_); rintro e w7 ⟨y7, rfl, hy7, hb7⟩
         have X7 := Lib.hid (HDR.out.trans (hb7.mono HDR.out.size))
         have S7 := Lib.hid (six_six (HX.out.on X7.out) (HY.out.on X7.out)))
      | (go_at_call 115; (with_reducible refine (CA2'.out _ X7.out).mono ?_); rintro e w8 ⟨y8, rfl, hy8, hb8⟩
         have X8 := Lib.hid (X7.out.trans (hb8.mono X7.out.size))
         have S8 := Lib.hid (six_six (HX.out.on X8.out) (HY.out.on X8.out))
         have SX := Lib.hid (HX.out.on X8.out)
         have SY := Lib.hid (HY.out.on X8.out)
         have tya := HG.out.on X8.out
         have ya0 := tya.c0
         have yaf0 := tya.fz 0
         have ya1 := tya.c1
         have yaf1 := tya.fz 1
         have ya2 := tya.c2
         have yaf2 := tya.fz 2
         have ya3 := tya.c3
         have yaf3 := tya.fz 3
         have ya4 := tya.c4
         have yaf4 := tya.fz 4
         have ya5 := tya.c5
         have yaf5 := tya.fz 5
         have tza := HH.out.on X8.out
         have za0 := tza.c0
         have zaf0 := tza.fz 0
         have za1 := tza.c1
         have zaf1 := tza.fz 1
         have za2 := tza.c2
         have zaf2 := tza.fz 2
         have za3 := tza.c3
         have zaf3 := tza.fz 3
         have za4 := tza.c4
         have zaf4 := tza.fz 4
         have za5 := tza.c5
         have zaf5 := tza.fz 5
         have SA := Lib.hid (six_six (prim_set6 (h := w.heap.size + 1 + 1) (v0 := .int .i64 y7.kind) (v1 := .string y7.p) (v2 := .string y7.dst) (v3 := .int .i64 y7.at_) (v4 := .slice y7.a1 y7.old.length y7.c1) (v5 := .slice y7.a2 y7.new.length y7.c2) SX.out (by omega)) (prim_set6 (h := w.heap.size + 1 + 1) (v0 := .int .i64 y7.kind) (v1 := .string y7.p) (v2 := .string y7.dst) (v3 := .int .i64 y7.at_) (v4 := .slice y7.a1 y7.old.length y7.c1) (v5 := .slice y7.a2 y7.new.length y7.c2) SY.out (by omega)))
         have SB := Lib.hid (six_six (prim_set6 (h := w.heap.size + 1 + 1 + 1) (v0 := .int .i64 y8.kind) (v1 := .string y8.p) (v2 := .string y8.dst) (v3 := .int .i64 y8.at_) (v4 := .slice y8.a1 y8.old.length y8.c1) (v5 := .slice y8.a2 y8.new.length y8.c2) (prim_set6 (h := w.heap.size + 1 + 1) (v0 := .int .i64 y7.kind) (v1 := .string y7.p) (v2 := .string y7.dst) (v3 := .int .i64 y7.at_) (v4 := .slice y7.a1 y7.old.length y7.c1) (v5 := .slice y7.a2 y7.new.length y7.c2) SX.out (by omega)) (by omega)) (prim_set6 (h := w.heap.size + 1 + 1 + 1) (v0 := .int .i64 y8.kind) (v1 := .string y8.p) (v2 := .string y8.dst) (v3 := .int .i64 y8.at_) (v4 := .slice y8.a1 y8.old.length y8.c1) (v5 := .slice y8.a2 y8.new.length y8.c2) (prim_set6 (h := w.heap.size + 1 + 1) (v0 := .int .i64 y7.kind) (v1 := .string y7.p) (v2 := .string y7.dst) (v3 := .int .i64 y7.at_) (v4 := .slice y7.a1 y7.old.length y7.c1) (v5 := .slice y7.a2 y7.new.length y7.c2) SY.out (by omega)) (by omega)))))
    all_goals
      have HT := Lib.hid (two_set (w := w) (.bool true) (HA.out.trans (X8.out.mono HA.out.size)) (show w.heap.size ≤ w.heap.size + 1 + 1 by omega) (show w.heap.size ≤ w.heap.size + 1 + 1 + 1 by omega) (show w.heap.size + 1 + 1 ≠ w.heap.size + 1 + 1 + 1 by omega) (HG.out.on X8.out) (HH.out.on X8.out) (hy7.out.1.on hb8) hy8.out.1 hy7.out.2 hy8.out.2)
      have HT1 := Lib.hid HT.out.1
      have HT2 := Lib.hid HT.out.2.1
      have HT3 := Lib.hid HT.out.2.2
      clear HT S0 SX SY SA SB S7 hb7 S8 hb8 tya tza ya0 yaf0 ya1 yaf1 ya2 yaf2 ya3 yaf3 ya4 yaf4 ya5 yaf5 za0 zaf0 za1 zaf1 za2 zaf2 za3 zaf3 za4 zaf4 za5 zaf5
      go_wp2
      (try simp only [Exit.inBlock, Exit.then])
      refine bodyPost_ret (ret_prim3 rfl _ _ _ _ y7 y8 _ rfl rfl rfl HT2.out HT3.out) rfl ?_
      exact HT1.out
  have ht := Lib.hid (HT.out.2 w3)
  clear HT CA CA2
  by_cases u1 : kind = 5
  · have k1 : (kind == 5) = true := by simpa using u1
    have k2 : (kind == 6) = false := by rw [beq_eq_false_iff_ne]; omega
    by_cases u2 : kind2 = 6
    · have k3 : (kind2 == 6) = true := by simpa using u2
      have k4 : (p2.toList == q.toList) = false := by rw [str_beq]; exact decide_eq_false fun e => w2 ⟨u1, u2, e⟩
      clear w2 w3 u1 u2
      go_enter Tryz.func70, Tryz.ntmps70
      go_wp2_with fail
      generalize ((((w.alloc (.cells #[.int .i64 kind, .string p, .string q, .int .i64 at_, .slice a1 old.length c1, .slice a2 new.length c2] 33)).alloc (.cells #[.int .i64 kind2, .string p2, .string q2, .int .i64 at2, .slice a3 old2.length c3, .slice a4 new2.length c4] 33)).alloc (.cells #[.int .i64 0, .string ⟨#[]⟩, .string ⟨#[]⟩, .int .i64 0, .slice none 0 0, .slice none 0 0] 33)).alloc (.cells #[.int .i64 0, .string ⟨#[]⟩, .string ⟨#[]⟩, .int .i64 0, .slice none 0 0, .slice none 0 0] 33)) = wa at *
      refine CF.out.mono ?_
      rintro e wb ⟨rfl, hb⟩
      replace HX := Lib.hid (HX.out.on hb)
      replace HY := Lib.hid (HY.out.on hb)
      replace HG := Lib.hid (HG.out.on hb)
      replace HH := Lib.hid (HH.out.on hb)
      replace HA := Lib.hid (HA.out.trans (hb.mono HA.out.size))
      clear hb
      clear CF
      have b0 := HX.out.c0
      have b1 := HX.out.c1
      have b2 := HX.out.c2
      have b3 := HX.out.c3
      have b4 := HX.out.c4
      have b5 := HX.out.c5
      have d0 := HY.out.c0
      have d1 := HY.out.c1
      have d2 := HY.out.c2
      have d3 := HY.out.c3
      have d4 := HY.out.c4
      have d5 := HY.out.c5
      go_wp2_with fail
      clear b0 b1 b2 b3 b4 b5 d0 d1 d2 d3 d4 d5
      refine (CP.out wb HA.out).mono ?_
      rintro e wc ⟨rfl, hb⟩
      replace HX := Lib.hid (HX.out.on hb)
      replace HY := Lib.hid (HY.out.on hb)
      replace HG := Lib.hid (HG.out.on hb)
      replace HH := Lib.hid (HH.out.on hb)
      replace HA := Lib.hid (HA.out.trans (hb.mono HA.out.size))
      clear hb
      clear CP
      cases ap
      · have ht := ht.out
        rw [if_neg (by simp)] at ht
        subst ht
        have g0 := HG.out.c0
        have gf0 := HG.out.fz 0
        have h0 := HH.out.c0
        have hf0 := HH.out.fz 0
        have g1 := HG.out.c1
        have gf1 := HG.out.fz 1
        have h1 := HH.out.c1
        have hf1 := HH.out.fz 1
        have g2 := HG.out.c2
        have gf2 := HG.out.fz 2
        have h2 := HH.out.c2
        have hf2 := HH.out.fz 2
        have g3 := HG.out.c3
        have gf3 := HG.out.fz 3
        have h3 := HH.out.c3
        have hf3 := HH.out.fz 3
        have g4 := HG.out.c4
        have gf4 := HG.out.fz 4
        have h4 := HH.out.c4
        have hf4 := HH.out.fz 4
        have g5 := HG.out.c5
        have gf5 := HG.out.fz 5
        have h5 := HH.out.c5
        have hf5 := HH.out.fz 5
        have HTW := Lib.hid (two_set (w := w) (.bool false) HA.out (show w.heap.size ≤ w.heap.size + 1 + 1 by omega) (show w.heap.size ≤ w.heap.size + 1 + 1 + 1 by omega) (show w.heap.size + 1 + 1 ≠ w.heap.size + 1 + 1 + 1 by omega) HG.out HH.out (sep_zero _) (sep_zero _) (rfl : _ = zeroP) (rfl : _ = zeroP))
        have HT1 := Lib.hid HTW.out.1
        have HT2 := Lib.hid HTW.out.2.1
        have HT3 := Lib.hid HTW.out.2.2
        clear HTW CC CC2
        go_wp2
        (try simp only [Exit.inBlock, Exit.then])
        refine bodyPost_ret (ret_prim3 rfl _ _ _ _ ⟨0, ⟨#[]⟩, ⟨#[]⟩, 0, none, 0, [], none, 0, []⟩ ⟨0, ⟨#[]⟩, ⟨#[]⟩, 0, none, 0, [], none, 0, []⟩ _ rfl rfl rfl HT2.out HT3.out) rfl ?_
        exact HT1.out
      · have ht := ht.out
        rw [if_pos rfl] at ht
        subst ht
        have b0 := HX.out.c0
        have b1 := HX.out.c1
        have b2 := HX.out.c2
        have b3 := HX.out.c3
        have b4 := HX.out.c4
        have b5 := HX.out.c5
        have d0 := HY.out.c0
        have d1 := HY.out.c1
        have d2 := HY.out.c2
        have d3 := HY.out.c3
        have d4 := HY.out.c4
        have d5 := HY.out.c5
        go_wp2_with fail
        clear b0 b1 b2 b3 b4 b5 d0 d1 d2 d3 d4 d5
        have CC2' := Lib.hid (fun W (hb : Below wc.heap.size wc W) => CC2.out W (HA.out.trans (hb.mono HA.out.size)))
        have CC' := Lib.hid (fun W (hb : Below wc.heap.size wc W) => CC.out W (HA.out.trans (hb.mono HA.out.size)))
        have HDR : Hid (Below wc.heap.size wc wc.drew) := (Below.refl _ _).drew
        have S0 := Lib.hid (six_six (HX.out.on HDR.out) (HY.out.on HDR.out))
        go_region_held3 (fun w' => w'.cell? ⟨w.heap.size, 0, none⟩ = some (.int .i64 kind) ∧ w'.cell? ⟨w.heap.size, 1, none⟩ = some (.string p) ∧ w'.cell? ⟨w.heap.size, 2, none⟩ = some (.string q) ∧ w'.cell? ⟨w.heap.size, 3, none⟩ = some (.int .i64 at_) ∧ w'.cell? ⟨w.heap.size, 4, none⟩ = some (.slice a1 old.length c1) ∧ w'.cell? ⟨w.heap.size, 5, none⟩ = some (.slice a2 new.length c2) ∧ w'.cell? ⟨w.heap.size + 1, 0, none⟩ = some (.int .i64 kind2) ∧ w'.cell? ⟨w.heap.size + 1, 1, none⟩ = some (.string p2) ∧ w'.cell? ⟨w.heap.size + 1, 2, none⟩ = some (.string q2) ∧ w'.cell? ⟨w.heap.size + 1, 3, none⟩ = some (.int .i64 at2) ∧ w'.cell? ⟨w.heap.size + 1, 4, none⟩ = some (.slice a3 old2.length c3) ∧ w'.cell? ⟨w.heap.size + 1, 5, none⟩ = some (.slice a4 new2.length c4)) (first
          | with_reducible exact S0.out
          | with_reducible exact S7.out
          | with_reducible exact S8.out
          | with_reducible exact SA.out
          | with_reducible exact SB.out
          | (go_keep; done)) (first
          | (go_at_call 116; (with_reducible refine (CC2'.out _ HDR.out).mono ?_); rintro e w7 ⟨y7, rfl, hy7, hb7⟩
             have X7 := Lib.hid (HDR.out.trans (hb7.mono HDR.out.size))
             have S7 := Lib.hid (six_six (HX.out.on X7.out) (HY.out.on X7.out)))
          | (go_at_call 116; (with_reducible refine (CC'.out _ X7.out).mono ?_); rintro e w8 ⟨y8, rfl, hy8, hb8⟩
             have X8 := Lib.hid (X7.out.trans (hb8.mono X7.out.size))
             have S8 := Lib.hid (six_six (HX.out.on X8.out) (HY.out.on X8.out))
             have SX := Lib.hid (HX.out.on X8.out)
             have SY := Lib.hid (HY.out.on X8.out)
             have tya := HG.out.on X8.out
             have ya0 := tya.c0
             have yaf0 := tya.fz 0
             have ya1 := tya.c1
             have yaf1 := tya.fz 1
             have ya2 := tya.c2
             have yaf2 := tya.fz 2
             have ya3 := tya.c3
             have yaf3 := tya.fz 3
             have ya4 := tya.c4
             have yaf4 := tya.fz 4
             have ya5 := tya.c5
             have yaf5 := tya.fz 5
             have tza := HH.out.on X8.out
             have za0 := tza.c0
             have zaf0 := tza.fz 0
             have za1 := tza.c1
             have zaf1 := tza.fz 1
             have za2 := tza.c2
             have zaf2 := tza.fz 2
             have za3 := tza.c3
             have zaf3 := tza.fz 3
             have za4 := tza.c4
             have zaf4 := tza.fz 4
             have za5 := tza.c5
             have zaf5 := tza.fz 5
             have SA := Lib.hid (six_six (prim_set6 (h := w.heap.size + 1 + 1) (v0 := .int .i64 y7.kind) (v1 := .string y7.p) (v2 := .string y7.dst) (v3 := .int .i64 y7.at_) (v4 := .slice y7.a1 y7.old.length y7.c1) (v5 := .slice y7.a2 y7.new.length y7.c2) SX.out (by omega)) (prim_set6 (h := w.heap.size + 1 + 1) (v0 := .int .i64 y7.kind) (v1 := .string y7.p) (v2 := .string y7.dst) (v3 := .int .i64 y7.at_) (v4 := .slice y7.a1 y7.old.length y7.c1) (v5 := .slice y7.a2 y7.new.length y7.c2) SY.out (by omega)))
             have SB := Lib.hid (six_six (prim_set6 (h := w.heap.size + 1 + 1 + 1) (v0 := .int .i64 y8.kind) (v1 := .string y8.p) (v2 := .string y8.dst) (v3 := .int .i64 y8.at_) (v4 := .slice y8.a1 y8.old.length y8.c1) (v5 := .slice y8.a2 y8.new.length y8.c2) (prim_set6 (h := w.heap.size + 1 + 1) (v0 := .int .i64 y7.kind) (v1 := .string y7.p) (v2 := .string y7.dst) (v3 := .int .i64 y7.at_) (v4 := .slice y7.a1 y7.old.length y7.c1) (v5 := .slice y7.a2 y7.new.length y7.c2) SX.out (by omega)) (by omega)) (prim_set6 (h := w.heap.size + 1 + 1 + 1) (v0 := .int .i64 y8.kind) (v1 := .string y8.p) (v2 := .string y8.dst) (v3 := .int .i64 y8.at_) (v4 := .slice y8.a1 y8.old.length y8.c1) (v5 := .slice y8.a2 y8.new.length y8.c2) (prim_set6 (h := w.heap.size + 1 + 1) (v0 := .int .i64 y7.kind) (v1 := .string y7.p) (v2 := .string y7.dst) (v3 := .int .i64 y7.at_) (v4 := .slice y7.a1 y7.old.length y7.c1) (v5 := .slice y7.a2 y7.new.length y7.c2) SY.out (by omega)) (by omega)))))
        all_goals
          have HT := Lib.hid (two_set (w := w) (.bool true) (HA.out.trans (X8.out.mono HA.out.size)) (show w.heap.size ≤ w.heap.size + 1 + 1 by omega) (show w.heap.size ≤ w.heap.size + 1 + 1 + 1 by omega) (show w.heap.size + 1 + 1 ≠ w.heap.size + 1 + 1 + 1 by omega) (HG.out.on X8.out) (HH.out.on X8.out) (hy7.out.1.on hb8) hy8.out.1 hy7.out.2 hy8.out.2)
          have HT1 := Lib.hid HT.out.1
          have HT2 := Lib.hid HT.out.2.1
          have HT3 := Lib.hid HT.out.2.2
          clear HT S0 SX SY SA SB S7 hb7 S8 hb8 tya tza ya0 yaf0 ya1 yaf1 ya2 yaf2 ya3 yaf3 ya4 yaf4 ya5 yaf5 za0 zaf0 za1 zaf1 za2 zaf2 za3 zaf3 za4 zaf4 za5 zaf5
          go_wp2
          (try simp only [Exit.inBlock, Exit.then])
          refine bodyPost_ret (ret_prim3 rfl _ _ _ _ y7 y8 _ rfl rfl rfl HT2.out HT3.out) rfl ?_
          exact HT1.out
    · have k3 : (kind2 == 6) = false := by simpa using u2
      clear w2 w3 u1 u2
      go_enter Tryz.func70, Tryz.ntmps70
      go_wp2_with fail
      generalize ((((w.alloc (.cells #[.int .i64 kind, .string p, .string q, .int .i64 at_, .slice a1 old.length c1, .slice a2 new.length c2] 33)).alloc (.cells #[.int .i64 kind2, .string p2, .string q2, .int .i64 at2, .slice a3 old2.length c3, .slice a4 new2.length c4] 33)).alloc (.cells #[.int .i64 0, .string ⟨#[]⟩, .string ⟨#[]⟩, .int .i64 0, .slice none 0 0, .slice none 0 0] 33)).alloc (.cells #[.int .i64 0, .string ⟨#[]⟩, .string ⟨#[]⟩, .int .i64 0, .slice none 0 0, .slice none 0 0] 33)) = wa at *
      refine CF.out.mono ?_
      rintro e wb ⟨rfl, hb⟩
      replace HX := Lib.hid (HX.out.on hb)
      replace HY := Lib.hid (HY.out.on hb)
      replace HG := Lib.hid (HG.out.on hb)
      replace HH := Lib.hid (HH.out.on hb)
      replace HA := Lib.hid (HA.out.trans (hb.mono HA.out.size))
      clear hb
      clear CF
      have b0 := HX.out.c0
      have b1 := HX.out.c1
      have b2 := HX.out.c2
      have b3 := HX.out.c3
      have b4 := HX.out.c4
      have b5 := HX.out.c5
      have d0 := HY.out.c0
      have d1 := HY.out.c1
      have d2 := HY.out.c2
      have d3 := HY.out.c3
      have d4 := HY.out.c4
      have d5 := HY.out.c5
      go_wp2_with fail
      clear b0 b1 b2 b3 b4 b5 d0 d1 d2 d3 d4 d5
      refine (CP.out wb HA.out).mono ?_
      rintro e wc ⟨rfl, hb⟩
      replace HX := Lib.hid (HX.out.on hb)
      replace HY := Lib.hid (HY.out.on hb)
      replace HG := Lib.hid (HG.out.on hb)
      replace HH := Lib.hid (HH.out.on hb)
      replace HA := Lib.hid (HA.out.trans (hb.mono HA.out.size))
      clear hb
      clear CP
      cases ap
      · have ht := ht.out
        rw [if_neg (by simp)] at ht
        subst ht
        have g0 := HG.out.c0
        have gf0 := HG.out.fz 0
        have h0 := HH.out.c0
        have hf0 := HH.out.fz 0
        have g1 := HG.out.c1
        have gf1 := HG.out.fz 1
        have h1 := HH.out.c1
        have hf1 := HH.out.fz 1
        have g2 := HG.out.c2
        have gf2 := HG.out.fz 2
        have h2 := HH.out.c2
        have hf2 := HH.out.fz 2
        have g3 := HG.out.c3
        have gf3 := HG.out.fz 3
        have h3 := HH.out.c3
        have hf3 := HH.out.fz 3
        have g4 := HG.out.c4
        have gf4 := HG.out.fz 4
        have h4 := HH.out.c4
        have hf4 := HH.out.fz 4
        have g5 := HG.out.c5
        have gf5 := HG.out.fz 5
        have h5 := HH.out.c5
        have hf5 := HH.out.fz 5
        have HTW := Lib.hid (two_set (w := w) (.bool false) HA.out (show w.heap.size ≤ w.heap.size + 1 + 1 by omega) (show w.heap.size ≤ w.heap.size + 1 + 1 + 1 by omega) (show w.heap.size + 1 + 1 ≠ w.heap.size + 1 + 1 + 1 by omega) HG.out HH.out (sep_zero _) (sep_zero _) (rfl : _ = zeroP) (rfl : _ = zeroP))
        have HT1 := Lib.hid HTW.out.1
        have HT2 := Lib.hid HTW.out.2.1
        have HT3 := Lib.hid HTW.out.2.2
        clear HTW CC CC2
        go_wp2
        (try simp only [Exit.inBlock, Exit.then])
        refine bodyPost_ret (ret_prim3 rfl _ _ _ _ ⟨0, ⟨#[]⟩, ⟨#[]⟩, 0, none, 0, [], none, 0, []⟩ ⟨0, ⟨#[]⟩, ⟨#[]⟩, 0, none, 0, [], none, 0, []⟩ _ rfl rfl rfl HT2.out HT3.out) rfl ?_
        exact HT1.out
      · have ht := ht.out
        rw [if_pos rfl] at ht
        subst ht
        have b0 := HX.out.c0
        have b1 := HX.out.c1
        have b2 := HX.out.c2
        have b3 := HX.out.c3
        have b4 := HX.out.c4
        have b5 := HX.out.c5
        have d0 := HY.out.c0
        have d1 := HY.out.c1
        have d2 := HY.out.c2
        have d3 := HY.out.c3
        have d4 := HY.out.c4
        have d5 := HY.out.c5
        go_wp2_with fail
        clear b0 b1 b2 b3 b4 b5 d0 d1 d2 d3 d4 d5
        have CC2' := Lib.hid (fun W (hb : Below wc.heap.size wc W) => CC2.out W (HA.out.trans (hb.mono HA.out.size)))
        have CC' := Lib.hid (fun W (hb : Below wc.heap.size wc W) => CC.out W (HA.out.trans (hb.mono HA.out.size)))
        have HDR : Hid (Below wc.heap.size wc wc.drew) := (Below.refl _ _).drew
        have S0 := Lib.hid (six_six (HX.out.on HDR.out) (HY.out.on HDR.out))
        go_region_held3 (fun w' => w'.cell? ⟨w.heap.size, 0, none⟩ = some (.int .i64 kind) ∧ w'.cell? ⟨w.heap.size, 1, none⟩ = some (.string p) ∧ w'.cell? ⟨w.heap.size, 2, none⟩ = some (.string q) ∧ w'.cell? ⟨w.heap.size, 3, none⟩ = some (.int .i64 at_) ∧ w'.cell? ⟨w.heap.size, 4, none⟩ = some (.slice a1 old.length c1) ∧ w'.cell? ⟨w.heap.size, 5, none⟩ = some (.slice a2 new.length c2) ∧ w'.cell? ⟨w.heap.size + 1, 0, none⟩ = some (.int .i64 kind2) ∧ w'.cell? ⟨w.heap.size + 1, 1, none⟩ = some (.string p2) ∧ w'.cell? ⟨w.heap.size + 1, 2, none⟩ = some (.string q2) ∧ w'.cell? ⟨w.heap.size + 1, 3, none⟩ = some (.int .i64 at2) ∧ w'.cell? ⟨w.heap.size + 1, 4, none⟩ = some (.slice a3 old2.length c3) ∧ w'.cell? ⟨w.heap.size + 1, 5, none⟩ = some (.slice a4 new2.length c4)) (first
          | with_reducible exact S0.out
          | with_reducible exact S7.out
          | with_reducible exact S8.out
          | with_reducible exact SA.out
          | with_reducible exact SB.out
          | (go_keep; done)) (first
          | (go_at_call 116; (with_reducible refine (CC2'.out _ HDR.out).mono ?_); rintro e w7 ⟨y7, rfl, hy7, hb7⟩
             have X7 := Lib.hid (HDR.out.trans (hb7.mono HDR.out.size))
             have S7 := Lib.hid (six_six (HX.out.on X7.out) (HY.out.on X7.out)))
          | (go_at_call 116; (with_reducible refine (CC'.out _ X7.out).mono ?_); rintro e w8 ⟨y8, rfl, hy8, hb8⟩
             have X8 := Lib.hid (X7.out.trans (hb8.mono X7.out.size))
             have S8 := Lib.hid (six_six (HX.out.on X8.out) (HY.out.on X8.out))
             have SX := Lib.hid (HX.out.on X8.out)
             have SY := Lib.hid (HY.out.on X8.out)
             have tya := HG.out.on X8.out
             have ya0 := tya.c0
             have yaf0 := tya.fz 0
             have ya1 := tya.c1
             have yaf1 := tya.fz 1
             have ya2 := tya.c2
             have yaf2 := tya.fz 2
             have ya3 := tya.c3
             have yaf3 := tya.fz 3
             have ya4 := tya.c4
             have yaf4 := tya.fz 4
             have ya5 := tya.c5
             have yaf5 := tya.fz 5
             have tza := HH.out.on X8.out
             have za0 := tza.c0
             have zaf0 := tza.fz 0
             have za1 := tza.c1
             have zaf1 := tza.fz 1
             have za2 := tza.c2
             have zaf2 := tza.fz 2
             have za3 := tza.c3
             have zaf3 := tza.fz 3
             have za4 := tza.c4
             have zaf4 := tza.fz 4
             have za5 := tza.c5
             have zaf5 := tza.fz 5
             have SA := Lib.hid (six_six (prim_set6 (h := w.heap.size + 1 + 1) (v0 := .int .i64 y7.kind) (v1 := .string y7.p) (v2 := .string y7.dst) (v3 := .int .i64 y7.at_) (v4 := .slice y7.a1 y7.old.length y7.c1) (v5 := .slice y7.a2 y7.new.length y7.c2) SX.out (by omega)) (prim_set6 (h := w.heap.size + 1 + 1) (v0 := .int .i64 y7.kind) (v1 := .string y7.p) (v2 := .string y7.dst) (v3 := .int .i64 y7.at_) (v4 := .slice y7.a1 y7.old.length y7.c1) (v5 := .slice y7.a2 y7.new.length y7.c2) SY.out (by omega)))
             have SB := Lib.hid (six_six (prim_set6 (h := w.heap.size + 1 + 1 + 1) (v0 := .int .i64 y8.kind) (v1 := .string y8.p) (v2 := .string y8.dst) (v3 := .int .i64 y8.at_) (v4 := .slice y8.a1 y8.old.length y8.c1) (v5 := .slice y8.a2 y8.new.length y8.c2) (prim_set6 (h := w.heap.size + 1 + 1) (v0 := .int .i64 y7.kind) (v1 := .string y7.p) (v2 := .string y7.dst) (v3 := .int .i64 y7.at_) (v4 := .slice y7.a1 y7.old.length y7.c1) (v5 := .slice y7.a2 y7.new.length y7.c2) SX.out (by omega)) (by omega)) (prim_set6 (h := w.heap.size + 1 + 1 + 1) (v0 := .int .i64 y8.kind) (v1 := .string y8.p) (v2 := .string y8.dst) (v3 := .int .i64 y8.at_) (v4 := .slice y8.a1 y8.old.length y8.c1) (v5 := .slice y8.a2 y8.new.length y8.c2) (prim_set6 (h := w.heap.size + 1 + 1) (v0 := .int .i64 y7.kind) (v1 := .string y7.p) (v2 := .string y7.dst) (v3 := .int .i64 y7.at_) (v4 := .slice y7.a1 y7.old.length y7.c1) (v5 := .slice y7.a2 y7.new.length y7.c2) SY.out (by omega)) (by omega)))))
        all_goals
          have HT := Lib.hid (two_set (w := w) (.bool true) (HA.out.trans (X8.out.mono HA.out.size)) (show w.heap.size ≤ w.heap.size + 1 + 1 by omega) (show w.heap.size ≤ w.heap.size + 1 + 1 + 1 by omega) (show w.heap.size + 1 + 1 ≠ w.heap.size + 1 + 1 + 1 by omega) (HG.out.on X8.out) (HH.out.on X8.out) (hy7.out.1.on hb8) hy8.out.1 hy7.out.2 hy8.out.2)
          have HT1 := Lib.hid HT.out.1
          have HT2 := Lib.hid HT.out.2.1
          have HT3 := Lib.hid HT.out.2.2
          clear HT S0 SX SY SA SB S7 hb7 S8 hb8 tya tza ya0 yaf0 ya1 yaf1 ya2 yaf2 ya3 yaf3 ya4 yaf4 ya5 yaf5 za0 zaf0 za1 zaf1 za2 zaf2 za3 zaf3 za4 zaf4 za5 zaf5
          go_wp2
          (try simp only [Exit.inBlock, Exit.then])
          refine bodyPost_ret (ret_prim3 rfl _ _ _ _ y7 y8 _ rfl rfl rfl HT2.out HT3.out) rfl ?_
          exact HT1.out
  · have k1 : (kind == 5) = false := by simpa using u1
    by_cases u2 : kind = 6
    · have k2 : (kind == 6) = true := by simpa using u2
      by_cases u3 : kind2 = 5
      · have k3 : (kind2 == 5) = true := by simpa using u3
        have k4 : (p2.toList == p.toList) = false := by rw [str_beq]; exact decide_eq_false fun e => w3 ⟨u2, u3, e⟩
        clear w2 w3 u1 u2 u3
        go_enter Tryz.func70, Tryz.ntmps70
        go_wp2_with fail
        generalize ((((w.alloc (.cells #[.int .i64 kind, .string p, .string q, .int .i64 at_, .slice a1 old.length c1, .slice a2 new.length c2] 33)).alloc (.cells #[.int .i64 kind2, .string p2, .string q2, .int .i64 at2, .slice a3 old2.length c3, .slice a4 new2.length c4] 33)).alloc (.cells #[.int .i64 0, .string ⟨#[]⟩, .string ⟨#[]⟩, .int .i64 0, .slice none 0 0, .slice none 0 0] 33)).alloc (.cells #[.int .i64 0, .string ⟨#[]⟩, .string ⟨#[]⟩, .int .i64 0, .slice none 0 0, .slice none 0 0] 33)) = wa at *
        refine CF.out.mono ?_
        rintro e wb ⟨rfl, hb⟩
        replace HX := Lib.hid (HX.out.on hb)
        replace HY := Lib.hid (HY.out.on hb)
        replace HG := Lib.hid (HG.out.on hb)
        replace HH := Lib.hid (HH.out.on hb)
        replace HA := Lib.hid (HA.out.trans (hb.mono HA.out.size))
        clear hb
        clear CF
        have b0 := HX.out.c0
        have b1 := HX.out.c1
        have b2 := HX.out.c2
        have b3 := HX.out.c3
        have b4 := HX.out.c4
        have b5 := HX.out.c5
        have d0 := HY.out.c0
        have d1 := HY.out.c1
        have d2 := HY.out.c2
        have d3 := HY.out.c3
        have d4 := HY.out.c4
        have d5 := HY.out.c5
        go_wp2_with fail
        clear b0 b1 b2 b3 b4 b5 d0 d1 d2 d3 d4 d5
        refine (CP.out wb HA.out).mono ?_
        rintro e wc ⟨rfl, hb⟩
        replace HX := Lib.hid (HX.out.on hb)
        replace HY := Lib.hid (HY.out.on hb)
        replace HG := Lib.hid (HG.out.on hb)
        replace HH := Lib.hid (HH.out.on hb)
        replace HA := Lib.hid (HA.out.trans (hb.mono HA.out.size))
        clear hb
        clear CP
        cases ap
        · have ht := ht.out
          rw [if_neg (by simp)] at ht
          subst ht
          have g0 := HG.out.c0
          have gf0 := HG.out.fz 0
          have h0 := HH.out.c0
          have hf0 := HH.out.fz 0
          have g1 := HG.out.c1
          have gf1 := HG.out.fz 1
          have h1 := HH.out.c1
          have hf1 := HH.out.fz 1
          have g2 := HG.out.c2
          have gf2 := HG.out.fz 2
          have h2 := HH.out.c2
          have hf2 := HH.out.fz 2
          have g3 := HG.out.c3
          have gf3 := HG.out.fz 3
          have h3 := HH.out.c3
          have hf3 := HH.out.fz 3
          have g4 := HG.out.c4
          have gf4 := HG.out.fz 4
          have h4 := HH.out.c4
          have hf4 := HH.out.fz 4
          have g5 := HG.out.c5
          have gf5 := HG.out.fz 5
          have h5 := HH.out.c5
          have hf5 := HH.out.fz 5
          have HTW := Lib.hid (two_set (w := w) (.bool false) HA.out (show w.heap.size ≤ w.heap.size + 1 + 1 by omega) (show w.heap.size ≤ w.heap.size + 1 + 1 + 1 by omega) (show w.heap.size + 1 + 1 ≠ w.heap.size + 1 + 1 + 1 by omega) HG.out HH.out (sep_zero _) (sep_zero _) (rfl : _ = zeroP) (rfl : _ = zeroP))
          have HT1 := Lib.hid HTW.out.1
          have HT2 := Lib.hid HTW.out.2.1
          have HT3 := Lib.hid HTW.out.2.2
          clear HTW CC CC2
          go_wp2
          (try simp only [Exit.inBlock, Exit.then])
          refine bodyPost_ret (ret_prim3 rfl _ _ _ _ ⟨0, ⟨#[]⟩, ⟨#[]⟩, 0, none, 0, [], none, 0, []⟩ ⟨0, ⟨#[]⟩, ⟨#[]⟩, 0, none, 0, [], none, 0, []⟩ _ rfl rfl rfl HT2.out HT3.out) rfl ?_
          exact HT1.out
        · have ht := ht.out
          rw [if_pos rfl] at ht
          subst ht
          have b0 := HX.out.c0
          have b1 := HX.out.c1
          have b2 := HX.out.c2
          have b3 := HX.out.c3
          have b4 := HX.out.c4
          have b5 := HX.out.c5
          have d0 := HY.out.c0
          have d1 := HY.out.c1
          have d2 := HY.out.c2
          have d3 := HY.out.c3
          have d4 := HY.out.c4
          have d5 := HY.out.c5
          go_wp2_with fail
          clear b0 b1 b2 b3 b4 b5 d0 d1 d2 d3 d4 d5
          have CC2' := Lib.hid (fun W (hb : Below wc.heap.size wc W) => CC2.out W (HA.out.trans (hb.mono HA.out.size)))
          have CC' := Lib.hid (fun W (hb : Below wc.heap.size wc W) => CC.out W (HA.out.trans (hb.mono HA.out.size)))
          have HDR : Hid (Below wc.heap.size wc wc.drew) := (Below.refl _ _).drew
          have S0 := Lib.hid (six_six (HX.out.on HDR.out) (HY.out.on HDR.out))
          go_region_held3 (fun w' => w'.cell? ⟨w.heap.size, 0, none⟩ = some (.int .i64 kind) ∧ w'.cell? ⟨w.heap.size, 1, none⟩ = some (.string p) ∧ w'.cell? ⟨w.heap.size, 2, none⟩ = some (.string q) ∧ w'.cell? ⟨w.heap.size, 3, none⟩ = some (.int .i64 at_) ∧ w'.cell? ⟨w.heap.size, 4, none⟩ = some (.slice a1 old.length c1) ∧ w'.cell? ⟨w.heap.size, 5, none⟩ = some (.slice a2 new.length c2) ∧ w'.cell? ⟨w.heap.size + 1, 0, none⟩ = some (.int .i64 kind2) ∧ w'.cell? ⟨w.heap.size + 1, 1, none⟩ = some (.string p2) ∧ w'.cell? ⟨w.heap.size + 1, 2, none⟩ = some (.string q2) ∧ w'.cell? ⟨w.heap.size + 1, 3, none⟩ = some (.int .i64 at2) ∧ w'.cell? ⟨w.heap.size + 1, 4, none⟩ = some (.slice a3 old2.length c3) ∧ w'.cell? ⟨w.heap.size + 1, 5, none⟩ = some (.slice a4 new2.length c4)) (first
            | with_reducible exact S0.out
            | with_reducible exact S7.out
            | with_reducible exact S8.out
            | with_reducible exact SA.out
            | with_reducible exact SB.out
            | (go_keep; done)) (first
            | (go_at_call 116; (with_reducible refine (CC2'.out _ HDR.out).mono ?_); rintro e w7 ⟨y7, rfl, hy7, hb7⟩
               have X7 := Lib.hid (HDR.out.trans (hb7.mono HDR.out.size))
               have S7 := Lib.hid (six_six (HX.out.on X7.out) (HY.out.on X7.out)))
            | (go_at_call 116; (with_reducible refine (CC'.out _ X7.out).mono ?_); rintro e w8 ⟨y8, rfl, hy8, hb8⟩
               have X8 := Lib.hid (X7.out.trans (hb8.mono X7.out.size))
               have S8 := Lib.hid (six_six (HX.out.on X8.out) (HY.out.on X8.out))
               have SX := Lib.hid (HX.out.on X8.out)
               have SY := Lib.hid (HY.out.on X8.out)
               have tya := HG.out.on X8.out
               have ya0 := tya.c0
               have yaf0 := tya.fz 0
               have ya1 := tya.c1
               have yaf1 := tya.fz 1
               have ya2 := tya.c2
               have yaf2 := tya.fz 2
               have ya3 := tya.c3
               have yaf3 := tya.fz 3
               have ya4 := tya.c4
               have yaf4 := tya.fz 4
               have ya5 := tya.c5
               have yaf5 := tya.fz 5
               have tza := HH.out.on X8.out
               have za0 := tza.c0
               have zaf0 := tza.fz 0
               have za1 := tza.c1
               have zaf1 := tza.fz 1
               have za2 := tza.c2
               have zaf2 := tza.fz 2
               have za3 := tza.c3
               have zaf3 := tza.fz 3
               have za4 := tza.c4
               have zaf4 := tza.fz 4
               have za5 := tza.c5
               have zaf5 := tza.fz 5
               have SA := Lib.hid (six_six (prim_set6 (h := w.heap.size + 1 + 1) (v0 := .int .i64 y7.kind) (v1 := .string y7.p) (v2 := .string y7.dst) (v3 := .int .i64 y7.at_) (v4 := .slice y7.a1 y7.old.length y7.c1) (v5 := .slice y7.a2 y7.new.length y7.c2) SX.out (by omega)) (prim_set6 (h := w.heap.size + 1 + 1) (v0 := .int .i64 y7.kind) (v1 := .string y7.p) (v2 := .string y7.dst) (v3 := .int .i64 y7.at_) (v4 := .slice y7.a1 y7.old.length y7.c1) (v5 := .slice y7.a2 y7.new.length y7.c2) SY.out (by omega)))
               have SB := Lib.hid (six_six (prim_set6 (h := w.heap.size + 1 + 1 + 1) (v0 := .int .i64 y8.kind) (v1 := .string y8.p) (v2 := .string y8.dst) (v3 := .int .i64 y8.at_) (v4 := .slice y8.a1 y8.old.length y8.c1) (v5 := .slice y8.a2 y8.new.length y8.c2) (prim_set6 (h := w.heap.size + 1 + 1) (v0 := .int .i64 y7.kind) (v1 := .string y7.p) (v2 := .string y7.dst) (v3 := .int .i64 y7.at_) (v4 := .slice y7.a1 y7.old.length y7.c1) (v5 := .slice y7.a2 y7.new.length y7.c2) SX.out (by omega)) (by omega)) (prim_set6 (h := w.heap.size + 1 + 1 + 1) (v0 := .int .i64 y8.kind) (v1 := .string y8.p) (v2 := .string y8.dst) (v3 := .int .i64 y8.at_) (v4 := .slice y8.a1 y8.old.length y8.c1) (v5 := .slice y8.a2 y8.new.length y8.c2) (prim_set6 (h := w.heap.size + 1 + 1) (v0 := .int .i64 y7.kind) (v1 := .string y7.p) (v2 := .string y7.dst) (v3 := .int .i64 y7.at_) (v4 := .slice y7.a1 y7.old.length y7.c1) (v5 := .slice y7.a2 y7.new.length y7.c2) SY.out (by omega)) (by omega)))))
          all_goals
            have HT := Lib.hid (two_set (w := w) (.bool true) (HA.out.trans (X8.out.mono HA.out.size)) (show w.heap.size ≤ w.heap.size + 1 + 1 by omega) (show w.heap.size ≤ w.heap.size + 1 + 1 + 1 by omega) (show w.heap.size + 1 + 1 ≠ w.heap.size + 1 + 1 + 1 by omega) (HG.out.on X8.out) (HH.out.on X8.out) (hy7.out.1.on hb8) hy8.out.1 hy7.out.2 hy8.out.2)
            have HT1 := Lib.hid HT.out.1
            have HT2 := Lib.hid HT.out.2.1
            have HT3 := Lib.hid HT.out.2.2
            clear HT S0 SX SY SA SB S7 hb7 S8 hb8 tya tza ya0 yaf0 ya1 yaf1 ya2 yaf2 ya3 yaf3 ya4 yaf4 ya5 yaf5 za0 zaf0 za1 zaf1 za2 zaf2 za3 zaf3 za4 zaf4 za5 zaf5
            go_wp2
            (try simp only [Exit.inBlock, Exit.then])
            refine bodyPost_ret (ret_prim3 rfl _ _ _ _ y7 y8 _ rfl rfl rfl HT2.out HT3.out) rfl ?_
            exact HT1.out
      · have k3 : (kind2 == 5) = false := by simpa using u3
        clear w2 w3 u1 u2 u3
        go_enter Tryz.func70, Tryz.ntmps70
        go_wp2_with fail
        generalize ((((w.alloc (.cells #[.int .i64 kind, .string p, .string q, .int .i64 at_, .slice a1 old.length c1, .slice a2 new.length c2] 33)).alloc (.cells #[.int .i64 kind2, .string p2, .string q2, .int .i64 at2, .slice a3 old2.length c3, .slice a4 new2.length c4] 33)).alloc (.cells #[.int .i64 0, .string ⟨#[]⟩, .string ⟨#[]⟩, .int .i64 0, .slice none 0 0, .slice none 0 0] 33)).alloc (.cells #[.int .i64 0, .string ⟨#[]⟩, .string ⟨#[]⟩, .int .i64 0, .slice none 0 0, .slice none 0 0] 33)) = wa at *
        refine CF.out.mono ?_
        rintro e wb ⟨rfl, hb⟩
        replace HX := Lib.hid (HX.out.on hb)
        replace HY := Lib.hid (HY.out.on hb)
        replace HG := Lib.hid (HG.out.on hb)
        replace HH := Lib.hid (HH.out.on hb)
        replace HA := Lib.hid (HA.out.trans (hb.mono HA.out.size))
        clear hb
        clear CF
        have b0 := HX.out.c0
        have b1 := HX.out.c1
        have b2 := HX.out.c2
        have b3 := HX.out.c3
        have b4 := HX.out.c4
        have b5 := HX.out.c5
        have d0 := HY.out.c0
        have d1 := HY.out.c1
        have d2 := HY.out.c2
        have d3 := HY.out.c3
        have d4 := HY.out.c4
        have d5 := HY.out.c5
        go_wp2_with fail
        clear b0 b1 b2 b3 b4 b5 d0 d1 d2 d3 d4 d5
        refine (CP.out wb HA.out).mono ?_
        rintro e wc ⟨rfl, hb⟩
        replace HX := Lib.hid (HX.out.on hb)
        replace HY := Lib.hid (HY.out.on hb)
        replace HG := Lib.hid (HG.out.on hb)
        replace HH := Lib.hid (HH.out.on hb)
        replace HA := Lib.hid (HA.out.trans (hb.mono HA.out.size))
        clear hb
        clear CP
        cases ap
        · have ht := ht.out
          rw [if_neg (by simp)] at ht
          subst ht
          have g0 := HG.out.c0
          have gf0 := HG.out.fz 0
          have h0 := HH.out.c0
          have hf0 := HH.out.fz 0
          have g1 := HG.out.c1
          have gf1 := HG.out.fz 1
          have h1 := HH.out.c1
          have hf1 := HH.out.fz 1
          have g2 := HG.out.c2
          have gf2 := HG.out.fz 2
          have h2 := HH.out.c2
          have hf2 := HH.out.fz 2
          have g3 := HG.out.c3
          have gf3 := HG.out.fz 3
          have h3 := HH.out.c3
          have hf3 := HH.out.fz 3
          have g4 := HG.out.c4
          have gf4 := HG.out.fz 4
          have h4 := HH.out.c4
          have hf4 := HH.out.fz 4
          have g5 := HG.out.c5
          have gf5 := HG.out.fz 5
          have h5 := HH.out.c5
          have hf5 := HH.out.fz 5
          have HTW := Lib.hid (two_set (w := w) (.bool false) HA.out (show w.heap.size ≤ w.heap.size + 1 + 1 by omega) (show w.heap.size ≤ w.heap.size + 1 + 1 + 1 by omega) (show w.heap.size + 1 + 1 ≠ w.heap.size + 1 + 1 + 1 by omega) HG.out HH.out (sep_zero _) (sep_zero _) (rfl : _ = zeroP) (rfl : _ = zeroP))
          have HT1 := Lib.hid HTW.out.1
          have HT2 := Lib.hid HTW.out.2.1
          have HT3 := Lib.hid HTW.out.2.2
          clear HTW CC CC2
          go_wp2
          (try simp only [Exit.inBlock, Exit.then])
          refine bodyPost_ret (ret_prim3 rfl _ _ _ _ ⟨0, ⟨#[]⟩, ⟨#[]⟩, 0, none, 0, [], none, 0, []⟩ ⟨0, ⟨#[]⟩, ⟨#[]⟩, 0, none, 0, [], none, 0, []⟩ _ rfl rfl rfl HT2.out HT3.out) rfl ?_
          exact HT1.out
        · have ht := ht.out
          rw [if_pos rfl] at ht
          subst ht
          have b0 := HX.out.c0
          have b1 := HX.out.c1
          have b2 := HX.out.c2
          have b3 := HX.out.c3
          have b4 := HX.out.c4
          have b5 := HX.out.c5
          have d0 := HY.out.c0
          have d1 := HY.out.c1
          have d2 := HY.out.c2
          have d3 := HY.out.c3
          have d4 := HY.out.c4
          have d5 := HY.out.c5
          go_wp2_with fail
          clear b0 b1 b2 b3 b4 b5 d0 d1 d2 d3 d4 d5
          have CC2' := Lib.hid (fun W (hb : Below wc.heap.size wc W) => CC2.out W (HA.out.trans (hb.mono HA.out.size)))
          have CC' := Lib.hid (fun W (hb : Below wc.heap.size wc W) => CC.out W (HA.out.trans (hb.mono HA.out.size)))
          have HDR : Hid (Below wc.heap.size wc wc.drew) := (Below.refl _ _).drew
          have S0 := Lib.hid (six_six (HX.out.on HDR.out) (HY.out.on HDR.out))
          go_region_held3 (fun w' => w'.cell? ⟨w.heap.size, 0, none⟩ = some (.int .i64 kind) ∧ w'.cell? ⟨w.heap.size, 1, none⟩ = some (.string p) ∧ w'.cell? ⟨w.heap.size, 2, none⟩ = some (.string q) ∧ w'.cell? ⟨w.heap.size, 3, none⟩ = some (.int .i64 at_) ∧ w'.cell? ⟨w.heap.size, 4, none⟩ = some (.slice a1 old.length c1) ∧ w'.cell? ⟨w.heap.size, 5, none⟩ = some (.slice a2 new.length c2) ∧ w'.cell? ⟨w.heap.size + 1, 0, none⟩ = some (.int .i64 kind2) ∧ w'.cell? ⟨w.heap.size + 1, 1, none⟩ = some (.string p2) ∧ w'.cell? ⟨w.heap.size + 1, 2, none⟩ = some (.string q2) ∧ w'.cell? ⟨w.heap.size + 1, 3, none⟩ = some (.int .i64 at2) ∧ w'.cell? ⟨w.heap.size + 1, 4, none⟩ = some (.slice a3 old2.length c3) ∧ w'.cell? ⟨w.heap.size + 1, 5, none⟩ = some (.slice a4 new2.length c4)) (first
            | with_reducible exact S0.out
            | with_reducible exact S7.out
            | with_reducible exact S8.out
            | with_reducible exact SA.out
            | with_reducible exact SB.out
            | (go_keep; done)) (first
            | (go_at_call 116; (with_reducible refine (CC2'.out _ HDR.out).mono ?_); rintro e w7 ⟨y7, rfl, hy7, hb7⟩
               have X7 := Lib.hid (HDR.out.trans (hb7.mono HDR.out.size))
               have S7 := Lib.hid (six_six (HX.out.on X7.out) (HY.out.on X7.out)))
            | (go_at_call 116; (with_reducible refine (CC'.out _ X7.out).mono ?_); rintro e w8 ⟨y8, rfl, hy8, hb8⟩
               have X8 := Lib.hid (X7.out.trans (hb8.mono X7.out.size))
               have S8 := Lib.hid (six_six (HX.out.on X8.out) (HY.out.on X8.out))
               have SX := Lib.hid (HX.out.on X8.out)
               have SY := Lib.hid (HY.out.on X8.out)
               have tya := HG.out.on X8.out
               have ya0 := tya.c0
               have yaf0 := tya.fz 0
               have ya1 := tya.c1
               have yaf1 := tya.fz 1
               have ya2 := tya.c2
               have yaf2 := tya.fz 2
               have ya3 := tya.c3
               have yaf3 := tya.fz 3
               have ya4 := tya.c4
               have yaf4 := tya.fz 4
               have ya5 := tya.c5
               have yaf5 := tya.fz 5
               have tza := HH.out.on X8.out
               have za0 := tza.c0
               have zaf0 := tza.fz 0
               have za1 := tza.c1
               have zaf1 := tza.fz 1
               have za2 := tza.c2
               have zaf2 := tza.fz 2
               have za3 := tza.c3
               have zaf3 := tza.fz 3
               have za4 := tza.c4
               have zaf4 := tza.fz 4
               have za5 := tza.c5
               have zaf5 := tza.fz 5
               have SA := Lib.hid (six_six (prim_set6 (h := w.heap.size + 1 + 1) (v0 := .int .i64 y7.kind) (v1 := .string y7.p) (v2 := .string y7.dst) (v3 := .int .i64 y7.at_) (v4 := .slice y7.a1 y7.old.length y7.c1) (v5 := .slice y7.a2 y7.new.length y7.c2) SX.out (by omega)) (prim_set6 (h := w.heap.size + 1 + 1) (v0 := .int .i64 y7.kind) (v1 := .string y7.p) (v2 := .string y7.dst) (v3 := .int .i64 y7.at_) (v4 := .slice y7.a1 y7.old.length y7.c1) (v5 := .slice y7.a2 y7.new.length y7.c2) SY.out (by omega)))
               have SB := Lib.hid (six_six (prim_set6 (h := w.heap.size + 1 + 1 + 1) (v0 := .int .i64 y8.kind) (v1 := .string y8.p) (v2 := .string y8.dst) (v3 := .int .i64 y8.at_) (v4 := .slice y8.a1 y8.old.length y8.c1) (v5 := .slice y8.a2 y8.new.length y8.c2) (prim_set6 (h := w.heap.size + 1 + 1) (v0 := .int .i64 y7.kind) (v1 := .string y7.p) (v2 := .string y7.dst) (v3 := .int .i64 y7.at_) (v4 := .slice y7.a1 y7.old.length y7.c1) (v5 := .slice y7.a2 y7.new.length y7.c2) SX.out (by omega)) (by omega)) (prim_set6 (h := w.heap.size + 1 + 1 + 1) (v0 := .int .i64 y8.kind) (v1 := .string y8.p) (v2 := .string y8.dst) (v3 := .int .i64 y8.at_) (v4 := .slice y8.a1 y8.old.length y8.c1) (v5 := .slice y8.a2 y8.new.length y8.c2) (prim_set6 (h := w.heap.size + 1 + 1) (v0 := .int .i64 y7.kind) (v1 := .string y7.p) (v2 := .string y7.dst) (v3 := .int .i64 y7.at_) (v4 := .slice y7.a1 y7.old.length y7.c1) (v5 := .slice y7.a2 y7.new.length y7.c2) SY.out (by omega)) (by omega)))))
          all_goals
            have HT := Lib.hid (two_set (w := w) (.bool true) (HA.out.trans (X8.out.mono HA.out.size)) (show w.heap.size ≤ w.heap.size + 1 + 1 by omega) (show w.heap.size ≤ w.heap.size + 1 + 1 + 1 by omega) (show w.heap.size + 1 + 1 ≠ w.heap.size + 1 + 1 + 1 by omega) (HG.out.on X8.out) (HH.out.on X8.out) (hy7.out.1.on hb8) hy8.out.1 hy7.out.2 hy8.out.2)
            have HT1 := Lib.hid HT.out.1
            have HT2 := Lib.hid HT.out.2.1
            have HT3 := Lib.hid HT.out.2.2
            clear HT S0 SX SY SA SB S7 hb7 S8 hb8 tya tza ya0 yaf0 ya1 yaf1 ya2 yaf2 ya3 yaf3 ya4 yaf4 ya5 yaf5 za0 zaf0 za1 zaf1 za2 zaf2 za3 zaf3 za4 zaf4 za5 zaf5
            go_wp2
            (try simp only [Exit.inBlock, Exit.then])
            refine bodyPost_ret (ret_prim3 rfl _ _ _ _ y7 y8 _ rfl rfl rfl HT2.out HT3.out) rfl ?_
            exact HT1.out
    · have k2 : (kind == 6) = false := by simpa using u2
      clear w2 w3 u1 u2
      go_enter Tryz.func70, Tryz.ntmps70
      go_wp2_with fail
      generalize ((((w.alloc (.cells #[.int .i64 kind, .string p, .string q, .int .i64 at_, .slice a1 old.length c1, .slice a2 new.length c2] 33)).alloc (.cells #[.int .i64 kind2, .string p2, .string q2, .int .i64 at2, .slice a3 old2.length c3, .slice a4 new2.length c4] 33)).alloc (.cells #[.int .i64 0, .string ⟨#[]⟩, .string ⟨#[]⟩, .int .i64 0, .slice none 0 0, .slice none 0 0] 33)).alloc (.cells #[.int .i64 0, .string ⟨#[]⟩, .string ⟨#[]⟩, .int .i64 0, .slice none 0 0, .slice none 0 0] 33)) = wa at *
      refine CF.out.mono ?_
      rintro e wb ⟨rfl, hb⟩
      replace HX := Lib.hid (HX.out.on hb)
      replace HY := Lib.hid (HY.out.on hb)
      replace HG := Lib.hid (HG.out.on hb)
      replace HH := Lib.hid (HH.out.on hb)
      replace HA := Lib.hid (HA.out.trans (hb.mono HA.out.size))
      clear hb
      clear CF
      have b0 := HX.out.c0
      have b1 := HX.out.c1
      have b2 := HX.out.c2
      have b3 := HX.out.c3
      have b4 := HX.out.c4
      have b5 := HX.out.c5
      have d0 := HY.out.c0
      have d1 := HY.out.c1
      have d2 := HY.out.c2
      have d3 := HY.out.c3
      have d4 := HY.out.c4
      have d5 := HY.out.c5
      go_wp2_with fail
      clear b0 b1 b2 b3 b4 b5 d0 d1 d2 d3 d4 d5
      refine (CP.out wb HA.out).mono ?_
      rintro e wc ⟨rfl, hb⟩
      replace HX := Lib.hid (HX.out.on hb)
      replace HY := Lib.hid (HY.out.on hb)
      replace HG := Lib.hid (HG.out.on hb)
      replace HH := Lib.hid (HH.out.on hb)
      replace HA := Lib.hid (HA.out.trans (hb.mono HA.out.size))
      clear hb
      clear CP
      cases ap
      · have ht := ht.out
        rw [if_neg (by simp)] at ht
        subst ht
        have g0 := HG.out.c0
        have gf0 := HG.out.fz 0
        have h0 := HH.out.c0
        have hf0 := HH.out.fz 0
        have g1 := HG.out.c1
        have gf1 := HG.out.fz 1
        have h1 := HH.out.c1
        have hf1 := HH.out.fz 1
        have g2 := HG.out.c2
        have gf2 := HG.out.fz 2
        have h2 := HH.out.c2
        have hf2 := HH.out.fz 2
        have g3 := HG.out.c3
        have gf3 := HG.out.fz 3
        have h3 := HH.out.c3
        have hf3 := HH.out.fz 3
        have g4 := HG.out.c4
        have gf4 := HG.out.fz 4
        have h4 := HH.out.c4
        have hf4 := HH.out.fz 4
        have g5 := HG.out.c5
        have gf5 := HG.out.fz 5
        have h5 := HH.out.c5
        have hf5 := HH.out.fz 5
        have HTW := Lib.hid (two_set (w := w) (.bool false) HA.out (show w.heap.size ≤ w.heap.size + 1 + 1 by omega) (show w.heap.size ≤ w.heap.size + 1 + 1 + 1 by omega) (show w.heap.size + 1 + 1 ≠ w.heap.size + 1 + 1 + 1 by omega) HG.out HH.out (sep_zero _) (sep_zero _) (rfl : _ = zeroP) (rfl : _ = zeroP))
        have HT1 := Lib.hid HTW.out.1
        have HT2 := Lib.hid HTW.out.2.1
        have HT3 := Lib.hid HTW.out.2.2
        clear HTW CC CC2
        go_wp2
        (try simp only [Exit.inBlock, Exit.then])
        refine bodyPost_ret (ret_prim3 rfl _ _ _ _ ⟨0, ⟨#[]⟩, ⟨#[]⟩, 0, none, 0, [], none, 0, []⟩ ⟨0, ⟨#[]⟩, ⟨#[]⟩, 0, none, 0, [], none, 0, []⟩ _ rfl rfl rfl HT2.out HT3.out) rfl ?_
        exact HT1.out
      · have ht := ht.out
        rw [if_pos rfl] at ht
        subst ht
        have b0 := HX.out.c0
        have b1 := HX.out.c1
        have b2 := HX.out.c2
        have b3 := HX.out.c3
        have b4 := HX.out.c4
        have b5 := HX.out.c5
        have d0 := HY.out.c0
        have d1 := HY.out.c1
        have d2 := HY.out.c2
        have d3 := HY.out.c3
        have d4 := HY.out.c4
        have d5 := HY.out.c5
        go_wp2_with fail
        clear b0 b1 b2 b3 b4 b5 d0 d1 d2 d3 d4 d5
        have CC2' := Lib.hid (fun W (hb : Below wc.heap.size wc W) => CC2.out W (HA.out.trans (hb.mono HA.out.size)))
        have CC' := Lib.hid (fun W (hb : Below wc.heap.size wc W) => CC.out W (HA.out.trans (hb.mono HA.out.size)))
        have HDR : Hid (Below wc.heap.size wc wc.drew) := (Below.refl _ _).drew
        have S0 := Lib.hid (six_six (HX.out.on HDR.out) (HY.out.on HDR.out))
        go_region_held3 (fun w' => w'.cell? ⟨w.heap.size, 0, none⟩ = some (.int .i64 kind) ∧ w'.cell? ⟨w.heap.size, 1, none⟩ = some (.string p) ∧ w'.cell? ⟨w.heap.size, 2, none⟩ = some (.string q) ∧ w'.cell? ⟨w.heap.size, 3, none⟩ = some (.int .i64 at_) ∧ w'.cell? ⟨w.heap.size, 4, none⟩ = some (.slice a1 old.length c1) ∧ w'.cell? ⟨w.heap.size, 5, none⟩ = some (.slice a2 new.length c2) ∧ w'.cell? ⟨w.heap.size + 1, 0, none⟩ = some (.int .i64 kind2) ∧ w'.cell? ⟨w.heap.size + 1, 1, none⟩ = some (.string p2) ∧ w'.cell? ⟨w.heap.size + 1, 2, none⟩ = some (.string q2) ∧ w'.cell? ⟨w.heap.size + 1, 3, none⟩ = some (.int .i64 at2) ∧ w'.cell? ⟨w.heap.size + 1, 4, none⟩ = some (.slice a3 old2.length c3) ∧ w'.cell? ⟨w.heap.size + 1, 5, none⟩ = some (.slice a4 new2.length c4)) (first
          | with_reducible exact S0.out
          | with_reducible exact S7.out
          | with_reducible exact S8.out
          | with_reducible exact SA.out
          | with_reducible exact SB.out
          | (go_keep; done)) (first
          | (go_at_call 116; (with_reducible refine (CC2'.out _ HDR.out).mono ?_); rintro e w7 ⟨y7, rfl, hy7, hb7⟩
             have X7 := Lib.hid (HDR.out.trans (hb7.mono HDR.out.size))
             have S7 := Lib.hid (six_six (HX.out.on X7.out) (HY.out.on X7.out)))
          | (go_at_call 116; (with_reducible refine (CC'.out _ X7.out).mono ?_); rintro e w8 ⟨y8, rfl, hy8, hb8⟩
             have X8 := Lib.hid (X7.out.trans (hb8.mono X7.out.size))
             have S8 := Lib.hid (six_six (HX.out.on X8.out) (HY.out.on X8.out))
             have SX := Lib.hid (HX.out.on X8.out)
             have SY := Lib.hid (HY.out.on X8.out)
             have tya := HG.out.on X8.out
             have ya0 := tya.c0
             have yaf0 := tya.fz 0
             have ya1 := tya.c1
             have yaf1 := tya.fz 1
             have ya2 := tya.c2
             have yaf2 := tya.fz 2
             have ya3 := tya.c3
             have yaf3 := tya.fz 3
             have ya4 := tya.c4
             have yaf4 := tya.fz 4
             have ya5 := tya.c5
             have yaf5 := tya.fz 5
             have tza := HH.out.on X8.out
             have za0 := tza.c0
             have zaf0 := tza.fz 0
             have za1 := tza.c1
             have zaf1 := tza.fz 1
             have za2 := tza.c2
             have zaf2 := tza.fz 2
             have za3 := tza.c3
             have zaf3 := tza.fz 3
             have za4 := tza.c4
             have zaf4 := tza.fz 4
             have za5 := tza.c5
             have zaf5 := tza.fz 5
             have SA := Lib.hid (six_six (prim_set6 (h := w.heap.size + 1 + 1) (v0 := .int .i64 y7.kind) (v1 := .string y7.p) (v2 := .string y7.dst) (v3 := .int .i64 y7.at_) (v4 := .slice y7.a1 y7.old.length y7.c1) (v5 := .slice y7.a2 y7.new.length y7.c2) SX.out (by omega)) (prim_set6 (h := w.heap.size + 1 + 1) (v0 := .int .i64 y7.kind) (v1 := .string y7.p) (v2 := .string y7.dst) (v3 := .int .i64 y7.at_) (v4 := .slice y7.a1 y7.old.length y7.c1) (v5 := .slice y7.a2 y7.new.length y7.c2) SY.out (by omega)))
             have SB := Lib.hid (six_six (prim_set6 (h := w.heap.size + 1 + 1 + 1) (v0 := .int .i64 y8.kind) (v1 := .string y8.p) (v2 := .string y8.dst) (v3 := .int .i64 y8.at_) (v4 := .slice y8.a1 y8.old.length y8.c1) (v5 := .slice y8.a2 y8.new.length y8.c2) (prim_set6 (h := w.heap.size + 1 + 1) (v0 := .int .i64 y7.kind) (v1 := .string y7.p) (v2 := .string y7.dst) (v3 := .int .i64 y7.at_) (v4 := .slice y7.a1 y7.old.length y7.c1) (v5 := .slice y7.a2 y7.new.length y7.c2) SX.out (by omega)) (by omega)) (prim_set6 (h := w.heap.size + 1 + 1 + 1) (v0 := .int .i64 y8.kind) (v1 := .string y8.p) (v2 := .string y8.dst) (v3 := .int .i64 y8.at_) (v4 := .slice y8.a1 y8.old.length y8.c1) (v5 := .slice y8.a2 y8.new.length y8.c2) (prim_set6 (h := w.heap.size + 1 + 1) (v0 := .int .i64 y7.kind) (v1 := .string y7.p) (v2 := .string y7.dst) (v3 := .int .i64 y7.at_) (v4 := .slice y7.a1 y7.old.length y7.c1) (v5 := .slice y7.a2 y7.new.length y7.c2) SY.out (by omega)) (by omega)))))
        all_goals
          have HT := Lib.hid (two_set (w := w) (.bool true) (HA.out.trans (X8.out.mono HA.out.size)) (show w.heap.size ≤ w.heap.size + 1 + 1 by omega) (show w.heap.size ≤ w.heap.size + 1 + 1 + 1 by omega) (show w.heap.size + 1 + 1 ≠ w.heap.size + 1 + 1 + 1 by omega) (HG.out.on X8.out) (HH.out.on X8.out) (hy7.out.1.on hb8) hy8.out.1 hy7.out.2 hy8.out.2)
          have HT1 := Lib.hid HT.out.1
          have HT2 := Lib.hid HT.out.2.1
          have HT3 := Lib.hid HT.out.2.2
          clear HT S0 SX SY SA SB S7 hb7 S8 hb8 tya tza ya0 yaf0 ya1 yaf1 ya2 yaf2 ya3 yaf3 ya4 yaf4 ya5 yaf5 za0 zaf0 za1 zaf1 za2 zaf2 za3 zaf3 za4 zaf4 za5 zaf5
          go_wp2
          (try simp only [Exit.inBlock, Exit.then])
          refine bodyPost_ret (ret_prim3 rfl _ _ _ _ y7 y8 _ rfl rfl rfl HT2.out HT3.out) rfl ?_
          exact HT1.out

end Go.Proofs.YtalabahjfmcnbaaGreatDoor
