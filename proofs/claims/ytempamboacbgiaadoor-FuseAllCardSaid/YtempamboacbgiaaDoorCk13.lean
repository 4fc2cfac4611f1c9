/- The reference's Touch of layer 9, Invert of layer 7. append of strings to an own row, at a step of a region that draws its order. A step of the call's own whose lines grow, in two rows apart; append, and where the new row lies. -/
import Derived.Test.YtempamboacbgiaaDoorCk11
import Derived.Test.YtempamboacbgiaaDoorCk12
import Derived.WalkKit
import Derived.Test.YtempamboacbgiaaDoorCk01
import Derived.Deep.AppendLies
import Derived.Test.YtempamboacbgiaaDoorCk04
import Derived.Maps.AppendAt
namespace Go.Proofs.YtempamboacbgiaaDoor
open Go.RowKit
set_option linter.unusedVariables false


theorem reflow_any (a b : Int) (w : World) : Calls Tryd.prog 26 #[.int .i64 a, .int .i64 b] w fun e w' => e = .returned (.int .i64 (min a b)) ∧ w' = w := by
  by_cases h : a < b
  · rw [show min a b = a by omega]
    go_enter Tryd.func26, Tryd.ntmps26
    go_wp2
    go_ret
    exact ⟨rfl, rfl⟩
  · rw [show min a b = b by omega]
    go_enter Tryd.func26, Tryd.ntmps26
    go_wp2
    go_ret
    exact ⟨rfl, rfl⟩

theorem refhigh_any (a b : Int) (w : World) : Calls Tryd.prog 27 #[.int .i64 a, .int .i64 b] w fun e w' => e = .returned (.int .i64 (max a b)) ∧ w' = w := by
  by_cases h : a > b
  · rw [show max a b = a by omega]
    go_enter Tryd.func27, Tryd.ntmps27
    go_wp2
    go_ret
    exact ⟨rfl, rfl⟩
  · rw [show max a b = b by omega]
    go_enter Tryd.func27, Tryd.ntmps27
    go_wp2
    go_ret
    exact ⟨rfl, rfl⟩

/-- The reference's Check of a step that comes of light ones. -/
theorem refck_w {x : Pm} {w : World} (ok : x.Ok w w.heap.size) (h : WdK x.key) (hT : Tabs w) : Calls Tryd.prog 23 #[x.val] w fun e w' => e = .returned (.int .i64 (ckP x.key)) ∧ Below w.heap.size w w' :=
  refckp_any x w ok h.old.1 h.new.1 h.old.2 h.new.2 hT
set_option maxHeartbeats 8000000 in
set_option maxRecDepth 100000 in
theorem reftouch_any (x y : Pm) (w : World) (ox : x.Ok w w.heap.size) (oy : y.Ok w w.heap.size) (wx : AtK x.key) (wy : AtK y.key) (hT : Tabs w) (r : Bool) (hr : touchP x.key y.key = r) :
    Calls Tryd.prog 13 #[x.val, y.val] w fun e w' => e = .returned (.bool r) ∧ Below w.heap.size w w' := by
  have C1 := Lib.hid (fun W (hb : Below w.heap.size w W) => refck_w (ox.on hb) wx.toWdK (Tabs.on hT hb))
  have C2 := Lib.hid (fun W (hb : Below w.heap.size w W) => refck_w (oy.on hb) wy.toWdK (Tabs.on hT hb))
  have H0 : Hid (¬ (x.kind = 6 ∧ y.kind = 6 ∧ x.p = y.p) → r = false) := fun h => by rw [← hr]; exact touch_not fun e => h ((one_iff x y).2 e)
  have H1 : Hid (¬ (ckP x.key = 0 ∧ ckP y.key = 0) → r = false) := fun h => by rw [← hr]; exact touch_wrong h
  have H2 : Hid (x.kind = 6 ∧ y.kind = 6 ∧ x.p = y.p → ckP x.key = 0 ∧ ckP y.key = 0 → (0 ≤ x.at_ ∧ 0 ≤ y.at_ ∧ x.new.length ≤ 2000 ∧ y.old.length ≤ 2000) ∧ decide (y.at_ ≤ x.at_ + x.new.length ∧ x.at_ ≤ y.at_ + y.old.length) = r) := by
    intro h k
    have e := (one_iff x y).1 h
    refine ⟨⟨(ck_nums k.1 e.1).1, (ck_nums k.2 e.2.1).1, (ck_nums k.1 e.1).2.2, (ck_nums k.2 e.2.1).2.1⟩, ?_⟩
    rw [← hr]
    exact (touch_iff k.1 k.2 e.1 e.2.1 e.2.2).symm
  have HI : Hid (x.at_ ≤ 1099511627776 ∧ y.at_ ≤ 1099511627776) := ⟨wx.hi, wy.hi⟩
  clear ox oy wx wy hT hr
  generalize ckP x.key = n1 at *
  generalize ckP y.key = n2 at *
  unfold Pm.val at C1 C2 ⊢
  obtain ⟨hal, hx, hy⟩ := box2 w x y
  have e0 : ((w.alloc (.cells x.cells.toArray 24)).alloc (.cells y.cells.toArray 24)) = ((w.alloc (.cells #[.int .i64 x.kind, .string x.p, .string x.dst, .int .i64 x.at_, .slice x.a1 x.old.length x.c1, .slice x.a2 x.new.length x.c2] 24)).alloc (.cells #[.int .i64 y.kind, .string y.p, .string y.dst, .int .i64 y.at_, .slice y.a1 y.old.length y.c1, .slice y.a2 y.new.length y.c2] 24)) := rfl
  rw [e0] at hal hx hy
  have HX := Lib.hid hx
  have HY := Lib.hid hy
  have HA := Lib.hid hal
  clear hal hx hy e0
  have x0 := HX.out.c0
  have x1 := HX.out.c1
  have x2 := HX.out.c2
  have x3 := HX.out.c3
  have x4 := HX.out.c4
  have x5 := HX.out.c5
  have y0 := HY.out.c0
  have y1 := HY.out.c1
  have y2 := HY.out.c2
  have y3 := HY.out.c3
  have y4 := HY.out.c4
  have y5 := HY.out.c5
  by_cases h1 : x.kind = 6
  · have k1 : (x.kind != 6) = false := by simpa using h1
    by_cases h2 : y.kind = 6
    · have k2 : (y.kind != 6) = false := by simpa using h2
      by_cases h3 : x.p = y.p
      · have k3 : (x.p.toList == y.p.toList) = true := by rw [h3]; simp
        have H2 := Lib.hid (H2.out ⟨h1, h2, h3⟩)
        clear H0 h1 h2 h3
        by_cases e1 : n1 = 0
        · have k4 : (n1 != 0) = false := by simpa using e1
          by_cases e2 : n2 = 0
          · have k5 : (n2 != 0) = false := by simpa using e2
            obtain ⟨⟨a1, a2, a3, a4⟩, a5⟩ := H2.out ⟨e1, e2⟩
            obtain ⟨b1, b2⟩ := HI.out
            subst e1; subst e2
            have hd : r = (decide (y.at_ - x.at_ ≤ x.new.length) && decide (x.at_ - y.at_ ≤ y.old.length)) := by
              rw [← a5, Bool.decide_and]
              congr 1
              · rw [decide_eq_decide]; omega
              · rw [decide_eq_decide]; omega
            have HD := Lib.hid hd
            clear H1 H2 a5 hd HI
            go_enter Tryd.func13, Tryd.ntmps13
            go_wp2_with fail
            generalize hwa : ((w.alloc (.cells #[.int .i64 x.kind, .string x.p, .string x.dst, .int .i64 x.at_, .slice x.a1 x.old.length x.c1, .slice x.a2 x.new.length x.c2] 24)).alloc (.cells #[.int .i64 y.kind, .string y.p, .string y.dst, .int .i64 y.at_, .slice y.a1 y.old.length y.c1, .slice y.a2 y.new.length y.c2] 24)) = wa at *
            clear hwa
            refine (C1.out _ HA.out).mono ?_
            rintro e w1 ⟨rfl, hb⟩
            clear x0 y0 x1 y1 x2 y2 x3 y3 x4 y4 x5 y5
            replace HX := Lib.hid (HX.out.on hb)
            replace HY := Lib.hid (HY.out.on hb)
            replace HA := Lib.hid (HA.out.trans (hb.mono HA.out.size))
            clear hb
            have x0 := HX.out.c0
            have x1 := HX.out.c1
            have x2 := HX.out.c2
            have x3 := HX.out.c3
            have x4 := HX.out.c4
            have x5 := HX.out.c5
            have y0 := HY.out.c0
            have y1 := HY.out.c1
            have y2 := HY.out.c2
            have y3 := HY.out.c3
            have y4 := HY.out.c4
            have y5 := HY.out.c5
            go_wp2_with fail
            refine (C2.out w1 HA.out).mono ?_
            rintro e w2 ⟨rfl, hb⟩
            replace HX := Lib.hid (HX.out.on hb)
            replace HY := Lib.hid (HY.out.on hb)
            replace HA := Lib.hid (HA.out.trans (hb.mono HA.out.size))
            clear hb
            clear x0 y0 x1 y1 x2 y2 x3 y3 x4 y4 x5 y5
            have x0 := HX.out.c0
            have x1 := HX.out.c1
            have x2 := HX.out.c2
            have x3 := HX.out.c3
            have x4 := HX.out.c4
            have x5 := HX.out.c5
            have y0 := HY.out.c0
            have y1 := HY.out.c1
            have y2 := HY.out.c2
            have y3 := HY.out.c3
            have y4 := HY.out.c4
            have y5 := HY.out.c5
            by_cases c1 : y.at_ - x.at_ ≤ x.new.length
            · have hr : r = decide (x.at_ - y.at_ ≤ y.old.length) := by rw [HD.out, decide_eq_true c1]; rfl
              have HR := Lib.hid hr
              clear C1 C2 HD hr
              go_wp2
              go_ret
              rw [HR.out]
              exact ⟨rfl, HA.out⟩
            · have hr : r = false := by rw [HD.out, decide_eq_false c1]; rfl
              subst hr
              clear C1 C2 HD
              go_wp2
              go_ret
              exact ⟨rfl, HA.out⟩
          · have k5 : (n2 != 0) = true := by simpa using e2
            have hf := H1.out (fun h => e2 h.2)
            subst hf
            subst e1
            clear H1 H2 e2
            go_enter Tryd.func13, Tryd.ntmps13
            go_wp2_with fail
            generalize hwa : ((w.alloc (.cells #[.int .i64 x.kind, .string x.p, .string x.dst, .int .i64 x.at_, .slice x.a1 x.old.length x.c1, .slice x.a2 x.new.length x.c2] 24)).alloc (.cells #[.int .i64 y.kind, .string y.p, .string y.dst, .int .i64 y.at_, .slice y.a1 y.old.length y.c1, .slice y.a2 y.new.length y.c2] 24)) = wa at *
            clear hwa
            refine (C1.out _ HA.out).mono ?_
            rintro e w1 ⟨rfl, hb⟩
            clear x0 y0 x1 y1 x2 y2 x3 y3 x4 y4 x5 y5
            replace HX := Lib.hid (HX.out.on hb)
            replace HY := Lib.hid (HY.out.on hb)
            replace HA := Lib.hid (HA.out.trans (hb.mono HA.out.size))
            clear hb
            have x0 := HX.out.c0
            have x1 := HX.out.c1
            have x2 := HX.out.c2
            have x3 := HX.out.c3
            have x4 := HX.out.c4
            have x5 := HX.out.c5
            have y0 := HY.out.c0
            have y1 := HY.out.c1
            have y2 := HY.out.c2
            have y3 := HY.out.c3
            have y4 := HY.out.c4
            have y5 := HY.out.c5
            go_wp2_with fail
            refine (C2.out w1 HA.out).mono ?_
            rintro e w2 ⟨rfl, hb⟩
            replace HX := Lib.hid (HX.out.on hb)
            replace HY := Lib.hid (HY.out.on hb)
            replace HA := Lib.hid (HA.out.trans (hb.mono HA.out.size))
            clear hb
            go_wp2
            go_ret
            exact ⟨rfl, HA.out⟩
        · have k4 : (n1 != 0) = true := by simpa using e1
          have hf := H1.out (fun h => e1 h.1)
          subst hf
          clear H1 H2 e1
          go_enter Tryd.func13, Tryd.ntmps13
          go_wp2_with fail
          generalize hwa : ((w.alloc (.cells #[.int .i64 x.kind, .string x.p, .string x.dst, .int .i64 x.at_, .slice x.a1 x.old.length x.c1, .slice x.a2 x.new.length x.c2] 24)).alloc (.cells #[.int .i64 y.kind, .string y.p, .string y.dst, .int .i64 y.at_, .slice y.a1 y.old.length y.c1, .slice y.a2 y.new.length y.c2] 24)) = wa at *
          clear hwa
          refine (C1.out _ HA.out).mono ?_
          rintro e w1 ⟨rfl, hb⟩
          clear x0 y0 x1 y1 x2 y2 x3 y3 x4 y4 x5 y5
          replace HX := Lib.hid (HX.out.on hb)
          replace HY := Lib.hid (HY.out.on hb)
          replace HA := Lib.hid (HA.out.trans (hb.mono HA.out.size))
          clear hb
          go_wp2
          go_ret
          exact ⟨rfl, HA.out⟩
      · have k3 : (x.p.toList == y.p.toList) = false := str_ne h3
        have hf := H0.out (fun h => h3 h.2.2)
        subst hf
        clear h1 h2 h3 H0 H1 H2
        go_enter Tryd.func13, Tryd.ntmps13
        go_wp2
        go_ret
        exact ⟨rfl, HA.out⟩
    · have k2 : (y.kind != 6) = true := by simpa using h2
      have hf := H0.out (fun h => h2 h.2.1)
      subst hf
      clear h1 h2 H0 H1 H2
      go_enter Tryd.func13, Tryd.ntmps13
      go_wp2
      go_ret
      exact ⟨rfl, HA.out⟩
  · have k1 : (x.kind != 6) = true := by simpa using h1
    have hf := H0.out (fun h => h1 h.1)
    subst hf
    clear h1 H0 H1 H2
    go_enter Tryd.func13, Tryd.ntmps13
    go_wp2
    go_ret
    exact ⟨rfl, HA.out⟩

theorem inv_boxes (w : World) (x z y : Pm) (ks : Array Value) : Below w.heap.size w ((((w.alloc (.cells x.cells.toArray 24)).alloc (.cells z.cells.toArray 24)).alloc (.cells ks 3)).alloc (.cells y.cells.toArray 24)) ∧ PrimAt ((((w.alloc (.cells x.cells.toArray 24)).alloc (.cells z.cells.toArray 24)).alloc (.cells ks 3)).alloc (.cells y.cells.toArray 24)) (w.heap.size + 1) z := by
  obtain ⟨a1, a2, a3⟩ := box2 w x z
  generalize ((w.alloc (.cells x.cells.toArray 24)).alloc (.cells z.cells.toArray 24)) = w2 at *
  have b1 : Below w2.heap.size w2 (w2.alloc (.cells ks 3)) := (Below.refl _ _).alloc (Nat.le_refl _) _
  have b := b1.alloc b1.size (.cells y.cells.toArray 24)
  exact ⟨a1.trans (b.mono a1.size), a3.on b⟩
/-- What Invert of the reference hands back. -/
def InvLeft (w : World) (k : Pk) (e : Ending) (w' : World) : Prop :=
  ∃ z : Pm, e = .returned (.agg #[.int .i64 z.kind, .string z.p, .string z.dst, .int .i64 z.at_, .slice z.a1 z.old.length z.c1, .slice z.a2 z.new.length z.c2]) ∧ Hid (z.Ok w' w'.heap.size ∧ z.key = k) ∧ Below w.heap.size w w'

set_option maxHeartbeats 8000000 in
set_option maxRecDepth 100000 in
theorem refinv_any (x : Pm) (w : World) (ox : x.Ok w w.heap.size) (hc : ckP x.key = 0) (hk : x.kind = 1 ∨ x.kind = 3 ∨ x.kind = 5) :
    Calls Tryd.prog 24 #[x.val] w (InvLeft w (invP x.key)) := by
  obtain ⟨kind, p, q, at_, a1, c1, old, a2, c2, new⟩ := x
  unfold Pm.val
  simp only [] at hk ⊢
  have hf := ck_facts hc
  simp only [Pm.key] at hf
  obtain ⟨_, _, hdst, hbare, _⟩ := hf
  have OX := Lib.hid ox
  have HDB : Hid ((kind ≠ 5 → q.data.toList = []) ∧ (kind ≠ 6 → at_ = 0 ∧ old = [] ∧ new = [])) := ⟨hdst, hbare⟩
  clear hdst hbare hc ox
  rcases hk with rfl | rfl | rfl

  · have hb := inv_boxes w ⟨1, p, q, at_, a1, c1, old, a2, c2, new⟩ ⟨2, p, q, at_, a2, c2, new, a1, c1, old⟩ ⟨2, p, q, at_, a2, c2, new, a1, c1, old⟩ #[.int .i64 0, .int .i64 2, .int .i64 1, .int .i64 4, .int .i64 3, .int .i64 5, .int .i64 6]
    have HF : Hid (InvLeft w (invP (Pm.key ⟨1, p, q, at_, a1, c1, old, a2, c2, new⟩)) (.returned (.agg #[.int .i64 2, .string p, .string q, .int .i64 at_, .slice a2 new.length c2, .slice a1 old.length c1])) ((((w.alloc (.cells #[.int .i64 1, .string p, .string q, .int .i64 at_, .slice a1 old.length c1, .slice a2 new.length c2] 24)).alloc (.cells #[.int .i64 2, .string p, .string q, .int .i64 at_, .slice a2 new.length c2, .slice a1 old.length c1] 24)).alloc (.cells #[.int .i64 0, .int .i64 2, .int .i64 1, .int .i64 4, .int .i64 3, .int .i64 5, .int .i64 6] 3)).alloc (.cells #[.int .i64 2, .string p, .string q, .int .i64 at_, .slice a2 new.length c2, .slice a1 old.length c1] 24))) := by
      have o := OX.out.on hb.1
      exact ⟨⟨2, p, q, at_, a2, c2, new, a1, c1, old⟩, rfl, ⟨⟨⟨o.h.new, o.h.old, o.h.r2, o.h.r1, o.h.lo, o.h.hi, o.h.n2, o.h.n1⟩, o.p, o.q, by show (-9223372036854775808 : Int) ≤ 2; decide, by show (2 : Int) ≤ _; decide⟩, by simp [Pm.key, invP, kindP]⟩, hb.1⟩
    have HP : Hid (PrimAt ((((w.alloc (.cells #[.int .i64 1, .string p, .string q, .int .i64 at_, .slice a1 old.length c1, .slice a2 new.length c2] 24)).alloc (.cells #[.int .i64 2, .string p, .string q, .int .i64 at_, .slice a2 new.length c2, .slice a1 old.length c1] 24)).alloc (.cells #[.int .i64 0, .int .i64 2, .int .i64 1, .int .i64 4, .int .i64 3, .int .i64 5, .int .i64 6] 3)).alloc (.cells #[.int .i64 2, .string p, .string q, .int .i64 at_, .slice a2 new.length c2, .slice a1 old.length c1] 24)) (w.heap.size + 1) ⟨2, p, q, at_, a2, c2, new, a1, c1, old⟩) := hb.2
    clear hb
    go_enter Tryd.func24, Tryd.ntmps24
    go_wp2
    (try simp only [Exit.inBlock, Exit.then])
    refine bodyPost_ret (ret_prim rfl _ _ _ ⟨2, p, q, at_, a2, c2, new, a1, c1, old⟩ rfl HP.out) rfl ?_
    exact HF.out

  · have hb := inv_boxes w ⟨3, p, q, at_, a1, c1, old, a2, c2, new⟩ ⟨4, p, q, at_, a2, c2, new, a1, c1, old⟩ ⟨4, p, q, at_, a2, c2, new, a1, c1, old⟩ #[.int .i64 0, .int .i64 2, .int .i64 1, .int .i64 4, .int .i64 3, .int .i64 5, .int .i64 6]
    have HF : Hid (InvLeft w (invP (Pm.key ⟨3, p, q, at_, a1, c1, old, a2, c2, new⟩)) (.returned (.agg #[.int .i64 4, .string p, .string q, .int .i64 at_, .slice a2 new.length c2, .slice a1 old.length c1])) ((((w.alloc (.cells #[.int .i64 3, .string p, .string q, .int .i64 at_, .slice a1 old.length c1, .slice a2 new.length c2] 24)).alloc (.cells #[.int .i64 4, .string p, .string q, .int .i64 at_, .slice a2 new.length c2, .slice a1 old.length c1] 24)).alloc (.cells #[.int .i64 0, .int .i64 2, .int .i64 1, .int .i64 4, .int .i64 3, .int .i64 5, .int .i64 6] 3)).alloc (.cells #[.int .i64 4, .string p, .string q, .int .i64 at_, .slice a2 new.length c2, .slice a1 old.length c1] 24))) := by
      have o := OX.out.on hb.1
      exact ⟨⟨4, p, q, at_, a2, c2, new, a1, c1, old⟩, rfl, ⟨⟨⟨o.h.new, o.h.old, o.h.r2, o.h.r1, o.h.lo, o.h.hi, o.h.n2, o.h.n1⟩, o.p, o.q, by show (-9223372036854775808 : Int) ≤ 4; decide, by show (4 : Int) ≤ _; decide⟩, by simp [Pm.key, invP, kindP]⟩, hb.1⟩
    have HP : Hid (PrimAt ((((w.alloc (.cells #[.int .i64 3, .string p, .string q, .int .i64 at_, .slice a1 old.length c1, .slice a2 new.length c2] 24)).alloc (.cells #[.int .i64 4, .string p, .string q, .int .i64 at_, .slice a2 new.length c2, .slice a1 old.length c1] 24)).alloc (.cells #[.int .i64 0, .int .i64 2, .int .i64 1, .int .i64 4, .int .i64 3, .int .i64 5, .int .i64 6] 3)).alloc (.cells #[.int .i64 4, .string p, .string q, .int .i64 at_, .slice a2 new.length c2, .slice a1 old.length c1] 24)) (w.heap.size + 1) ⟨4, p, q, at_, a2, c2, new, a1, c1, old⟩) := hb.2
    clear hb
    go_enter Tryd.func24, Tryd.ntmps24
    go_wp2
    (try simp only [Exit.inBlock, Exit.then])
    refine bodyPost_ret (ret_prim rfl _ _ _ ⟨4, p, q, at_, a2, c2, new, a1, c1, old⟩ rfl HP.out) rfl ?_
    exact HF.out

  · have hb := inv_boxes w ⟨5, p, q, at_, a1, c1, old, a2, c2, new⟩ ⟨5, q, p, at_, a2, c2, new, a1, c1, old⟩ ⟨5, q, p, at_, a2, c2, new, a1, c1, old⟩ #[.int .i64 0, .int .i64 2, .int .i64 1, .int .i64 4, .int .i64 3, .int .i64 5, .int .i64 6]
    have HF : Hid (InvLeft w (invP (Pm.key ⟨5, p, q, at_, a1, c1, old, a2, c2, new⟩)) (.returned (.agg #[.int .i64 5, .string q, .string p, .int .i64 at_, .slice a2 new.length c2, .slice a1 old.length c1])) ((((w.alloc (.cells #[.int .i64 5, .string p, .string q, .int .i64 at_, .slice a1 old.length c1, .slice a2 new.length c2] 24)).alloc (.cells #[.int .i64 5, .string q, .string p, .int .i64 at_, .slice a2 new.length c2, .slice a1 old.length c1] 24)).alloc (.cells #[.int .i64 0, .int .i64 2, .int .i64 1, .int .i64 4, .int .i64 3, .int .i64 5, .int .i64 6] 3)).alloc (.cells #[.int .i64 5, .string q, .string p, .int .i64 at_, .slice a2 new.length c2, .slice a1 old.length c1] 24))) := by
      have o := OX.out.on hb.1
      exact ⟨⟨5, q, p, at_, a2, c2, new, a1, c1, old⟩, rfl, ⟨⟨⟨o.h.new, o.h.old, o.h.r2, o.h.r1, o.h.lo, o.h.hi, o.h.n2, o.h.n1⟩, o.q, o.p, by show (-9223372036854775808 : Int) ≤ 5; decide, by show (5 : Int) ≤ _; decide⟩, by simp [Pm.key, invP, kindP]⟩, hb.1⟩
    have HP : Hid (PrimAt ((((w.alloc (.cells #[.int .i64 5, .string p, .string q, .int .i64 at_, .slice a1 old.length c1, .slice a2 new.length c2] 24)).alloc (.cells #[.int .i64 5, .string q, .string p, .int .i64 at_, .slice a2 new.length c2, .slice a1 old.length c1] 24)).alloc (.cells #[.int .i64 0, .int .i64 2, .int .i64 1, .int .i64 4, .int .i64 3, .int .i64 5, .int .i64 6] 3)).alloc (.cells #[.int .i64 5, .string q, .string p, .int .i64 at_, .slice a2 new.length c2, .slice a1 old.length c1] 24)) (w.heap.size + 1) ⟨5, q, p, at_, a2, c2, new, a1, c1, old⟩) := hb.2
    clear hb
    go_enter Tryd.func24, Tryd.ntmps24
    go_wp2
    (try simp only [Exit.inBlock, Exit.then])
    refine bodyPost_ret (ret_prim rfl _ _ _ ⟨5, q, p, at_, a2, c2, new, a1, c1, old⟩ rfl HP.out) rfl ?_
    exact HF.out

end Go.Proofs.YtempamboacbgiaaDoor
namespace Go.Proofs.YtempamboacbgiaaDoor
open Go.RowKit
set_option linter.unusedVariables false

theorem step_append_strs {w : World} {ops : Array Oper} {o : Oper} {a : Act} {K : Act → World → Prop} {Q : Exit → Act → World → Prop} {E : Prop} (hgd : o.guard = none) (s x : Operand)
    (ho : o.op = .call { callee := .builtin .append, args := #[s, x], argTypes := #[22, 22] })
    (B : Nat) (v : Value) (ls tt : List (List UInt8)) (hs : a.eval s = v) (hown : OwnS w B v ls) (A : Option Addr) (cap n : Nat) (hx : a.eval x = .slice A n cap) (hn : n = tt.length) (hnil : A = none → cap = 0) (ht : Strs w w.heap.size A (toBs tt)) (hB : B ≤ w.heap.size) (hle : ls.length + tt.length ≤ 1000000)
    (h : ∀ v' w', OwnS w' B v' (ls ++ tt) → w.grownBy w' v.ownBlock → K (a.put o.dst v') w') : if Region.wanted o (yielded ops a.tmps) = true then Oper.wp Tryd.prog o a w K Q else E := by
  have hw : Region.wanted o (yielded ops a.tmps) = true := by simp [Region.wanted, hgd]
  rw [if_pos hw]
  subst hn
  obtain ⟨i0, hi, hz0, hz1, hz2⟩ := info_parts info_str
  cases A with
  | none =>
    have h0 : tt = [] := by
      cases tt with
      | nil => rfl
      | cons y r => exact absurd (ht (by simp [toBs])) (by rintro ⟨_, _, e, _⟩; cases e)
    subst h0
    rw [hnil rfl] at hx
    have hrun := run_append_owned_none (P := Tryd.prog) (w := w) B 22 o.type 9 i0 1 Tryd.underlying22 hi v _ _ hown
    have hk := h v w (by simpa using hown) ⟨rfl, rfl, rfl, Nat.le_refl _, fun _ _ _ => rfl⟩
    unfold Oper.wp
    simp [execOp, ho, resolve, invoke, builtin, hs, hx, hrun, Result.andThen]
    exact hk
  | some ad =>
    refine wp_append_own w s x 22 ho B 9 i0 (.string ByteArray.empty) 1 16 Tryd.underlying22 hi hz0 hz1 hz2 rfl (by decide) v ls.length (ls.map encStr) hs hown ad tt.length cap (tt.map encStr) hx (by simp) ?_ (oneCell_str tt) (by unfold maxLen; omega) (by omega) hB ?_
    · intro j u hu
      obtain ⟨hj, hju⟩ := List.getElem?_eq_some_iff.1 hu
      have hj2 : j < tt.length := by simpa using hj
      obtain ⟨b, off, e, hb, hc⟩ := ht (by rw [toBs_len]; omega)
      simp only [Option.some.injEq] at e
      subst e
      have hadd : (⟨b, off, none⟩ : Addr).add j = ⟨b, off + j, none⟩ := by unfold Addr.add; split <;> simp_all
      rw [hadd, hc j (by rw [toBs_len]; exact hj2), ← hju]
      simp [toBs, encStr_eq]
    · intro v' w' hown' hgrow _
      refine h v' w' ?_ hgrow
      unfold OwnS
      rw [List.length_append, List.map_append]
      exact hown'
end Go.Proofs.YtempamboacbgiaaDoor
namespace Go.Proofs.YtempamboacbgiaaDoor
open Go.RowKit
set_option linter.unusedVariables false

theorem run_append_strs_at {w : World} (ty : TypeId) (B : Nat) (v : Value) (ls tt : List (List UInt8)) (hown : OwnS w B v ls) (A : Option Addr) (cap : Nat) (hnil : A = none → cap = 0) (ht : Strs w w.heap.size A (toBs tt)) (hB : B ≤ w.heap.size) (hle : ls.length + tt.length ≤ 1000000) :
    ∃ v' w', (Builtin.append_ #[22, 22] ty #[v, .slice A tt.length cap]).run Tryd.prog w = .ok v' w' ∧ OwnS w' B v' (ls ++ tt) ∧ w.grownBy w' v.ownBlock ∧ (v'.ownBlock = v.ownBlock ∨ v'.ownBlock = some w.heap.size) := by
  obtain ⟨i0, hi, hz0, hz1, hz2⟩ := info_parts info_str
  cases A with
  | none =>
    have h0 : tt = [] := by
      cases tt with
      | nil => rfl
      | cons y r => exact absurd (ht (by simp [toBs])) (by rintro ⟨_, _, e, _⟩; cases e)
    subst h0
    rw [hnil rfl]
    have hrun := run_append_owned_none (P := Tryd.prog) (w := w) B 22 ty 9 i0 1 Tryd.underlying22 hi v _ _ hown
    exact ⟨v, w, hrun, by simpa using hown, ⟨rfl, rfl, rfl, Nat.le_refl _, fun _ _ _ => rfl⟩, .inl rfl⟩
  | some ad =>
    obtain ⟨v', w', hr, h2, h3, _, h5⟩ := run_append_own_at (P := Tryd.prog) w B 22 ty 9 i0 (.string ByteArray.empty) 1 16 Tryd.underlying22 hi hz0 hz1 hz2 rfl (by decide) v ls.length (ls.map encStr) hown ad tt.length cap (tt.map encStr) (by simp) (by
      intro j u hu
      obtain ⟨hj, hju⟩ := List.getElem?_eq_some_iff.1 hu
      have hj2 : j < tt.length := by simpa using hj
      obtain ⟨b, off, e, hb, hc⟩ := ht (by rw [toBs_len]; omega)
      simp only [Option.some.injEq] at e
      subst e
      have hadd : (⟨b, off, none⟩ : Addr).add j = ⟨b, off + j, none⟩ := by unfold Addr.add; split <;> simp_all
      rw [hadd, hc j (by rw [toBs_len]; exact hj2), ← hju]
      simp [toBs, encStr_eq]) (oneCell_str tt) (by unfold maxLen; omega) (by omega) hB
    refine ⟨v', w', hr, ?_, h3, h5⟩
    unfold OwnS
    rw [List.length_append, List.map_append]
    exact h2
theorem wpList_append_at {w : World} {ops : Array Oper} {rest : List Oper} {o : Oper} {a : Act} {Q : Exit → Act → World → Prop} (hgd : o.guard = none) (s x : Operand)
    (ho : o.op = .call { callee := .builtin .append, args := #[s, x], argTypes := #[22, 22] })
    (B : Nat) (v : Value) (ls tt : List (List UInt8)) (hs : a.eval s = v) (hown : OwnS w B v ls) (A : Option Addr) (cap n : Nat) (hx : a.eval x = .slice A n cap) (hn : n = tt.length) (hnil : A = none → cap = 0) (ht : Strs w w.heap.size A (toBs tt)) (hB : B ≤ w.heap.size) (hle : ls.length + tt.length ≤ 1000000)
    (m : Nat) (hm : m = ls.length + tt.length)
    (h : ∀ A' cap' w', OwnS w' B (.slice A' m cap') (ls ++ tt) → w.grownBy w' v.ownBlock → ((Value.slice A' m cap').ownBlock = v.ownBlock ∨ (Value.slice A' m cap').ownBlock = some w.heap.size) → wpList Tryd.prog ops Q rest (a.put o.dst (.slice A' m cap')) w') : wpList Tryd.prog ops Q (o :: rest) a w := by
  subst hn
  obtain ⟨v', w', hr, h2, h3, h4⟩ := run_append_strs_at (w := w) o.type B v ls tt hown A cap hnil ht hB hle
  obtain ⟨A', cap', rfl, _, _, _⟩ := h2.strs
  have e : (ls ++ tt).length = m := by rw [List.length_append, hm]
  rw [e] at h2 h4 hr
  refine wpList_plain hgd fun _ hK => ?_
  unfold Oper.wp execOp
  simp only [ho, resolve, invoke, builtin, Sem.run_bind, Sem.run_pure, Result.andThen_ok, List.map_toArray, List.map_cons, List.map_nil, hs, hx, hr]
  exact hK _ _ (h A' cap' w' h2 h3 h4)
theorem ownS_keptBy {w w' : World} {B : Nat} {v : Value} {ls : List (List UInt8)} {row : Option Nat} (o : OwnS w B v ls) (hg : w.grownBy w' row) (hr : ∀ g, row = some g → v.ownBlock ≠ some g) : OwnS w' B v ls :=
  World.ownsRow.kept o hg (by
    cases hv : v.ownBlock with
    | none => exact .inl rfl
    | some k => exact .inr fun e => hr k e.symm (by rw [hv]))
def Pm.v1 (z : Pm) : Value := .slice z.a1 z.old.length z.c1
def Pm.v2 (z : Pm) : Value := .slice z.a2 z.new.length z.c2
/-- A step in block G whose lines lie in rows of the call's own, apart. -/
structure Fz (w : World) (G : Nat) (z : Pm) : Prop where
  at_ : PrimAt w G z
  o1 : OwnS w (G + 1) z.v1 z.old
  o2 : OwnS w (G + 1) z.v2 z.new
  apart : ∀ k, z.v1.ownBlock = some k → z.v2.ownBlock ≠ some k
theorem Fz.on {w w' : World} {G : Nat} {z : Pm} (k : Fz w G z) (hb : Below w.heap.size w w') : Fz w' G z := ⟨k.at_.on hb, k.o1.kept hb, k.o2.kept hb, k.apart⟩
theorem pm_at4 {w : World} {g : Nat} {z : Pm} (k : PrimAt w g z) (A : Option Addr) (c : Nat) (ls : List (List UInt8)) : PrimAt (w.setCell ⟨g, 4, none⟩ (.slice A ls.length c)) g { z with a1 := A, c1 := c, old := ls } := by
  unfold PrimAt at k ⊢
  simp [World.setCell, Array.getElem?_modify, k, Pm.cells]
theorem pm_at5 {w : World} {g : Nat} {z : Pm} (k : PrimAt w g z) (A : Option Addr) (c : Nat) (ls : List (List UInt8)) : PrimAt (w.setCell ⟨g, 5, none⟩ (.slice A ls.length c)) g { z with a2 := A, c2 := c, new := ls } := by
  unfold PrimAt at k ⊢
  simp [World.setCell, Array.getElem?_modify, k, Pm.cells]
/-- Lines go. -/
theorem Fz.goes {w w' : World} {G : Nat} {z : Pm} (k : Fz w G z) {tt : List (List UInt8)} {A' : Option Addr} {c' m : Nat} (hm : m = z.old.length + tt.length) (ho : OwnS w' (G + 1) (.slice A' m c') (z.old ++ tt)) (hg : w.grownBy w' z.v1.ownBlock) (hat : (Value.slice A' m c').ownBlock = z.v1.ownBlock ∨ (Value.slice A' m c').ownBlock = some w.heap.size) :
    Fz (w'.setCell ⟨G, 4, none⟩ (.slice A' m c')) G { z with a1 := A', c1 := c', old := z.old ++ tt } ∧ Below G w (w'.setCell ⟨G, 4, none⟩ (.slice A' m c')) := by
  obtain rfl : m = (z.old ++ tt).length := by rw [List.length_append]; exact hm
  have hs := grown_cell w' G 4 (.slice A' (z.old ++ tt).length c')
  have hge : ∀ j, z.v1.ownBlock = some j → G + 1 ≤ j := fun j e => ownBlock_ge k.o1 j e
  have at1 : PrimAt w' G z := k.at_.grown hg fun e => by have := hge G e; omega
  have o2 : OwnS w' (G + 1) z.v2 z.new := ownS_keptBy k.o2 hg fun j e => k.apart j e
  have hn : ∀ {v : Value} {ls : List (List UInt8)}, OwnS w' (G + 1) v ls → ∀ g, some G = some g → v.ownBlock ≠ some g := fun h g e e2 => by
    have := ownBlock_ge h g e2
    simp only [Option.some.injEq] at e
    omega
  have hlt := k.at_.lt
  refine ⟨⟨pm_at4 at1 A' c' _, ownS_keptBy ho hs (hn ho), ownS_keptBy o2 hs (hn o2), fun j hj => ?_⟩, ?_⟩
  · show z.v2.ownBlock ≠ some j
    rcases hat with h | h
    · exact k.apart j (h.symm.trans hj)
    · have e : j = w.heap.size := by
        have := h.symm.trans hj
        simpa using this.symm
      intro e2
      have := (World.ownsRow.lt k.o2 j e2).2
      omega
  · exact ((Below.refl G w).grown hg (Nat.le_of_lt hlt) fun j e => by have := hge j e; omega).setCell (Nat.le_refl _) _
/-- Lines come. -/
theorem Fz.comes {w w' : World} {G : Nat} {z : Pm} (k : Fz w G z) {tt : List (List UInt8)} {A' : Option Addr} {c' m : Nat} (hm : m = z.new.length + tt.length) (ho : OwnS w' (G + 1) (.slice A' m c') (z.new ++ tt)) (hg : w.grownBy w' z.v2.ownBlock) (hat : (Value.slice A' m c').ownBlock = z.v2.ownBlock ∨ (Value.slice A' m c').ownBlock = some w.heap.size) :
    Fz (w'.setCell ⟨G, 5, none⟩ (.slice A' m c')) G { z with a2 := A', c2 := c', new := z.new ++ tt } ∧ Below G w (w'.setCell ⟨G, 5, none⟩ (.slice A' m c')) := by
  obtain rfl : m = (z.new ++ tt).length := by rw [List.length_append]; exact hm
  have hs := grown_cell w' G 5 (.slice A' (z.new ++ tt).length c')
  have hge : ∀ j, z.v2.ownBlock = some j → G + 1 ≤ j := fun j e => ownBlock_ge k.o2 j e
  have at1 : PrimAt w' G z := k.at_.grown hg fun e => by have := hge G e; omega
  have o1 : OwnS w' (G + 1) z.v1 z.old := ownS_keptBy k.o1 hg fun j e e2 => k.apart j e2 e
  have hn : ∀ {v : Value} {ls : List (List UInt8)}, OwnS w' (G + 1) v ls → ∀ g, some G = some g → v.ownBlock ≠ some g := fun h g e e2 => by
    have := ownBlock_ge h g e2
    simp only [Option.some.injEq] at e
    omega
  have hlt := k.at_.lt
  refine ⟨⟨pm_at5 at1 A' c' _, ownS_keptBy o1 hs (hn o1), ownS_keptBy ho hs (hn ho), fun j hj => ?_⟩, ?_⟩
  · have hj : z.v1.ownBlock = some j := hj
    intro e2
    have e2 : (Value.slice A' (z.new ++ tt).length c').ownBlock = some j := e2
    rcases hat with h | h
    · exact k.apart j hj (h.symm.trans e2)
    · have e : w.heap.size = j := by
        have := h.symm.trans e2
        simpa using this
      have := (World.ownsRow.lt k.o1 j hj).2
      omega
  · exact ((Below.refl G w).grown hg (Nat.le_of_lt hlt) fun j e => by have := hge j e; omega).setCell (Nat.le_refl _) _
theorem PrimAt.under {w w' : World} {g G : Nat} {x : Pm} (k : PrimAt w g x) (hb : Below G w w') (hg : g < G) : PrimAt w' g x := (hb.block g hg).trans k
end Go.Proofs.YtempamboacbgiaaDoor
