/- Package prim's Same, SameAll. -/
import Derived.Test.YtempamboacbgiaaDoorCk09
import Derived.Test.YtempamboacbgiaaDoorCk04
namespace Go.Proofs.YtempamboacbgiaaDoor
open Go.RowKit
set_option linter.unusedVariables false

set_option maxHeartbeats 8000000 in
set_option maxRecDepth 100000 in
theorem psame_any (x y : Pm) (w : World) (d : Bool) (hd : decide (x.key = y.key) = d) (xo : x.Ok w w.heap.size) (yo : y.Ok w w.heap.size) (m1 : x.old.length ≤ 1000000) (m2 : x.new.length ≤ 1000000) (n1 : y.old.length ≤ 1000000) (n2 : y.new.length ≤ 1000000) :
    Calls Tryd.prog 36 #[x.val, y.val] w fun e w' => e = .returned (.bool d) ∧ Below w.heap.size w w' := by
  have hk : (x.key = y.key) ↔ (x.kind = y.kind ∧ x.p = y.p ∧ x.dst = y.dst ∧ x.at_ = y.at_ ∧ x.old = y.old ∧ x.new = y.new) := by
    unfold Pm.key
    simp only [Pk.mk.injEq]
    exact ⟨fun ⟨a, b, c, d, e, f⟩ => ⟨a, bytes_inj b, bytes_inj c, d, e, f⟩, fun ⟨a, b, c, d, e, f⟩ => ⟨a, by rw [b], by rw [c], d, e, f⟩⟩
  have hal : Below w.heap.size w ((w.alloc (.cells #[.int .i64 x.kind, .string x.p, .string x.dst, .int .i64 x.at_, .slice x.a1 x.old.length x.c1, .slice x.a2 x.new.length x.c2] 24)).alloc (.cells #[.int .i64 y.kind, .string y.p, .string y.dst, .int .i64 y.at_, .slice y.a1 y.old.length y.c1, .slice y.a2 y.new.length y.c2] 24)) := ((Below.refl _ _).alloc (Nat.le_refl _) _).alloc (by simp) _
  have C1 := lsame_q x.a1 y.a1 x.old y.old x.c1 y.c1 ((w.alloc (.cells #[.int .i64 x.kind, .string x.p, .string x.dst, .int .i64 x.at_, .slice x.a1 x.old.length x.c1, .slice x.a2 x.new.length x.c2] 24)).alloc (.cells #[.int .i64 y.kind, .string y.p, .string y.dst, .int .i64 y.at_, .slice y.a1 y.old.length y.c1, .slice y.a2 y.new.length y.c2] 24)) _ rfl (xo.on hal).h.old (yo.on hal).h.old m1 n1
  have C2 := fun q => lsame_qq x.a2 y.a2 x.new y.new x.c2 y.c2 ((w.alloc (.cells #[.int .i64 x.kind, .string x.p, .string x.dst, .int .i64 x.at_, .slice x.a1 x.old.length x.c1, .slice x.a2 x.new.length x.c2] 24)).alloc (.cells #[.int .i64 y.kind, .string y.p, .string y.dst, .int .i64 y.at_, .slice y.a1 y.old.length y.c1, .slice y.a2 y.new.length y.c2] 24)) _ rfl (xo.on hal).h.new (yo.on hal).h.new m2 n2 q
  have HA := Lib.hid hal
  clear xo yo hal m1 m2 n1 n2
  unfold Pm.val
  by_cases h1 : x.kind = y.kind
  · by_cases h2 : x.p = y.p
    · by_cases h3 : x.dst = y.dst
      · by_cases h4 : x.at_ = y.at_
        · have e1 : d = (decide (x.old = y.old) && decide (x.new = y.new)) := by
            rw [← hd, ← Bool.decide_and]
            congr 1
            exact propext ⟨fun h => ⟨(hk.1 h).2.2.2.2.1, (hk.1 h).2.2.2.2.2⟩, fun h => hk.2 ⟨h1, h2, h3, h4, h.1, h.2⟩⟩
          have HE := Lib.hid e1
          have s1 : (x.kind == y.kind) = true := by simpa using h1
          have s2 : (x.p.toList == y.p.toList) = true := by rw [str_beq]; exact decide_eq_true h2
          have s3 : (x.dst.toList == y.dst.toList) = true := by rw [str_beq]; exact decide_eq_true h3
          have s4 : (x.at_ == y.at_) = true := by simpa using h4
          clear hk hd h1 h2 h3 h4 e1
          generalize decide (x.old = y.old) = o1 at *
          generalize decide (x.new = y.new) = o2 at *
          have HD1 := Lib.hid C1
          have HD2 := Lib.hid C2
          clear C1 C2
          generalize x.old.length = xm1 at *
          generalize x.new.length = xm2 at *
          generalize y.old.length = ym1 at *
          generalize y.new.length = ym2 at *
          generalize x.a1 = xa1 at *
          generalize x.a2 = xa2 at *
          generalize x.c1 = xc1 at *
          generalize x.c2 = xc2 at *
          generalize y.a1 = ya1 at *
          generalize y.a2 = ya2 at *
          generalize y.c1 = yc1 at *
          generalize y.c2 = yc2 at *
          generalize x.kind = xk at *
          generalize x.p = xp at *
          generalize x.dst = xq at *
          generalize x.at_ = xt at *
          generalize y.kind = yk at *
          generalize y.p = yp at *
          generalize y.dst = yq at *
          generalize y.at_ = yt at *
          cases o1
          · go_enter Tryd.func36, Tryd.ntmps36
            go_wp2_with fail
            refine HD1.out.mono ?_
            rintro e w1 ⟨rfl, q, rfl⟩
            go_wp2
            go_ret
            rw [HE.out]
            exact ⟨rfl, below_drewN HA.out q⟩
          · go_enter Tryd.func36, Tryd.ntmps36
            go_wp2_with fail
            refine HD1.out.mono ?_
            rintro e w1 ⟨rfl, q, rfl⟩
            go_wp2_with fail
            refine (HD2.out q).mono ?_
            rintro e w2 ⟨rfl, q2, rfl⟩
            go_wp2
            go_ret
            rw [HE.out]
            exact ⟨rfl, below_drewN HA.out q2⟩
        · have e1 : d = false := by
            rw [← hd]
            exact decide_eq_false fun h => h4 (hk.1 h).2.2.2.1
          subst e1
          have s1 : (x.kind == y.kind) = true := by simpa using h1
          have s2 : (x.p.toList == y.p.toList) = true := by rw [str_beq]; exact decide_eq_true h2
          have s3 : (x.dst.toList == y.dst.toList) = true := by rw [str_beq]; exact decide_eq_true h3
          have s4 : (x.at_ == y.at_) = false := by simpa using h4
          clear h1 h2 h3 h4 C1 C2 hk hd
          generalize x.kind = xk at *
          generalize x.p = xp at *
          generalize x.dst = xq at *
          generalize x.at_ = xt at *
          generalize y.kind = yk at *
          generalize y.p = yp at *
          generalize y.dst = yq at *
          generalize y.at_ = yt at *
          go_enter Tryd.func36, Tryd.ntmps36
          go_wp2
          go_ret
          exact ⟨rfl, HA.out⟩
      · have e1 : d = false := by
          rw [← hd]
          exact decide_eq_false fun h => h3 (hk.1 h).2.2.1
        subst e1
        have s1 : (x.kind == y.kind) = true := by simpa using h1
        have s2 : (x.p.toList == y.p.toList) = true := by rw [str_beq]; exact decide_eq_true h2
        have s3 : (x.dst.toList == y.dst.toList) = false := str_ne h3
        clear h1 h2 h3 C1 C2 hk hd
        generalize x.kind = xk at *
        generalize x.p = xp at *
        generalize x.dst = xq at *
        generalize x.at_ = xt at *
        generalize y.kind = yk at *
        generalize y.p = yp at *
        generalize y.dst = yq at *
        generalize y.at_ = yt at *
        go_enter Tryd.func36, Tryd.ntmps36
        go_wp2
        go_ret
        exact ⟨rfl, HA.out⟩
    · have e1 : d = false := by
        rw [← hd]
        exact decide_eq_false fun h => h2 (hk.1 h).2.1
      subst e1
      have s1 : (x.kind == y.kind) = true := by simpa using h1
      have s2 : (x.p.toList == y.p.toList) = false := str_ne h2
      clear h1 h2 C1 C2 hk hd
      generalize x.kind = xk at *
      generalize x.p = xp at *
      generalize x.dst = xq at *
      generalize x.at_ = xt at *
      generalize y.kind = yk at *
      generalize y.p = yp at *
      generalize y.dst = yq at *
      generalize y.at_ = yt at *
      go_enter Tryd.func36, Tryd.ntmps36
      go_wp2
      go_ret
      exact ⟨rfl, HA.out⟩
  · have e1 : d = false := by
      rw [← hd]
      exact decide_eq_false fun h => h1 (hk.1 h).1
    subst e1
    have s1 : (x.kind == y.kind) = false := by simpa using h1
    clear h1 C1 C2 hk hd
    generalize x.kind = xk at *
    generalize x.p = xp at *
    generalize x.dst = xq at *
    generalize x.at_ = xt at *
    generalize y.kind = yk at *
    generalize y.p = yp at *
    generalize y.dst = yq at *
    generalize y.at_ = yt at *
    go_enter Tryd.func36, Tryd.ntmps36
    go_wp2
    go_ret
    exact ⟨rfl, HA.out⟩
end Go.Proofs.YtempamboacbgiaaDoor
