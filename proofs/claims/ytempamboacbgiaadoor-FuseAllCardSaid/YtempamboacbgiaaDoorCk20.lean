/- The reference's Pair of layer 9. -/
import Derived.Test.YtempamboacbgiaaDoorCk16
import Derived.Test.YtempamboacbgiaaDoorCk18
import Derived.Test.YtempamboacbgiaaDoorCk19
import Derived.Deep.Cut
namespace Go.Proofs.YtempamboacbgiaaDoor
open Go.RowKit
set_option linter.unusedVariables false

theorem rsame9 (A A2 : Option Addr) (la lc : List (List UInt8)) (cap cap2 : Nat) (w : World) (d : Bool) (hd : decide (la = lc) = d) (hs : Strs w w.heap.size A (toBs la)) (ht : Strs w w.heap.size A2 (toBs lc)) (hn : la.length ≤ 1000000) (hn2 : lc.length ≤ 1000000) :
    Calls Tryd.prog 25 #[.slice A la.length cap, .slice A2 lc.length cap2] w fun e w' => e = .returned (.bool d) ∧ ∃ m, w' = w.drewN m := by
  have h := same_q A A2 (toBs la) (toBs lc) cap cap2 w hs ht (by rw [toBs_len]; omega) (by rw [toBs_len]; omega)
  rw [toBs_len, toBs_len, show decide (toBs la = toBs lc) = d from by
    rw [← hd]
    congr 1
    refine propext ⟨fun h => ?_, fun h => by rw [h]⟩
    have := congrArg lists h
    rwa [lists_toBs, lists_toBs] at this] at h
  exact h
/-- The reference's Same of two rows of one step each. -/
theorem refsame1_any (A A2 : Option Addr) (z y : Pm) (cap cap2 : Nat) (w : World) (hk : Ps w w.heap.size A [z]) (gk : Ps w w.heap.size A2 [y]) (hb : z.kind = y.kind → z.at_ = y.at_ ∧ z.old = y.old ∧ z.new = y.new) (m1 : z.old.length ≤ 1000000) (m2 : z.new.length ≤ 1000000) (d : Bool) (hd : decide (z.key = y.key) = d) :
    Calls Tryd.prog 11 #[.slice A 1 cap, .slice A2 1 cap2] w fun e w' => e = .returned (.bool d) ∧ ∃ q, w' = w.drewN q := by
  subst hd
  by_cases e1 : z.kind = y.kind
  · by_cases e2 : z.p = y.p
    · by_cases e3 : z.dst = y.dst
      · have hk2 : z.key = y.key := (Pm.key_iff z y).2 ⟨e1, e2, e3, (hb e1).1, (hb e1).2.1, (hb e1).2.2⟩
        rw [decide_eq_true hk2]
        exact refsamep_eq A A2 [z] [y] cap cap2 w (by simp [pkeys, hk2]) hk gk (by simp) (fun x hx => by
          simp only [List.mem_cons, List.not_mem_nil, or_false] at hx
          subst hx
          exact ⟨m1, m2⟩)
      · rw [decide_eq_false (fun h => e3 ((Pm.key_iff z y).1 h).2.2.1)]
        exact refsame1_dst A A2 z y cap cap2 w hk gk e1 e2 e3
    · rw [decide_eq_false (fun h => e2 ((Pm.key_iff z y).1 h).2.1)]
      exact refsame1_path A A2 z y cap cap2 w hk gk e1 e2
  · rw [decide_eq_false (fun h => e1 ((Pm.key_iff z y).1 h).1)]
    exact refsame1_kind A A2 z y cap cap2 w hk gk e1
theorem inv_bare {p q : Pk} (hp : ckP p = 0) (hq : ckP q = 0) (hk : p.kind = 1 ∨ p.kind = 3 ∨ p.kind = 5) : ((invP p).kind = q.kind → (invP p).at_ = q.at_ ∧ (invP p).old = q.old ∧ (invP p).new = q.new) ∧ (invP p).old = [] ∧ (invP p).new = [] := by
  have h1 := (ck_facts hp).2.2.2.1 (by omega)
  have h2 := (ck_facts hq).2.2.2.1
  refine ⟨fun e => ?_, h1.2.2, h1.2.1⟩
  have h3 : q.kind ≠ 6 := by
    rw [← e]
    show kindP p.kind ≠ 6
    unfold kindP
    rcases hk with h | h | h <;> simp [h]
  have h4 := h2 h3
  exact ⟨h1.1.trans h4.1.symm, h1.2.2.trans h4.2.1.symm, h1.2.1.trans h4.2.2.symm⟩
/-- What two steps become, told in the reference's order. -/
theorem fuse_ref {p q : Pk} (hp : ckP p = 0) (hq : ckP q = 0) : fuseP p q =
    if (p.kind = 1 ∨ p.kind = 3 ∨ p.kind = 5) ∧ invP p = q then some []
    else if p.kind = 5 ∧ q.kind = 5 ∧ q.path = p.dst then some [⟨5, p.path, q.dst, 0, [], []⟩]
    else sixP p q := by
  have hf := ck_facts hp
  unfold fuseP
  rw [if_neg (by simp [hp, hq])]
  have e : (p.kind ≠ 2 ∧ p.kind ≠ 4 ∧ p.kind ≠ 6 ∧ invP p = q) ↔ ((p.kind = 1 ∨ p.kind = 3 ∨ p.kind = 5) ∧ invP p = q) := by
    constructor
    · rintro ⟨a, b, c, d⟩
      exact ⟨by omega, d⟩
    · rintro ⟨a, d⟩
      exact ⟨by omega, by omega, by omega, d⟩
  simp only [e]
  rfl
/-- Both steps in their cells, still. -/
def XY9 (w W : World) (x y : Pm) : Prop := Below w.heap.size w W ∧ PrimAt W w.heap.size x ∧ PrimAt W (w.heap.size + 1) y
theorem XY9.on {w W W' : World} {x y : Pm} (h : XY9 w W x y) (hb : Below W.heap.size W W') : XY9 w W' x y := ⟨h.1.trans (hb.mono h.1.size), h.2.1.on hb, h.2.2.on hb⟩
theorem row_one {w : World} {x : Pm} (ox : x.Ok w w.heap.size) : Ps (w.alloc (.cells #[.int .i64 x.kind, .string x.p, .string x.dst, .int .i64 x.at_, .slice x.a1 x.old.length x.c1, .slice x.a2 x.new.length x.c2] 24)) (w.alloc (.cells #[.int .i64 x.kind, .string x.p, .string x.dst, .int .i64 x.at_, .slice x.a1 x.old.length x.c1, .slice x.a2 x.new.length x.c2] 24)).heap.size (some ⟨w.heap.size, 0, none⟩) [x] := by
  rw [World.size_alloc]
  exact ps_new (ps := [x]) fun z hz => by
    simp only [List.mem_cons, List.not_mem_nil, or_false] at hz
    subst hz
    exact ox

theorem fuse_len9 {p q h : Pk} (hp : ckP p = 0) (hq : ckP q = 0) (hh : hunksP p q = some h) : h.old.length ≤ 1000000 ∧ h.new.length ≤ 1000000 := by
  by_cases h6 : p.kind = 6 ∧ q.kind = 6
  · exact fuse_len hp hq h6 hh
  · rw [hunks_no (touch_not fun e => h6 ⟨e.1, e.2.1⟩)] at hh
    cases hh
theorem same_bare {x y z : Pm} (h1 : ckP x.key = 0) (h2 : ckP y.key = 0) (hk : x.kind = 1 ∨ x.kind = 3 ∨ x.kind = 5) (hz : z.key = invP x.key) : (z.kind = y.kind → z.at_ = y.at_ ∧ z.old = y.old ∧ z.new = y.new) ∧ z.old.length ≤ 1000000 ∧ z.new.length ≤ 1000000 := by
  have hi := inv_bare h1 h2 hk
  rw [← hz] at hi
  exact ⟨hi.1, by rw [show z.old = [] from hi.2.1]; decide, by rw [show z.new = [] from hi.2.2]; decide⟩

set_option maxHeartbeats 20000000 in
set_option maxRecDepth 100000 in
theorem refpair9_any (x y : Pm) (w : World) (ox : x.Ok w w.heap.size) (oy : y.Ok w w.heap.size) (wx : AtK x.key) (wy : AtK y.key) (hT : Tabs w) :
    Calls Tryd.prog 8 #[x.val, y.val] w (PairLeft w (fuseP x.key y.key)) := by
  have C1 := Lib.hid (fun W (hb : Below w.heap.size w W) => refck_w (ox.on hb) wx.toWdK (Tabs.on hT hb))
  have C2 := Lib.hid (fun W (hb : Below w.heap.size w W) => refck_w (oy.on hb) wy.toWdK (Tabs.on hT hb))
  have CH := Lib.hid (fun W (hb : Below w.heap.size w W) => refhunks9_any x y W (ox.on hb) (oy.on hb) wx wy (Tabs.on hT hb))
  have HPQ : Hid (x.p.size ≤ 9223372036854775807 ∧ y.dst.size ≤ 9223372036854775807) := ⟨ox.p, oy.q⟩
  have OX := Lib.hid (fun W (hb : Below w.heap.size w W) => ox.on hb)
  have OY := Lib.hid (fun W (hb : Below w.heap.size w W) => oy.on hb)
  clear ox oy wx wy hT
  unfold Pm.val at C1 C2 CH ⊢
  obtain ⟨hal, hx, hy⟩ := box2 w x y
  have e0 : ((w.alloc (.cells x.cells.toArray 24)).alloc (.cells y.cells.toArray 24)) = ((w.alloc (.cells #[.int .i64 x.kind, .string x.p, .string x.dst, .int .i64 x.at_, .slice x.a1 x.old.length x.c1, .slice x.a2 x.new.length x.c2] 24)).alloc (.cells #[.int .i64 y.kind, .string y.p, .string y.dst, .int .i64 y.at_, .slice y.a1 y.old.length y.c1, .slice y.a2 y.new.length y.c2] 24)) := rfl
  rw [e0] at hal hx hy
  have HX := Lib.hid hx
  have HY := Lib.hid hy
  have HA := Lib.hid hal
  clear hal hx hy e0
  by_cases h1 : ckP x.key = 0
  · by_cases h2 : ckP y.key = 0
    · have hf := ck_facts h1
      have hkk : x.kind = 1 ∨ x.kind = 2 ∨ x.kind = 3 ∨ x.kind = 4 ∨ x.kind = 5 ∨ x.kind = 6 := by
        have a : 1 ≤ x.kind := hf.1
        have b : x.kind ≤ 6 := hf.2.1
        omega
      obtain ⟨d, hd⟩ : ∃ d, decide ((x.kind = 1 ∨ x.kind = 3 ∨ x.kind = 5) ∧ invP x.key = y.key) = d := ⟨_, rfl⟩
      obtain ⟨d5, hd5⟩ : ∃ d, decide (x.kind = 5 ∧ y.kind = 5 ∧ y.p = x.dst) = d := ⟨_, rfl⟩
      have hfr := fuse_ref h1 h2
      obtain ⟨o9, ho9⟩ : ∃ o, fuseP x.key y.key = o := ⟨_, rfl⟩
      rw [ho9] at hfr ⊢
      have HO1 : Hid (d = true → o9 = some []) := fun h => by
        rw [hfr]
        exact if_pos (of_decide_eq_true (hd.trans h))
      have HO2 : Hid (d = false → d5 = true → o9 = some [⟨5, x.key.path, y.key.dst, 0, [], []⟩]) := fun h h' => by
        have e5 := of_decide_eq_true (hd5.trans h')
        have hdn : ¬ ((x.key.kind = 1 ∨ x.key.kind = 3 ∨ x.key.kind = 5) ∧ invP x.key = y.key) := of_decide_eq_false (hd.trans h)
        rw [hfr, if_neg hdn, if_pos ⟨e5.1, e5.2.1, by show y.p.data.toList = x.dst.data.toList; rw [e5.2.2]⟩]
      have HO3 : Hid (d = false → d5 = false → o9 = sixP x.key y.key) := fun h h' => by
        have hdn : ¬ ((x.key.kind = 1 ∨ x.key.kind = 3 ∨ x.key.kind = 5) ∧ invP x.key = y.key) := of_decide_eq_false (hd.trans h)
        rw [hfr, if_neg hdn, if_neg (fun e => of_decide_eq_false (hd5.trans h') ⟨e.1, e.2.1, bytes_inj e.2.2⟩)]
      have HS0 := Lib.hid (six_none (p := x.key) (q := y.key))
      have HS1 := Lib.hid (fun h => six_same (p := x.key) (q := y.key) (h := h))
      have HS2 := Lib.hid (fun h => six_some (p := x.key) (q := y.key) (h := h))
      have HL := Lib.hid (fun h (hh : hunksP x.key y.key = some h) => fuse_len9 h1 h2 hh)
      have CI := Lib.hid (fun (hk : x.kind = 1 ∨ x.kind = 3 ∨ x.kind = 5) W (hb : Below w.heap.size w W) => refinv_any x W (OX.out W hb) h1 hk)
      have HBZ := Lib.hid (fun (hk : x.kind = 1 ∨ x.kind = 3 ∨ x.kind = 5) (z : Pm) (hz : z.key = invP x.key) => same_bare h1 h2 hk hz)
      have HDK : Hid (x.kind = 1 ∨ x.kind = 3 ∨ x.kind = 5 → decide (invP x.key = y.key) = d) := fun h => by
        rw [← hd, decide_eq_decide]
        exact ⟨fun e => ⟨h, e⟩, fun e => e.2⟩
      have HDN : Hid (x.kind = 2 ∨ x.kind = 4 ∨ x.kind = 6 → d = false) := fun h => by
        rw [← hd, decide_eq_false_iff_not]
        rintro ⟨e, _⟩
        omega
      have HD5 := Lib.hid hd5
      rw [h1] at C1
      rw [h2] at C2
      unfold Pm.val at CI
      clear hf hd hd5 hfr ho9 h1 h2
      generalize sixP x.key y.key = s6 at *
      generalize hunksP x.key y.key = oh at *
      go_enter Tryd.func8, Tryd.ntmps8
      go_wp2_with fail
      generalize hwa : ((w.alloc (.cells #[.int .i64 x.kind, .string x.p, .string x.dst, .int .i64 x.at_, .slice x.a1 x.old.length x.c1, .slice x.a2 x.new.length x.c2] 24)).alloc (.cells #[.int .i64 y.kind, .string y.p, .string y.dst, .int .i64 y.at_, .slice y.a1 y.old.length y.c1, .slice y.a2 y.new.length y.c2] 24)) = wa at *
      clear hwa
      refine (C1.out _ HA.out).mono ?_
      rintro e w1 ⟨rfl, hb⟩
      replace HX := Lib.hid (HX.out.on hb)
      replace HY := Lib.hid (HY.out.on hb)
      replace HA := Lib.hid (HA.out.trans (hb.mono HA.out.size))
      clear hb
      have x0 := HX.out.c0
      have x1 := HX.out.c1
      have x2 := HX.out.c2
      have x3 := HX.out.c3
      have x4 := HX.out.c4
      have x5 := HX.out.c5
      have y0 := HY.out.c0
      have y1 := HY.out.c1
      have y2 := HY.out.c2
      have y3 := HY.out.c3
      have y4 := HY.out.c4
      have y5 := HY.out.c5
      go_wp2_with fail
      refine (C2.out w1 HA.out).mono ?_
      rintro e w2 ⟨rfl, hb⟩
      replace HX := Lib.hid (HX.out.on hb)
      replace HY := Lib.hid (HY.out.on hb)
      replace HA := Lib.hid (HA.out.trans (hb.mono HA.out.size))
      clear hb
      clear x0 y0 x1 y1 x2 y2 x3 y3 x4 y4 x5 y5
      have HXY : Hid (XY9 w w2 x y) := ⟨HA.out, HX.out, HY.out⟩
      have HDR : Hid (Below w2.heap.size w2 w2.drew) := (Below.refl _ _).drew
      clear HX HY HA C1 C2
      go_upto_region 3 with (fail)
      go_cut [36] from 16 (fun s wx => s = .bool d ∧ Hid (XY9 w wx x y))
      case first =>
        by_cases hk : x.kind = 1 ∨ x.kind = 3 ∨ x.kind = 5
        · have CI := Lib.hid (CI.out hk)
          have HBZ := Lib.hid (HBZ.out hk)
          have HD := Lib.hid (HDK.out hk)
          have k2 : (x.kind != 2) = true := by simp; omega
          have k4 : (x.kind != 4) = true := by simp; omega
          have k6 : (x.kind != 6) = true := by simp; omega
          clear hk hkk HDK HDN CH HO1 HO2 HO3 HS0 HS1 HS2 HL
          refine wp_region_noPanic ?_
          refine wp_region_held_drew (S := (fun w' => w'.cell? ⟨w.heap.size, 0, none⟩ = some (.int .i64 x.kind) ∧ w'.cell? ⟨w.heap.size, 1, none⟩ = some (.string x.p) ∧ w'.cell? ⟨w.heap.size, 2, none⟩ = some (.string x.dst) ∧ w'.cell? ⟨w.heap.size, 3, none⟩ = some (.int .i64 x.at_) ∧ w'.cell? ⟨w.heap.size, 4, none⟩ = some (.slice x.a1 x.old.length x.c1) ∧ w'.cell? ⟨w.heap.size, 5, none⟩ = some (.slice x.a2 x.new.length x.c2) ∧ w'.cell? ⟨w.heap.size + 1, 0, none⟩ = some (.int .i64 y.kind) ∧ w'.cell? ⟨w.heap.size + 1, 1, none⟩ = some (.string y.p) ∧ w'.cell? ⟨w.heap.size + 1, 2, none⟩ = some (.string y.dst) ∧ w'.cell? ⟨w.heap.size + 1, 3, none⟩ = some (.int .i64 y.at_) ∧ w'.cell? ⟨w.heap.size + 1, 4, none⟩ = some (.slice y.a1 y.old.length y.c1) ∧ w'.cell? ⟨w.heap.size + 1, 5, none⟩ = some (.slice y.a2 y.new.length y.c2))) (by kernel_rfl) (six_six (HXY.out.on HDR.out).2.1 (HXY.out.on HDR.out).2.2) (fun hHeld => ?_)
          refine wpAnyH_take (i := 0) (oi := { dst := some 16, op := _, type := _, pos := _, after := _, guard := _ }) (v := .pointer (some ⟨w.heap.size, 0, none⟩)) rfl (by kernel_rfl) (by kernel_rfl) (by kernel_rfl) (fun _ _ _ h => h) (Or.inl ⟨by rfl, fun w' hSw => ?_⟩) (by assumption) ?_
          · ((try dsimp only at hSw); go_simp)
          try simp only [Act.put, List.setIfInBounds_toArray, List.set_cons_zero, List.set_cons_succ]
          refine wpAnyH_take (i := 1) (oi := { dst := some 17, op := _, type := _, pos := _, after := _, guard := _ }) (v := .int .i64 x.kind) rfl (by kernel_rfl) (by kernel_rfl) (by kernel_rfl) (fun _ _ _ h => h) (Or.inl ⟨by rfl, fun w' hSw => ?_⟩) (by assumption) ?_
          · ((try dsimp only at hSw); go_simp)
          try simp only [Act.put, List.setIfInBounds_toArray, List.set_cons_zero, List.set_cons_succ]
          refine wpAnyH_take (i := 2) (oi := { dst := some 18, op := _, type := _, pos := _, after := _, guard := _ }) (v := .bool true) rfl (by kernel_rfl) (by kernel_rfl) (by kernel_rfl) (fun _ _ _ h => h) (Or.inl ⟨by rfl, fun w' hSw => ?_⟩) (by assumption) ?_
          · ((try dsimp only at hSw); go_simp)
          try simp only [Act.put, List.setIfInBounds_toArray, List.set_cons_zero, List.set_cons_succ]
          refine wpAnyH_take (i := 3) (oi := { dst := some 19, op := _, type := _, pos := _, after := _, guard := _ }) (v := .bool true) rfl (by kernel_rfl) (by kernel_rfl) (by kernel_rfl) (fun _ _ _ h => h) (Or.inl ⟨by rfl, fun w' hSw => ?_⟩) (by assumption) ?_
          · ((try dsimp only at hSw); go_simp)
          try simp only [Act.put, List.setIfInBounds_toArray, List.set_cons_zero, List.set_cons_succ]
          refine wpAnyH_take (i := 4) (oi := { dst := some 20, op := _, type := _, pos := _, after := _, guard := _ }) (v := .pointer (some ⟨w.heap.size, 0, none⟩)) rfl (by kernel_rfl) (by kernel_rfl) (by kernel_rfl) (fun _ _ _ h => h) (Or.inl ⟨by rfl, fun w' hSw => ?_⟩) (by assumption) ?_
          · ((try dsimp only at hSw); go_simp)
          try simp only [Act.put, List.setIfInBounds_toArray, List.set_cons_zero, List.set_cons_succ]
          refine wpAnyH_take (i := 5) (oi := { dst := some 21, op := _, type := _, pos := _, after := _, guard := _ }) (v := .int .i64 x.kind) rfl (by kernel_rfl) (by kernel_rfl) (by kernel_rfl) (fun _ _ _ h => h) (Or.inl ⟨by rfl, fun w' hSw => ?_⟩) (by assumption) ?_
          · ((try dsimp only at hSw); go_simp)
          try simp only [Act.put, List.setIfInBounds_toArray, List.set_cons_zero, List.set_cons_succ]
          refine wpAnyH_take (i := 6) (oi := { dst := some 22, op := _, type := _, pos := _, after := _, guard := _ }) (v := .bool true) rfl (by kernel_rfl) (by kernel_rfl) (by kernel_rfl) (fun _ _ _ h => h) (Or.inl ⟨by rfl, fun w' hSw => ?_⟩) (by assumption) ?_
          · ((try dsimp only at hSw); go_simp)
          try simp only [Act.put, List.setIfInBounds_toArray, List.set_cons_zero, List.set_cons_succ]
          refine wpAnyH_take (i := 7) (oi := { dst := some 23, op := _, type := _, pos := _, after := _, guard := _ }) (v := .bool true) rfl (by kernel_rfl) (by kernel_rfl) (by kernel_rfl) (fun _ _ _ h => h) (Or.inl ⟨by rfl, fun w' hSw => ?_⟩) (by assumption) ?_
          · ((try dsimp only at hSw); go_simp)
          try simp only [Act.put, List.setIfInBounds_toArray, List.set_cons_zero, List.set_cons_succ]
          refine wpAnyH_take (i := 8) (oi := { dst := some 24, op := _, type := _, pos := _, after := _, guard := _ }) (v := .bool true) rfl (by kernel_rfl) (by kernel_rfl) (by kernel_rfl) (fun _ _ _ h => h) (Or.inl ⟨by rfl, fun w' hSw => ?_⟩) (by assumption) ?_
          · ((try dsimp only at hSw); go_simp)
          try simp only [Act.put, List.setIfInBounds_toArray, List.set_cons_zero, List.set_cons_succ]
          refine wpAnyH_take (i := 9) (oi := { dst := some 25, op := _, type := _, pos := _, after := _, guard := _ }) (v := .pointer (some ⟨w.heap.size, 0, none⟩)) rfl (by kernel_rfl) (by kernel_rfl) (by kernel_rfl) (fun _ _ _ h => h) (Or.inl ⟨by rfl, fun w' hSw => ?_⟩) (by assumption) ?_
          · ((try dsimp only at hSw); go_simp)
          try simp only [Act.put, List.setIfInBounds_toArray, List.set_cons_zero, List.set_cons_succ]
          refine wpAnyH_take (i := 10) (oi := { dst := some 26, op := _, type := _, pos := _, after := _, guard := _ }) (v := .int .i64 x.kind) rfl (by kernel_rfl) (by kernel_rfl) (by kernel_rfl) (fun _ _ _ h => h) (Or.inl ⟨by rfl, fun w' hSw => ?_⟩) (by assumption) ?_
          · ((try dsimp only at hSw); go_simp)
          try simp only [Act.put, List.setIfInBounds_toArray, List.set_cons_zero, List.set_cons_succ]
          refine wpAnyH_take (i := 11) (oi := { dst := some 27, op := _, type := _, pos := _, after := _, guard := _ }) (v := .bool true) rfl (by kernel_rfl) (by kernel_rfl) (by kernel_rfl) (fun _ _ _ h => h) (Or.inl ⟨by rfl, fun w' hSw => ?_⟩) (by assumption) ?_
          · ((try dsimp only at hSw); go_simp)
          try simp only [Act.put, List.setIfInBounds_toArray, List.set_cons_zero, List.set_cons_succ]
          refine wpAnyH_take (i := 12) (oi := { dst := some 28, op := _, type := _, pos := _, after := _, guard := _ }) (v := .bool true) rfl (by kernel_rfl) (by kernel_rfl) (by kernel_rfl) (fun _ _ _ h => h) (Or.inl ⟨by rfl, fun w' hSw => ?_⟩) (by assumption) ?_
          · ((try dsimp only at hSw); go_simp)
          try simp only [Act.put, List.setIfInBounds_toArray, List.set_cons_zero, List.set_cons_succ]
          refine wpAnyH_take (i := 13) (oi := { dst := some 29, op := _, type := _, pos := _, after := _, guard := _ }) (v := .bool true) rfl (by kernel_rfl) (by kernel_rfl) (by kernel_rfl) (fun _ _ _ h => h) (Or.inl ⟨by rfl, fun w' hSw => ?_⟩) (by assumption) ?_
          · ((try dsimp only at hSw); go_simp)
          try simp only [Act.put, List.setIfInBounds_toArray, List.set_cons_zero, List.set_cons_succ]
          refine wpAnyH_take (i := 14) (oi := { dst := some 30, op := _, type := _, pos := _, after := _, guard := _ }) (v := .agg #[.int .i64 x.kind, .string x.p, .string x.dst, .int .i64 x.at_, .slice x.a1 x.old.length x.c1, .slice x.a2 x.new.length x.c2]) rfl (by kernel_rfl) (by kernel_rfl) (by kernel_rfl) (fun _ _ _ h => h) (Or.inl ⟨by rfl, fun w' hSw => ?_⟩) (by assumption) ?_
          · ((try dsimp only at hSw); go_simp)
          try simp only [Act.put, List.setIfInBounds_toArray, List.set_cons_zero, List.set_cons_succ]
          refine wpAnyH_take (i := 17) (oi := { dst := some 33, op := _, type := _, pos := _, after := _, guard := _ }) (v := .agg #[.int .i64 y.kind, .string y.p, .string y.dst, .int .i64 y.at_, .slice y.a1 y.old.length y.c1, .slice y.a2 y.new.length y.c2]) rfl (by kernel_rfl) (by kernel_rfl) (by kernel_rfl) (fun _ _ _ h => h) (Or.inl ⟨by rfl, fun w' hSw => ?_⟩) (by assumption) ?_
          · ((try dsimp only at hSw); go_simp)
          try simp only [Act.put, List.setIfInBounds_toArray, List.set_cons_zero, List.set_cons_succ]
          refine wpAnyH_ready (rs := [15, 18]) (by kernel_rfl) (by simp) ?_
          refine AllReadyH.cons rfl (fun K hK => ?_) (AllReadyH.cons rfl (fun K hK => ?_) AllReadyH.nil)
          · go_simp
            go_at_call 24
            refine (CI.out _ (HXY.out.1.trans ((HDR.out).mono HXY.out.1.size))).mono ?_
            rintro e w7 ⟨z, rfl, hz, hb7⟩
            have X7 := Lib.hid ((HDR.out).trans (hb7.mono (HDR.out).size))
            refine hK.out _ _ (six_six (HXY.out.on (X7.out)).2.1 (HXY.out.on (X7.out)).2.2) (fun hHeld15 => ?_)
            clear hK K hHeld
            try simp only [Act.put, List.setIfInBounds_toArray, List.set_cons_zero, List.set_cons_succ]
            refine wpAnyH_ready (rs := [16, 18]) (by kernel_rfl) (by simp) ?_
            refine AllReadyH.cons rfl (fun K hK => ?_) (AllReadyH.cons rfl (fun K hK => ?_) AllReadyH.nil)
            · have b1 : Below w7.heap.size w7 (w7.alloc (.cells #[.int .i64 z.kind, .string z.p, .string z.dst, .int .i64 z.at_, .slice z.a1 z.old.length z.c1, .slice z.a2 z.new.length z.c2] 24)) := (Below.refl _ _).alloc (Nat.le_refl _) _
              have b2 : Below (w7.alloc (.cells #[.int .i64 z.kind, .string z.p, .string z.dst, .int .i64 z.at_, .slice z.a1 z.old.length z.c1, .slice z.a2 z.new.length z.c2] 24)).heap.size (w7.alloc (.cells #[.int .i64 z.kind, .string z.p, .string z.dst, .int .i64 z.at_, .slice z.a1 z.old.length z.c1, .slice z.a2 z.new.length z.c2] 24)) ((w7.alloc (.cells #[.int .i64 z.kind, .string z.p, .string z.dst, .int .i64 z.at_, .slice z.a1 z.old.length z.c1, .slice z.a2 z.new.length z.c2] 24)).alloc (.cells #[.int .i64 y.kind, .string y.p, .string y.dst, .int .i64 y.at_, .slice y.a1 y.old.length y.c1, .slice y.a2 y.new.length y.c2] 24)) := (Below.refl _ _).alloc (Nat.le_refl _) _
              have z1 : (w7.alloc (.cells #[.int .i64 z.kind, .string z.p, .string z.dst, .int .i64 z.at_, .slice z.a1 z.old.length z.c1, .slice z.a2 z.new.length z.c2] 24)).heap.size = w7.heap.size + 1 := World.size_alloc _ _
              have X1 := Lib.hid (X7.out.trans (b1.mono X7.out.size))
              have X2 := Lib.hid (X1.out.trans (b2.mono X1.out.size))
              have oyw := OY.out w7 (HXY.out.on X7.out).1
              go_simp
              refine hK.out _ _ (six_six (HXY.out.on (X1.out)).2.1 (HXY.out.on (X1.out)).2.2) (fun hHeld16 => ?_)
              clear hK K hHeld15
              try simp only [Act.put, List.setIfInBounds_toArray, List.set_cons_zero, List.set_cons_succ]
              refine wpAnyH_ready (rs := [18]) (by kernel_rfl) (by simp) ?_
              refine AllReadyH.cons rfl (fun K hK => ?_) AllReadyH.nil
              go_simp
              refine hK.out _ _ (six_six (HXY.out.on (X2.out)).2.1 (HXY.out.on (X2.out)).2.2) (fun hHeld18 => ?_)
              clear hK K hHeld16
              try simp only [Act.put, List.setIfInBounds_toArray, List.set_cons_zero, List.set_cons_succ]
              refine wpAnyH_ready (rs := [19]) (by kernel_rfl) (by simp) ?_
              refine AllReadyH.cons rfl (fun K hK => ?_) AllReadyH.nil
              go_simp
              go_at_call 11
              have CS := refsame1_any (some ⟨w7.heap.size, 0, none⟩) (some ⟨(w7.alloc (.cells #[.int .i64 z.kind, .string z.p, .string z.dst, .int .i64 z.at_, .slice z.a1 z.old.length z.c1, .slice z.a2 z.new.length z.c2] 24)).heap.size, 0, none⟩) z y 1 1 ((w7.alloc (.cells #[.int .i64 z.kind, .string z.p, .string z.dst, .int .i64 z.at_, .slice z.a1 z.old.length z.c1, .slice z.a2 z.new.length z.c2] 24)).alloc (.cells #[.int .i64 y.kind, .string y.p, .string y.dst, .int .i64 y.at_, .slice y.a1 y.old.length y.c1, .slice y.a2 y.new.length y.c2] 24)) ((row_one hz.out.1).on b2) (row_one (oyw.on b1)) (HBZ.out z hz.out.2).1 (HBZ.out z hz.out.2).2.1 (HBZ.out z hz.out.2).2.2 d (by rw [hz.out.2]; exact HD.out)
              rw [z1] at CS
              refine CS.mono ?_
              rintro e w9 ⟨rfl, q9, rfl⟩
              have X9 := Lib.hid (below_drewN (X2.out) q9)
              refine hK.out _ _ (six_six (HXY.out.on (X9.out)).2.1 (HXY.out.on (X9.out)).2.2) (fun hHeld19 => ?_)
              clear hK K hHeld18
              try simp only [Act.put, List.setIfInBounds_toArray, List.set_cons_zero, List.set_cons_succ]
              refine wpAnyH_take (i := 20) (oi := { dst := some 36, op := _, type := _, pos := _, after := _, guard := _ }) (v := .bool d) rfl (by kernel_rfl) (by kernel_rfl) (by kernel_rfl) (fun _ _ _ h => h) (Or.inl ⟨by rfl, fun w' hSw => ?_⟩) (by assumption) ?_
              · ((try dsimp only at hSw); go_simp)
              try simp only [Act.put, List.setIfInBounds_toArray, List.set_cons_zero, List.set_cons_succ]
              refine wpAnyH_done (by kernel_rfl) ?_ _
              refine NoPanic.normal ?_
              go_wp2_with fail
              go_meet
              case rel => exact ⟨rfl, HXY.out.on X9.out⟩
            · have b1 : Below w7.heap.size w7 (w7.alloc (.cells #[.int .i64 y.kind, .string y.p, .string y.dst, .int .i64 y.at_, .slice y.a1 y.old.length y.c1, .slice y.a2 y.new.length y.c2] 24)) := (Below.refl _ _).alloc (Nat.le_refl _) _
              have b2 : Below (w7.alloc (.cells #[.int .i64 y.kind, .string y.p, .string y.dst, .int .i64 y.at_, .slice y.a1 y.old.length y.c1, .slice y.a2 y.new.length y.c2] 24)).heap.size (w7.alloc (.cells #[.int .i64 y.kind, .string y.p, .string y.dst, .int .i64 y.at_, .slice y.a1 y.old.length y.c1, .slice y.a2 y.new.length y.c2] 24)) ((w7.alloc (.cells #[.int .i64 y.kind, .string y.p, .string y.dst, .int .i64 y.at_, .slice y.a1 y.old.length y.c1, .slice y.a2 y.new.length y.c2] 24)).alloc (.cells #[.int .i64 z.kind, .string z.p, .string z.dst, .int .i64 z.at_, .slice z.a1 z.old.length z.c1, .slice z.a2 z.new.length z.c2] 24)) := (Below.refl _ _).alloc (Nat.le_refl _) _
              have z1 : (w7.alloc (.cells #[.int .i64 y.kind, .string y.p, .string y.dst, .int .i64 y.at_, .slice y.a1 y.old.length y.c1, .slice y.a2 y.new.length y.c2] 24)).heap.size = w7.heap.size + 1 := World.size_alloc _ _
              have X1 := Lib.hid (X7.out.trans (b1.mono X7.out.size))
              have X2 := Lib.hid (X1.out.trans (b2.mono X1.out.size))
              have oyw := OY.out w7 (HXY.out.on X7.out).1
              go_simp
              refine hK.out _ _ (six_six (HXY.out.on (X1.out)).2.1 (HXY.out.on (X1.out)).2.2) (fun hHeld18 => ?_)
              clear hK K hHeld15
              try simp only [Act.put, List.setIfInBounds_toArray, List.set_cons_zero, List.set_cons_succ]
              refine wpAnyH_ready (rs := [16]) (by kernel_rfl) (by simp) ?_
              refine AllReadyH.cons rfl (fun K hK => ?_) AllReadyH.nil
              go_simp
              refine hK.out _ _ (six_six (HXY.out.on (X2.out)).2.1 (HXY.out.on (X2.out)).2.2) (fun hHeld16 => ?_)
              clear hK K hHeld18
              try simp only [Act.put, List.setIfInBounds_toArray, List.set_cons_zero, List.set_cons_succ]
              refine wpAnyH_ready (rs := [19]) (by kernel_rfl) (by simp) ?_
              refine AllReadyH.cons rfl (fun K hK => ?_) AllReadyH.nil
              go_simp
              go_at_call 11
              have CS := refsame1_any (some ⟨(w7.alloc (.cells #[.int .i64 y.kind, .string y.p, .string y.dst, .int .i64 y.at_, .slice y.a1 y.old.length y.c1, .slice y.a2 y.new.length y.c2] 24)).heap.size, 0, none⟩) (some ⟨w7.heap.size, 0, none⟩) z y 1 1 ((w7.alloc (.cells #[.int .i64 y.kind, .string y.p, .string y.dst, .int .i64 y.at_, .slice y.a1 y.old.length y.c1, .slice y.a2 y.new.length y.c2] 24)).alloc (.cells #[.int .i64 z.kind, .string z.p, .string z.dst, .int .i64 z.at_, .slice z.a1 z.old.length z.c1, .slice z.a2 z.new.length z.c2] 24)) (row_one (hz.out.1.on b1)) ((row_one oyw).on b2) (HBZ.out z hz.out.2).1 (HBZ.out z hz.out.2).2.1 (HBZ.out z hz.out.2).2.2 d (by rw [hz.out.2]; exact HD.out)
              rw [z1] at CS
              refine CS.mono ?_
              rintro e w9 ⟨rfl, q9, rfl⟩
              have X9 := Lib.hid (below_drewN (X2.out) q9)
              refine hK.out _ _ (six_six (HXY.out.on (X9.out)).2.1 (HXY.out.on (X9.out)).2.2) (fun hHeld19 => ?_)
              clear hK K hHeld16
              try simp only [Act.put, List.setIfInBounds_toArray, List.set_cons_zero, List.set_cons_succ]
              refine wpAnyH_take (i := 20) (oi := { dst := some 36, op := _, type := _, pos := _, after := _, guard := _ }) (v := .bool d) rfl (by kernel_rfl) (by kernel_rfl) (by kernel_rfl) (fun _ _ _ h => h) (Or.inl ⟨by rfl, fun w' hSw => ?_⟩) (by assumption) ?_
              · ((try dsimp only at hSw); go_simp)
              try simp only [Act.put, List.setIfInBounds_toArray, List.set_cons_zero, List.set_cons_succ]
              refine wpAnyH_done (by kernel_rfl) ?_ _
              refine NoPanic.normal ?_
              go_wp2_with fail
              go_meet
              case rel => exact ⟨rfl, HXY.out.on X9.out⟩
          · have b0 : Below w2.heap.size w2 ((w2.alloc (.cells #[.int .i64 y.kind, .string y.p, .string y.dst, .int .i64 y.at_, .slice y.a1 y.old.length y.c1, .slice y.a2 y.new.length y.c2] 24))).drew := ((Below.refl _ _).alloc (Nat.le_refl _) _).drew
            have X0 := Lib.hid b0
            have py0 : Ps ((w2.alloc (.cells #[.int .i64 y.kind, .string y.p, .string y.dst, .int .i64 y.at_, .slice y.a1 y.old.length y.c1, .slice y.a2 y.new.length y.c2] 24))).drew ((w2.alloc (.cells #[.int .i64 y.kind, .string y.p, .string y.dst, .int .i64 y.at_, .slice y.a1 y.old.length y.c1, .slice y.a2 y.new.length y.c2] 24))).drew.heap.size (some ⟨w2.heap.size, 0, none⟩) [y] := (row_one (OY.out w2 HXY.out.1)).on (Below.refl _ _).drew
            go_simp
            refine hK.out _ _ (six_six (HXY.out.on (X0.out)).2.1 (HXY.out.on (X0.out)).2.2) (fun hHeld18 => ?_)
            clear hK K hHeld
            try simp only [Act.put, List.setIfInBounds_toArray, List.set_cons_zero, List.set_cons_succ]
            refine wpAnyH_ready (rs := [15]) (by kernel_rfl) (by simp) ?_
            refine AllReadyH.cons rfl (fun K hK => ?_) AllReadyH.nil
            go_simp
            go_at_call 24
            refine (CI.out _ (HXY.out.1.trans ((X0.out).mono HXY.out.1.size))).mono ?_
            rintro e w7 ⟨z, rfl, hz, hb7⟩
            have X7 := Lib.hid ((X0.out).trans (hb7.mono (X0.out).size))
            have pyw := py0.on hb7
            have b1 : Below w7.heap.size w7 (w7.alloc (.cells #[.int .i64 z.kind, .string z.p, .string z.dst, .int .i64 z.at_, .slice z.a1 z.old.length z.c1, .slice z.a2 z.new.length z.c2] 24)) := (Below.refl _ _).alloc (Nat.le_refl _) _
            have X1 := Lib.hid (X7.out.trans (b1.mono X7.out.size))
            refine hK.out _ _ (six_six (HXY.out.on (X7.out)).2.1 (HXY.out.on (X7.out)).2.2) (fun hHeld15 => ?_)
            clear hK K hHeld18
            try simp only [Act.put, List.setIfInBounds_toArray, List.set_cons_zero, List.set_cons_succ]
            refine wpAnyH_ready (rs := [16]) (by kernel_rfl) (by simp) ?_
            refine AllReadyH.cons rfl (fun K hK => ?_) AllReadyH.nil
            go_simp
            refine hK.out _ _ (six_six (HXY.out.on (X1.out)).2.1 (HXY.out.on (X1.out)).2.2) (fun hHeld16 => ?_)
            clear hK K hHeld15
            try simp only [Act.put, List.setIfInBounds_toArray, List.set_cons_zero, List.set_cons_succ]
            refine wpAnyH_ready (rs := [19]) (by kernel_rfl) (by simp) ?_
            refine AllReadyH.cons rfl (fun K hK => ?_) AllReadyH.nil
            go_simp
            go_at_call 11
            have CS := refsame1_any (some ⟨w7.heap.size, 0, none⟩) (some ⟨w2.heap.size, 0, none⟩) z y 1 1 (w7.alloc (.cells #[.int .i64 z.kind, .string z.p, .string z.dst, .int .i64 z.at_, .slice z.a1 z.old.length z.c1, .slice z.a2 z.new.length z.c2] 24)) (row_one hz.out.1) (pyw.on b1) (HBZ.out z hz.out.2).1 (HBZ.out z hz.out.2).2.1 (HBZ.out z hz.out.2).2.2 d (by rw [hz.out.2]; exact HD.out)
            refine CS.mono ?_
            rintro e w9 ⟨rfl, q9, rfl⟩
            have X9 := Lib.hid (below_drewN (X1.out) q9)
            refine hK.out _ _ (six_six (HXY.out.on (X9.out)).2.1 (HXY.out.on (X9.out)).2.2) (fun hHeld19 => ?_)
            clear hK K hHeld16
            try simp only [Act.put, List.setIfInBounds_toArray, List.set_cons_zero, List.set_cons_succ]
            refine wpAnyH_take (i := 20) (oi := { dst := some 36, op := _, type := _, pos := _, after := _, guard := _ }) (v := .bool d) rfl (by kernel_rfl) (by kernel_rfl) (by kernel_rfl) (fun _ _ _ h => h) (Or.inl ⟨by rfl, fun w' hSw => ?_⟩) (by assumption) ?_
            · ((try dsimp only at hSw); go_simp)
            try simp only [Act.put, List.setIfInBounds_toArray, List.set_cons_zero, List.set_cons_succ]
            refine wpAnyH_done (by kernel_rfl) ?_ _
            refine NoPanic.normal ?_
            go_wp2_with fail
            go_meet
            case rel => exact ⟨rfl, HXY.out.on X9.out⟩
        · have HDF := Lib.hid (HDN.out (by omega))
          by_cases k : x.kind = 2
          · have k2 : (x.kind != 2) = false := by simpa using k
            clear hk hkk k HDK HDN CH HO1 HO2 HO3 HS0 HS1 HS2 HL CI HBZ
            refine wp_region_noPanic ?_
            refine wp_region_held_drew (S := (fun w' => w'.cell? ⟨w.heap.size, 0, none⟩ = some (.int .i64 x.kind) ∧ w'.cell? ⟨w.heap.size, 1, none⟩ = some (.string x.p) ∧ w'.cell? ⟨w.heap.size, 2, none⟩ = some (.string x.dst) ∧ w'.cell? ⟨w.heap.size, 3, none⟩ = some (.int .i64 x.at_) ∧ w'.cell? ⟨w.heap.size, 4, none⟩ = some (.slice x.a1 x.old.length x.c1) ∧ w'.cell? ⟨w.heap.size, 5, none⟩ = some (.slice x.a2 x.new.length x.c2) ∧ w'.cell? ⟨w.heap.size + 1, 0, none⟩ = some (.int .i64 y.kind) ∧ w'.cell? ⟨w.heap.size + 1, 1, none⟩ = some (.string y.p) ∧ w'.cell? ⟨w.heap.size + 1, 2, none⟩ = some (.string y.dst) ∧ w'.cell? ⟨w.heap.size + 1, 3, none⟩ = some (.int .i64 y.at_) ∧ w'.cell? ⟨w.heap.size + 1, 4, none⟩ = some (.slice y.a1 y.old.length y.c1) ∧ w'.cell? ⟨w.heap.size + 1, 5, none⟩ = some (.slice y.a2 y.new.length y.c2))) (by kernel_rfl) (six_six (HXY.out.on HDR.out).2.1 (HXY.out.on HDR.out).2.2) (fun hHeld => ?_)
            refine wpAnyH_take (i := 0) (oi := { dst := some 16, op := _, type := _, pos := _, after := _, guard := _ }) (v := .pointer (some ⟨w.heap.size, 0, none⟩)) rfl (by kernel_rfl) (by kernel_rfl) (by kernel_rfl) (fun _ _ _ h => h) (Or.inl ⟨by rfl, fun w' hSw => ?_⟩) (by assumption) ?_
            · ((try dsimp only at hSw); go_simp)
            try simp only [Act.put, List.setIfInBounds_toArray, List.set_cons_zero, List.set_cons_succ]
            refine wpAnyH_take (i := 1) (oi := { dst := some 17, op := _, type := _, pos := _, after := _, guard := _ }) (v := .int .i64 x.kind) rfl (by kernel_rfl) (by kernel_rfl) (by kernel_rfl) (fun _ _ _ h => h) (Or.inl ⟨by rfl, fun w' hSw => ?_⟩) (by assumption) ?_
            · ((try dsimp only at hSw); go_simp)
            try simp only [Act.put, List.setIfInBounds_toArray, List.set_cons_zero, List.set_cons_succ]
            refine wpAnyH_take (i := 2) (oi := { dst := some 18, op := _, type := _, pos := _, after := _, guard := _ }) (v := .bool false) rfl (by kernel_rfl) (by kernel_rfl) (by kernel_rfl) (fun _ _ _ h => h) (Or.inl ⟨by rfl, fun w' hSw => ?_⟩) (by assumption) ?_
            · ((try dsimp only at hSw); go_simp)
            try simp only [Act.put, List.setIfInBounds_toArray, List.set_cons_zero, List.set_cons_succ]
            refine wpAnyH_take (i := 3) (oi := { dst := some 19, op := _, type := _, pos := _, after := _, guard := _ }) (v := .bool false) rfl (by kernel_rfl) (by kernel_rfl) (by kernel_rfl) (fun _ _ _ h => h) (Or.inl ⟨by rfl, fun w' hSw => ?_⟩) (by assumption) ?_
            · ((try dsimp only at hSw); go_simp)
            try simp only [Act.put, List.setIfInBounds_toArray, List.set_cons_zero, List.set_cons_succ]
            refine wpAnyH_take (i := 4) (oi := { dst := some 20, op := _, type := _, pos := _, after := _, guard := _ }) (v := undef) rfl (by kernel_rfl) (by kernel_rfl) (by kernel_rfl) (fun _ _ _ h => h) (Or.inr ⟨by rfl, rfl⟩) (by assumption) ?_
            try simp only [Act.put, List.setIfInBounds_toArray, List.set_cons_zero, List.set_cons_succ]
            refine wpAnyH_take (i := 5) (oi := { dst := some 21, op := _, type := _, pos := _, after := _, guard := _ }) (v := undef) rfl (by kernel_rfl) (by kernel_rfl) (by kernel_rfl) (fun _ _ _ h => h) (Or.inr ⟨by rfl, rfl⟩) (by assumption) ?_
            try simp only [Act.put, List.setIfInBounds_toArray, List.set_cons_zero, List.set_cons_succ]
            refine wpAnyH_take (i := 6) (oi := { dst := some 22, op := _, type := _, pos := _, after := _, guard := _ }) (v := undef) rfl (by kernel_rfl) (by kernel_rfl) (by kernel_rfl) (fun _ _ _ h => h) (Or.inr ⟨by rfl, rfl⟩) (by assumption) ?_
            try simp only [Act.put, List.setIfInBounds_toArray, List.set_cons_zero, List.set_cons_succ]
            refine wpAnyH_take (i := 7) (oi := { dst := some 23, op := _, type := _, pos := _, after := _, guard := _ }) (v := .bool false) rfl (by kernel_rfl) (by kernel_rfl) (by kernel_rfl) (fun _ _ _ h => h) (Or.inl ⟨by rfl, fun w' hSw => ?_⟩) (by assumption) ?_
            · ((try dsimp only at hSw); go_simp)
            try simp only [Act.put, List.setIfInBounds_toArray, List.set_cons_zero, List.set_cons_succ]
            refine wpAnyH_take (i := 8) (oi := { dst := some 24, op := _, type := _, pos := _, after := _, guard := _ }) (v := .bool false) rfl (by kernel_rfl) (by kernel_rfl) (by kernel_rfl) (fun _ _ _ h => h) (Or.inl ⟨by rfl, fun w' hSw => ?_⟩) (by assumption) ?_
            · ((try dsimp only at hSw); go_simp)
            try simp only [Act.put, List.setIfInBounds_toArray, List.set_cons_zero, List.set_cons_succ]
            refine wpAnyH_take (i := 9) (oi := { dst := some 25, op := _, type := _, pos := _, after := _, guard := _ }) (v := undef) rfl (by kernel_rfl) (by kernel_rfl) (by kernel_rfl) (fun _ _ _ h => h) (Or.inr ⟨by rfl, rfl⟩) (by assumption) ?_
            try simp only [Act.put, List.setIfInBounds_toArray, List.set_cons_zero, List.set_cons_succ]
            refine wpAnyH_take (i := 10) (oi := { dst := some 26, op := _, type := _, pos := _, after := _, guard := _ }) (v := undef) rfl (by kernel_rfl) (by kernel_rfl) (by kernel_rfl) (fun _ _ _ h => h) (Or.inr ⟨by rfl, rfl⟩) (by assumption) ?_
            try simp only [Act.put, List.setIfInBounds_toArray, List.set_cons_zero, List.set_cons_succ]
            refine wpAnyH_take (i := 11) (oi := { dst := some 27, op := _, type := _, pos := _, after := _, guard := _ }) (v := undef) rfl (by kernel_rfl) (by kernel_rfl) (by kernel_rfl) (fun _ _ _ h => h) (Or.inr ⟨by rfl, rfl⟩) (by assumption) ?_
            try simp only [Act.put, List.setIfInBounds_toArray, List.set_cons_zero, List.set_cons_succ]
            refine wpAnyH_take (i := 12) (oi := { dst := some 28, op := _, type := _, pos := _, after := _, guard := _ }) (v := .bool false) rfl (by kernel_rfl) (by kernel_rfl) (by kernel_rfl) (fun _ _ _ h => h) (Or.inl ⟨by rfl, fun w' hSw => ?_⟩) (by assumption) ?_
            · ((try dsimp only at hSw); go_simp)
            try simp only [Act.put, List.setIfInBounds_toArray, List.set_cons_zero, List.set_cons_succ]
            refine wpAnyH_take (i := 13) (oi := { dst := some 29, op := _, type := _, pos := _, after := _, guard := _ }) (v := .bool false) rfl (by kernel_rfl) (by kernel_rfl) (by kernel_rfl) (fun _ _ _ h => h) (Or.inl ⟨by rfl, fun w' hSw => ?_⟩) (by assumption) ?_
            · ((try dsimp only at hSw); go_simp)
            try simp only [Act.put, List.setIfInBounds_toArray, List.set_cons_zero, List.set_cons_succ]
            refine wpAnyH_take (i := 14) (oi := { dst := some 30, op := _, type := _, pos := _, after := _, guard := _ }) (v := undef) rfl (by kernel_rfl) (by kernel_rfl) (by kernel_rfl) (fun _ _ _ h => h) (Or.inr ⟨by rfl, rfl⟩) (by assumption) ?_
            try simp only [Act.put, List.setIfInBounds_toArray, List.set_cons_zero, List.set_cons_succ]
            refine wpAnyH_take (i := 15) (oi := { dst := some 31, op := _, type := _, pos := _, after := _, guard := _ }) (v := undef) rfl (by kernel_rfl) (by kernel_rfl) (by kernel_rfl) (fun _ _ _ h => h) (Or.inr ⟨by rfl, rfl⟩) (by assumption) ?_
            try simp only [Act.put, List.setIfInBounds_toArray, List.set_cons_zero, List.set_cons_succ]
            refine wpAnyH_take (i := 16) (oi := { dst := some 32, op := _, type := _, pos := _, after := _, guard := _ }) (v := undef) rfl (by kernel_rfl) (by kernel_rfl) (by kernel_rfl) (fun _ _ _ h => h) (Or.inr ⟨by rfl, rfl⟩) (by assumption) ?_
            try simp only [Act.put, List.setIfInBounds_toArray, List.set_cons_zero, List.set_cons_succ]
            refine wpAnyH_take (i := 17) (oi := { dst := some 33, op := _, type := _, pos := _, after := _, guard := _ }) (v := undef) rfl (by kernel_rfl) (by kernel_rfl) (by kernel_rfl) (fun _ _ _ h => h) (Or.inr ⟨by rfl, rfl⟩) (by assumption) ?_
            try simp only [Act.put, List.setIfInBounds_toArray, List.set_cons_zero, List.set_cons_succ]
            refine wpAnyH_take (i := 18) (oi := { dst := some 34, op := _, type := _, pos := _, after := _, guard := _ }) (v := undef) rfl (by kernel_rfl) (by kernel_rfl) (by kernel_rfl) (fun _ _ _ h => h) (Or.inr ⟨by rfl, rfl⟩) (by assumption) ?_
            try simp only [Act.put, List.setIfInBounds_toArray, List.set_cons_zero, List.set_cons_succ]
            refine wpAnyH_take (i := 19) (oi := { dst := some 35, op := _, type := _, pos := _, after := _, guard := _ }) (v := undef) rfl (by kernel_rfl) (by kernel_rfl) (by kernel_rfl) (fun _ _ _ h => h) (Or.inr ⟨by rfl, rfl⟩) (by assumption) ?_
            try simp only [Act.put, List.setIfInBounds_toArray, List.set_cons_zero, List.set_cons_succ]
            refine wpAnyH_take (i := 20) (oi := { dst := some 36, op := _, type := _, pos := _, after := _, guard := _ }) (v := .bool false) rfl (by kernel_rfl) (by kernel_rfl) (by kernel_rfl) (fun _ _ _ h => h) (Or.inl ⟨by rfl, fun w' hSw => ?_⟩) (by assumption) ?_
            · ((try dsimp only at hSw); go_simp)
            try simp only [Act.put, List.setIfInBounds_toArray, List.set_cons_zero, List.set_cons_succ]
            refine wpAnyH_done (by kernel_rfl) ?_ _
            refine NoPanic.normal ?_
            go_wp2_with fail
            go_meet
            case rel => exact ⟨by rw [HDF.out], HXY.out.on HDR.out⟩
          · by_cases k' : x.kind = 4
            · have k2 : (x.kind != 2) = true := by simpa using k
              have k4 : (x.kind != 4) = false := by simpa using k'
              clear hk hkk k k' HDK HDN CH HO1 HO2 HO3 HS0 HS1 HS2 HL CI HBZ
              refine wp_region_noPanic ?_
              refine wp_region_held_drew (S := (fun w' => w'.cell? ⟨w.heap.size, 0, none⟩ = some (.int .i64 x.kind) ∧ w'.cell? ⟨w.heap.size, 1, none⟩ = some (.string x.p) ∧ w'.cell? ⟨w.heap.size, 2, none⟩ = some (.string x.dst) ∧ w'.cell? ⟨w.heap.size, 3, none⟩ = some (.int .i64 x.at_) ∧ w'.cell? ⟨w.heap.size, 4, none⟩ = some (.slice x.a1 x.old.length x.c1) ∧ w'.cell? ⟨w.heap.size, 5, none⟩ = some (.slice x.a2 x.new.length x.c2) ∧ w'.cell? ⟨w.heap.size + 1, 0, none⟩ = some (.int .i64 y.kind) ∧ w'.cell? ⟨w.heap.size + 1, 1, none⟩ = some (.string y.p) ∧ w'.cell? ⟨w.heap.size + 1, 2, none⟩ = some (.string y.dst) ∧ w'.cell? ⟨w.heap.size + 1, 3, none⟩ = some (.int .i64 y.at_) ∧ w'.cell? ⟨w.heap.size + 1, 4, none⟩ = some (.slice y.a1 y.old.length y.c1) ∧ w'.cell? ⟨w.heap.size + 1, 5, none⟩ = some (.slice y.a2 y.new.length y.c2))) (by kernel_rfl) (six_six (HXY.out.on HDR.out).2.1 (HXY.out.on HDR.out).2.2) (fun hHeld => ?_)
              refine wpAnyH_take (i := 0) (oi := { dst := some 16, op := _, type := _, pos := _, after := _, guard := _ }) (v := .pointer (some ⟨w.heap.size, 0, none⟩)) rfl (by kernel_rfl) (by kernel_rfl) (by kernel_rfl) (fun _ _ _ h => h) (Or.inl ⟨by rfl, fun w' hSw => ?_⟩) (by assumption) ?_
              · ((try dsimp only at hSw); go_simp)
              try simp only [Act.put, List.setIfInBounds_toArray, List.set_cons_zero, List.set_cons_succ]
              refine wpAnyH_take (i := 1) (oi := { dst := some 17, op := _, type := _, pos := _, after := _, guard := _ }) (v := .int .i64 x.kind) rfl (by kernel_rfl) (by kernel_rfl) (by kernel_rfl) (fun _ _ _ h => h) (Or.inl ⟨by rfl, fun w' hSw => ?_⟩) (by assumption) ?_
              · ((try dsimp only at hSw); go_simp)
              try simp only [Act.put, List.setIfInBounds_toArray, List.set_cons_zero, List.set_cons_succ]
              refine wpAnyH_take (i := 2) (oi := { dst := some 18, op := _, type := _, pos := _, after := _, guard := _ }) (v := .bool true) rfl (by kernel_rfl) (by kernel_rfl) (by kernel_rfl) (fun _ _ _ h => h) (Or.inl ⟨by rfl, fun w' hSw => ?_⟩) (by assumption) ?_
              · ((try dsimp only at hSw); go_simp)
              try simp only [Act.put, List.setIfInBounds_toArray, List.set_cons_zero, List.set_cons_succ]
              refine wpAnyH_take (i := 3) (oi := { dst := some 19, op := _, type := _, pos := _, after := _, guard := _ }) (v := .bool true) rfl (by kernel_rfl) (by kernel_rfl) (by kernel_rfl) (fun _ _ _ h => h) (Or.inl ⟨by rfl, fun w' hSw => ?_⟩) (by assumption) ?_
              · ((try dsimp only at hSw); go_simp)
              try simp only [Act.put, List.setIfInBounds_toArray, List.set_cons_zero, List.set_cons_succ]
              refine wpAnyH_take (i := 4) (oi := { dst := some 20, op := _, type := _, pos := _, after := _, guard := _ }) (v := .pointer (some ⟨w.heap.size, 0, none⟩)) rfl (by kernel_rfl) (by kernel_rfl) (by kernel_rfl) (fun _ _ _ h => h) (Or.inl ⟨by rfl, fun w' hSw => ?_⟩) (by assumption) ?_
              · ((try dsimp only at hSw); go_simp)
              try simp only [Act.put, List.setIfInBounds_toArray, List.set_cons_zero, List.set_cons_succ]
              refine wpAnyH_take (i := 5) (oi := { dst := some 21, op := _, type := _, pos := _, after := _, guard := _ }) (v := .int .i64 x.kind) rfl (by kernel_rfl) (by kernel_rfl) (by kernel_rfl) (fun _ _ _ h => h) (Or.inl ⟨by rfl, fun w' hSw => ?_⟩) (by assumption) ?_
              · ((try dsimp only at hSw); go_simp)
              try simp only [Act.put, List.setIfInBounds_toArray, List.set_cons_zero, List.set_cons_succ]
              refine wpAnyH_take (i := 6) (oi := { dst := some 22, op := _, type := _, pos := _, after := _, guard := _ }) (v := .bool false) rfl (by kernel_rfl) (by kernel_rfl) (by kernel_rfl) (fun _ _ _ h => h) (Or.inl ⟨by rfl, fun w' hSw => ?_⟩) (by assumption) ?_
              · ((try dsimp only at hSw); go_simp)
              try simp only [Act.put, List.setIfInBounds_toArray, List.set_cons_zero, List.set_cons_succ]
              refine wpAnyH_take (i := 7) (oi := { dst := some 23, op := _, type := _, pos := _, after := _, guard := _ }) (v := .bool false) rfl (by kernel_rfl) (by kernel_rfl) (by kernel_rfl) (fun _ _ _ h => h) (Or.inl ⟨by rfl, fun w' hSw => ?_⟩) (by assumption) ?_
              · ((try dsimp only at hSw); go_simp)
              try simp only [Act.put, List.setIfInBounds_toArray, List.set_cons_zero, List.set_cons_succ]
              refine wpAnyH_take (i := 8) (oi := { dst := some 24, op := _, type := _, pos := _, after := _, guard := _ }) (v := .bool false) rfl (by kernel_rfl) (by kernel_rfl) (by kernel_rfl) (fun _ _ _ h => h) (Or.inl ⟨by rfl, fun w' hSw => ?_⟩) (by assumption) ?_
              · ((try dsimp only at hSw); go_simp)
              try simp only [Act.put, List.setIfInBounds_toArray, List.set_cons_zero, List.set_cons_succ]
              refine wpAnyH_take (i := 9) (oi := { dst := some 25, op := _, type := _, pos := _, after := _, guard := _ }) (v := undef) rfl (by kernel_rfl) (by kernel_rfl) (by kernel_rfl) (fun _ _ _ h => h) (Or.inr ⟨by rfl, rfl⟩) (by assumption) ?_
              try simp only [Act.put, List.setIfInBounds_toArray, List.set_cons_zero, List.set_cons_succ]
              refine wpAnyH_take (i := 10) (oi := { dst := some 26, op := _, type := _, pos := _, after := _, guard := _ }) (v := undef) rfl (by kernel_rfl) (by kernel_rfl) (by kernel_rfl) (fun _ _ _ h => h) (Or.inr ⟨by rfl, rfl⟩) (by assumption) ?_
              try simp only [Act.put, List.setIfInBounds_toArray, List.set_cons_zero, List.set_cons_succ]
              refine wpAnyH_take (i := 11) (oi := { dst := some 27, op := _, type := _, pos := _, after := _, guard := _ }) (v := undef) rfl (by kernel_rfl) (by kernel_rfl) (by kernel_rfl) (fun _ _ _ h => h) (Or.inr ⟨by rfl, rfl⟩) (by assumption) ?_
              try simp only [Act.put, List.setIfInBounds_toArray, List.set_cons_zero, List.set_cons_succ]
              refine wpAnyH_take (i := 12) (oi := { dst := some 28, op := _, type := _, pos := _, after := _, guard := _ }) (v := .bool false) rfl (by kernel_rfl) (by kernel_rfl) (by kernel_rfl) (fun _ _ _ h => h) (Or.inl ⟨by rfl, fun w' hSw => ?_⟩) (by assumption) ?_
              · ((try dsimp only at hSw); go_simp)
              try simp only [Act.put, List.setIfInBounds_toArray, List.set_cons_zero, List.set_cons_succ]
              refine wpAnyH_take (i := 13) (oi := { dst := some 29, op := _, type := _, pos := _, after := _, guard := _ }) (v := .bool false) rfl (by kernel_rfl) (by kernel_rfl) (by kernel_rfl) (fun _ _ _ h => h) (Or.inl ⟨by rfl, fun w' hSw => ?_⟩) (by assumption) ?_
              · ((try dsimp only at hSw); go_simp)
              try simp only [Act.put, List.setIfInBounds_toArray, List.set_cons_zero, List.set_cons_succ]
              refine wpAnyH_take (i := 14) (oi := { dst := some 30, op := _, type := _, pos := _, after := _, guard := _ }) (v := undef) rfl (by kernel_rfl) (by kernel_rfl) (by kernel_rfl) (fun _ _ _ h => h) (Or.inr ⟨by rfl, rfl⟩) (by assumption) ?_
              try simp only [Act.put, List.setIfInBounds_toArray, List.set_cons_zero, List.set_cons_succ]
              refine wpAnyH_take (i := 15) (oi := { dst := some 31, op := _, type := _, pos := _, after := _, guard := _ }) (v := undef) rfl (by kernel_rfl) (by kernel_rfl) (by kernel_rfl) (fun _ _ _ h => h) (Or.inr ⟨by rfl, rfl⟩) (by assumption) ?_
              try simp only [Act.put, List.setIfInBounds_toArray, List.set_cons_zero, List.set_cons_succ]
              refine wpAnyH_take (i := 16) (oi := { dst := some 32, op := _, type := _, pos := _, after := _, guard := _ }) (v := undef) rfl (by kernel_rfl) (by kernel_rfl) (by kernel_rfl) (fun _ _ _ h => h) (Or.inr ⟨by rfl, rfl⟩) (by assumption) ?_
              try simp only [Act.put, List.setIfInBounds_toArray, List.set_cons_zero, List.set_cons_succ]
              refine wpAnyH_take (i := 17) (oi := { dst := some 33, op := _, type := _, pos := _, after := _, guard := _ }) (v := undef) rfl (by kernel_rfl) (by kernel_rfl) (by kernel_rfl) (fun _ _ _ h => h) (Or.inr ⟨by rfl, rfl⟩) (by assumption) ?_
              try simp only [Act.put, List.setIfInBounds_toArray, List.set_cons_zero, List.set_cons_succ]
              refine wpAnyH_take (i := 18) (oi := { dst := some 34, op := _, type := _, pos := _, after := _, guard := _ }) (v := undef) rfl (by kernel_rfl) (by kernel_rfl) (by kernel_rfl) (fun _ _ _ h => h) (Or.inr ⟨by rfl, rfl⟩) (by assumption) ?_
              try simp only [Act.put, List.setIfInBounds_toArray, List.set_cons_zero, List.set_cons_succ]
              refine wpAnyH_take (i := 19) (oi := { dst := some 35, op := _, type := _, pos := _, after := _, guard := _ }) (v := undef) rfl (by kernel_rfl) (by kernel_rfl) (by kernel_rfl) (fun _ _ _ h => h) (Or.inr ⟨by rfl, rfl⟩) (by assumption) ?_
              try simp only [Act.put, List.setIfInBounds_toArray, List.set_cons_zero, List.set_cons_succ]
              refine wpAnyH_take (i := 20) (oi := { dst := some 36, op := _, type := _, pos := _, after := _, guard := _ }) (v := .bool false) rfl (by kernel_rfl) (by kernel_rfl) (by kernel_rfl) (fun _ _ _ h => h) (Or.inl ⟨by rfl, fun w' hSw => ?_⟩) (by assumption) ?_
              · ((try dsimp only at hSw); go_simp)
              try simp only [Act.put, List.setIfInBounds_toArray, List.set_cons_zero, List.set_cons_succ]
              refine wpAnyH_done (by kernel_rfl) ?_ _
              refine NoPanic.normal ?_
              go_wp2_with fail
              go_meet
              case rel => exact ⟨by rw [HDF.out], HXY.out.on HDR.out⟩
            · have k2 : (x.kind != 2) = true := by simpa using k
              have k4 : (x.kind != 4) = true := by simpa using k'
              have k6 : (x.kind != 6) = false := by simp; omega
              clear hk hkk k k' HDK HDN CH HO1 HO2 HO3 HS0 HS1 HS2 HL CI HBZ
              refine wp_region_noPanic ?_
              refine wp_region_held_drew (S := (fun w' => w'.cell? ⟨w.heap.size, 0, none⟩ = some (.int .i64 x.kind) ∧ w'.cell? ⟨w.heap.size, 1, none⟩ = some (.string x.p) ∧ w'.cell? ⟨w.heap.size, 2, none⟩ = some (.string x.dst) ∧ w'.cell? ⟨w.heap.size, 3, none⟩ = some (.int .i64 x.at_) ∧ w'.cell? ⟨w.heap.size, 4, none⟩ = some (.slice x.a1 x.old.length x.c1) ∧ w'.cell? ⟨w.heap.size, 5, none⟩ = some (.slice x.a2 x.new.length x.c2) ∧ w'.cell? ⟨w.heap.size + 1, 0, none⟩ = some (.int .i64 y.kind) ∧ w'.cell? ⟨w.heap.size + 1, 1, none⟩ = some (.string y.p) ∧ w'.cell? ⟨w.heap.size + 1, 2, none⟩ = some (.string y.dst) ∧ w'.cell? ⟨w.heap.size + 1, 3, none⟩ = some (.int .i64 y.at_) ∧ w'.cell? ⟨w.heap.size + 1, 4, none⟩ = some (.slice y.a1 y.old.length y.c1) ∧ w'.cell? ⟨w.heap.size + 1, 5, none⟩ = some (.slice y.a2 y.new.length y.c2))) (by kernel_rfl) (six_six (HXY.out.on HDR.out).2.1 (HXY.out.on HDR.out).2.2) (fun hHeld => ?_)
              refine wpAnyH_take (i := 0) (oi := { dst := some 16, op := _, type := _, pos := _, after := _, guard := _ }) (v := .pointer (some ⟨w.heap.size, 0, none⟩)) rfl (by kernel_rfl) (by kernel_rfl) (by kernel_rfl) (fun _ _ _ h => h) (Or.inl ⟨by rfl, fun w' hSw => ?_⟩) (by assumption) ?_
              · ((try dsimp only at hSw); go_simp)
              try simp only [Act.put, List.setIfInBounds_toArray, List.set_cons_zero, List.set_cons_succ]
              refine wpAnyH_take (i := 1) (oi := { dst := some 17, op := _, type := _, pos := _, after := _, guard := _ }) (v := .int .i64 x.kind) rfl (by kernel_rfl) (by kernel_rfl) (by kernel_rfl) (fun _ _ _ h => h) (Or.inl ⟨by rfl, fun w' hSw => ?_⟩) (by assumption) ?_
              · ((try dsimp only at hSw); go_simp)
              try simp only [Act.put, List.setIfInBounds_toArray, List.set_cons_zero, List.set_cons_succ]
              refine wpAnyH_take (i := 2) (oi := { dst := some 18, op := _, type := _, pos := _, after := _, guard := _ }) (v := .bool true) rfl (by kernel_rfl) (by kernel_rfl) (by kernel_rfl) (fun _ _ _ h => h) (Or.inl ⟨by rfl, fun w' hSw => ?_⟩) (by assumption) ?_
              · ((try dsimp only at hSw); go_simp)
              try simp only [Act.put, List.setIfInBounds_toArray, List.set_cons_zero, List.set_cons_succ]
              refine wpAnyH_take (i := 3) (oi := { dst := some 19, op := _, type := _, pos := _, after := _, guard := _ }) (v := .bool true) rfl (by kernel_rfl) (by kernel_rfl) (by kernel_rfl) (fun _ _ _ h => h) (Or.inl ⟨by rfl, fun w' hSw => ?_⟩) (by assumption) ?_
              · ((try dsimp only at hSw); go_simp)
              try simp only [Act.put, List.setIfInBounds_toArray, List.set_cons_zero, List.set_cons_succ]
              refine wpAnyH_take (i := 4) (oi := { dst := some 20, op := _, type := _, pos := _, after := _, guard := _ }) (v := .pointer (some ⟨w.heap.size, 0, none⟩)) rfl (by kernel_rfl) (by kernel_rfl) (by kernel_rfl) (fun _ _ _ h => h) (Or.inl ⟨by rfl, fun w' hSw => ?_⟩) (by assumption) ?_
              · ((try dsimp only at hSw); go_simp)
              try simp only [Act.put, List.setIfInBounds_toArray, List.set_cons_zero, List.set_cons_succ]
              refine wpAnyH_take (i := 5) (oi := { dst := some 21, op := _, type := _, pos := _, after := _, guard := _ }) (v := .int .i64 x.kind) rfl (by kernel_rfl) (by kernel_rfl) (by kernel_rfl) (fun _ _ _ h => h) (Or.inl ⟨by rfl, fun w' hSw => ?_⟩) (by assumption) ?_
              · ((try dsimp only at hSw); go_simp)
              try simp only [Act.put, List.setIfInBounds_toArray, List.set_cons_zero, List.set_cons_succ]
              refine wpAnyH_take (i := 6) (oi := { dst := some 22, op := _, type := _, pos := _, after := _, guard := _ }) (v := .bool true) rfl (by kernel_rfl) (by kernel_rfl) (by kernel_rfl) (fun _ _ _ h => h) (Or.inl ⟨by rfl, fun w' hSw => ?_⟩) (by assumption) ?_
              · ((try dsimp only at hSw); go_simp)
              try simp only [Act.put, List.setIfInBounds_toArray, List.set_cons_zero, List.set_cons_succ]
              refine wpAnyH_take (i := 7) (oi := { dst := some 23, op := _, type := _, pos := _, after := _, guard := _ }) (v := .bool true) rfl (by kernel_rfl) (by kernel_rfl) (by kernel_rfl) (fun _ _ _ h => h) (Or.inl ⟨by rfl, fun w' hSw => ?_⟩) (by assumption) ?_
              · ((try dsimp only at hSw); go_simp)
              try simp only [Act.put, List.setIfInBounds_toArray, List.set_cons_zero, List.set_cons_succ]
              refine wpAnyH_take (i := 8) (oi := { dst := some 24, op := _, type := _, pos := _, after := _, guard := _ }) (v := .bool true) rfl (by kernel_rfl) (by kernel_rfl) (by kernel_rfl) (fun _ _ _ h => h) (Or.inl ⟨by rfl, fun w' hSw => ?_⟩) (by assumption) ?_
              · ((try dsimp only at hSw); go_simp)
              try simp only [Act.put, List.setIfInBounds_toArray, List.set_cons_zero, List.set_cons_succ]
              refine wpAnyH_take (i := 9) (oi := { dst := some 25, op := _, type := _, pos := _, after := _, guard := _ }) (v := .pointer (some ⟨w.heap.size, 0, none⟩)) rfl (by kernel_rfl) (by kernel_rfl) (by kernel_rfl) (fun _ _ _ h => h) (Or.inl ⟨by rfl, fun w' hSw => ?_⟩) (by assumption) ?_
              · ((try dsimp only at hSw); go_simp)
              try simp only [Act.put, List.setIfInBounds_toArray, List.set_cons_zero, List.set_cons_succ]
              refine wpAnyH_take (i := 10) (oi := { dst := some 26, op := _, type := _, pos := _, after := _, guard := _ }) (v := .int .i64 x.kind) rfl (by kernel_rfl) (by kernel_rfl) (by kernel_rfl) (fun _ _ _ h => h) (Or.inl ⟨by rfl, fun w' hSw => ?_⟩) (by assumption) ?_
              · ((try dsimp only at hSw); go_simp)
              try simp only [Act.put, List.setIfInBounds_toArray, List.set_cons_zero, List.set_cons_succ]
              refine wpAnyH_take (i := 11) (oi := { dst := some 27, op := _, type := _, pos := _, after := _, guard := _ }) (v := .bool false) rfl (by kernel_rfl) (by kernel_rfl) (by kernel_rfl) (fun _ _ _ h => h) (Or.inl ⟨by rfl, fun w' hSw => ?_⟩) (by assumption) ?_
              · ((try dsimp only at hSw); go_simp)
              try simp only [Act.put, List.setIfInBounds_toArray, List.set_cons_zero, List.set_cons_succ]
              refine wpAnyH_take (i := 12) (oi := { dst := some 28, op := _, type := _, pos := _, after := _, guard := _ }) (v := .bool false) rfl (by kernel_rfl) (by kernel_rfl) (by kernel_rfl) (fun _ _ _ h => h) (Or.inl ⟨by rfl, fun w' hSw => ?_⟩) (by assumption) ?_
              · ((try dsimp only at hSw); go_simp)
              try simp only [Act.put, List.setIfInBounds_toArray, List.set_cons_zero, List.set_cons_succ]
              refine wpAnyH_take (i := 13) (oi := { dst := some 29, op := _, type := _, pos := _, after := _, guard := _ }) (v := .bool false) rfl (by kernel_rfl) (by kernel_rfl) (by kernel_rfl) (fun _ _ _ h => h) (Or.inl ⟨by rfl, fun w' hSw => ?_⟩) (by assumption) ?_
              · ((try dsimp only at hSw); go_simp)
              try simp only [Act.put, List.setIfInBounds_toArray, List.set_cons_zero, List.set_cons_succ]
              refine wpAnyH_take (i := 14) (oi := { dst := some 30, op := _, type := _, pos := _, after := _, guard := _ }) (v := undef) rfl (by kernel_rfl) (by kernel_rfl) (by kernel_rfl) (fun _ _ _ h => h) (Or.inr ⟨by rfl, rfl⟩) (by assumption) ?_
              try simp only [Act.put, List.setIfInBounds_toArray, List.set_cons_zero, List.set_cons_succ]
              refine wpAnyH_take (i := 15) (oi := { dst := some 31, op := _, type := _, pos := _, after := _, guard := _ }) (v := undef) rfl (by kernel_rfl) (by kernel_rfl) (by kernel_rfl) (fun _ _ _ h => h) (Or.inr ⟨by rfl, rfl⟩) (by assumption) ?_
              try simp only [Act.put, List.setIfInBounds_toArray, List.set_cons_zero, List.set_cons_succ]
              refine wpAnyH_take (i := 16) (oi := { dst := some 32, op := _, type := _, pos := _, after := _, guard := _ }) (v := undef) rfl (by kernel_rfl) (by kernel_rfl) (by kernel_rfl) (fun _ _ _ h => h) (Or.inr ⟨by rfl, rfl⟩) (by assumption) ?_
              try simp only [Act.put, List.setIfInBounds_toArray, List.set_cons_zero, List.set_cons_succ]
              refine wpAnyH_take (i := 17) (oi := { dst := some 33, op := _, type := _, pos := _, after := _, guard := _ }) (v := undef) rfl (by kernel_rfl) (by kernel_rfl) (by kernel_rfl) (fun _ _ _ h => h) (Or.inr ⟨by rfl, rfl⟩) (by assumption) ?_
              try simp only [Act.put, List.setIfInBounds_toArray, List.set_cons_zero, List.set_cons_succ]
              refine wpAnyH_take (i := 18) (oi := { dst := some 34, op := _, type := _, pos := _, after := _, guard := _ }) (v := undef) rfl (by kernel_rfl) (by kernel_rfl) (by kernel_rfl) (fun _ _ _ h => h) (Or.inr ⟨by rfl, rfl⟩) (by assumption) ?_
              try simp only [Act.put, List.setIfInBounds_toArray, List.set_cons_zero, List.set_cons_succ]
              refine wpAnyH_take (i := 19) (oi := { dst := some 35, op := _, type := _, pos := _, after := _, guard := _ }) (v := undef) rfl (by kernel_rfl) (by kernel_rfl) (by kernel_rfl) (fun _ _ _ h => h) (Or.inr ⟨by rfl, rfl⟩) (by assumption) ?_
              try simp only [Act.put, List.setIfInBounds_toArray, List.set_cons_zero, List.set_cons_succ]
              refine wpAnyH_take (i := 20) (oi := { dst := some 36, op := _, type := _, pos := _, after := _, guard := _ }) (v := .bool false) rfl (by kernel_rfl) (by kernel_rfl) (by kernel_rfl) (fun _ _ _ h => h) (Or.inl ⟨by rfl, fun w' hSw => ?_⟩) (by assumption) ?_
              · ((try dsimp only at hSw); go_simp)
              try simp only [Act.put, List.setIfInBounds_toArray, List.set_cons_zero, List.set_cons_succ]
              refine wpAnyH_done (by kernel_rfl) ?_ _
              refine NoPanic.normal ?_
              go_wp2_with fail
              go_meet
              case rel => exact ⟨by rw [HDF.out], HXY.out.on HDR.out⟩
      case rest =>
        obtain ⟨rfl, H3⟩ := hcut
        generalize hwn : wc = w3 at *
        clear hwn HXY HDR hkk CI HBZ HDK HDN
        cases d
        · have HO2 := Lib.hid (HO2.out rfl)
          have HO3 := Lib.hid (HO3.out rfl)
          have x0 := H3.out.2.1.c0
          have x2 := H3.out.2.1.c2
          have y0 := H3.out.2.2.c0
          have y1 := H3.out.2.2.c1
          go_upto_region 5 with (fail)
          go_cut [51] from 37 (fun s wx => s = .bool d5 ∧ wx = w3)
          case first =>
            by_cases h5 : x.kind = 5
            · have k5 : (x.kind == 5) = true := by simpa using h5
              by_cases m5 : y.kind = 5
              · have l5 : (y.kind == 5) = true := by simpa using m5
                have p5 : (y.p.toList == x.dst.toList) = d5 := by rw [str_beq, ← HD5.out]; simp [h5, m5]
                clear h5 m5 HO1 HO2 HO3 HS0 HS1 HS2 HL CH
                cases d5
                · go_wp2_with fail
                  go_meet
                  case rel => exact ⟨rfl, rfl⟩
                · go_wp2_with fail
                  go_meet
                  case rel => exact ⟨rfl, rfl⟩
              · have l5 : (y.kind == 5) = false := by simpa using m5
                have hf : d5 = false := by rw [← HD5.out]; simp [m5]
                subst hf
                clear h5 m5 HO1 HO2 HO3 HS0 HS1 HS2 HL CH
                go_wp2_with fail
                go_meet
                case rel => exact ⟨rfl, rfl⟩
            · have k5 : (x.kind == 5) = false := by simpa using h5
              have hf : d5 = false := by rw [← HD5.out]; simp [h5]
              subst hf
              clear h5 HO1 HO2 HO3 HS0 HS1 HS2 HL CH
              go_wp2_with fail
              go_meet
              case rel => exact ⟨rfl, rfl⟩
          case rest =>
            obtain ⟨rfl, hw3⟩ := hcut
            subst hw3
            clear x0 x2 y0 y1 HD5
            have HX : Hid (PrimAt wc w.heap.size x) := H3.out.2.1
            have HY : Hid (PrimAt wc (w.heap.size + 1) y) := H3.out.2.2
            have HA : Hid (Below w.heap.size w wc) := H3.out.1
            clear H3
            cases d5
            · have hs := HO3.out rfl
              subst hs
              clear HO1 HO2 HO3
              have x0 := HX.out.c0
              have x1 := HX.out.c1
              have x2 := HX.out.c2
              have x3 := HX.out.c3
              have x4 := HX.out.c4
              have x5 := HX.out.c5
              have y0 := HY.out.c0
              have y1 := HY.out.c1
              have y2 := HY.out.c2
              have y3 := HY.out.c3
              have y4 := HY.out.c4
              have y5 := HY.out.c5
              go_wp2_with fail
              refine (CH.out wc HA.out).mono ?_
              rintro e w3 ⟨z, rfl, hz, hb⟩
              clear x0 y0 x1 y1 x2 y2 x3 y3 x4 y4 x5 y5
              replace HA := Lib.hid (HA.out.trans (hb.mono HA.out.size))
              clear hb HX HY CH
              have HZ := Lib.hid hz.out
              clear hz
              have hal : Below w3.heap.size w3 (w3.alloc (.cells #[.int .i64 z.kind, .string z.p, .string z.dst, .int .i64 z.at_, .slice z.a1 z.old.length z.c1, .slice z.a2 z.new.length z.c2] 24)) := (Below.refl _ _).alloc (Nat.le_refl _) _
              have HP := Lib.hid (PrimAt.new_ w3 z)
              have HAL := Lib.hid (HA.out.trans (hal.mono HA.out.size))
              cases oh with
              | none =>
                have hs6 := HS0.out rfl
                subst hs6
                clear HS0 HS1 HS2
                have HE : Hid (PairLeft w none (.returned (.tuple #[.slice none 0 0, .bool false])) (w3.alloc (.cells #[.int .i64 z.kind, .string z.p, .string z.dst, .int .i64 z.at_, .slice z.a1 z.old.length z.c1, .slice z.a2 z.new.length z.c2] 24))) := pair_bare HAL.out false rfl rfl
                clear HZ HP hal HL
                go_wp2
                go_ret2
                exact HE.out
              | some hh =>
                have hk : z.key = hh := HZ.out.2
                have ho : z.old = hh.old := congrArg Pk.old hk
                have hn : z.new = hh.new := congrArg Pk.new hk
                obtain ⟨d, hd⟩ : ∃ d, decide (z.old = z.new) = d := ⟨_, rfl⟩
                have CE := Lib.hid (rsame9 z.a1 z.a2 z.old z.new z.c1 z.c2 (w3.alloc (.cells #[.int .i64 z.kind, .string z.p, .string z.dst, .int .i64 z.at_, .slice z.a1 z.old.length z.c1, .slice z.a2 z.new.length z.c2] 24)) d hd (HZ.out.1.1.on hal).h.old (HZ.out.1.1.on hal).h.new (by rw [ho]; exact (HL.out hh rfl).1) (by rw [hn]; exact (HL.out hh rfl).2))
                have p4 := HP.out.c4
                have p5 := HP.out.c5
                have HZA := Lib.hid (HZ.out.1.on hal)
                rw [ho, hn] at hd
                cases d
                · have hne : ¬ hh.old = hh.new := of_decide_eq_false hd
                  have hs6 := HS2.out hh rfl hne
                  subst hs6
                  clear HS0 HS1 HS2
                  have HS : Hid (some [hh] = some [z.key]) := by show _ = _; rw [hk]
                  have CE := Lib.hid CE.out
                  clear hk ho hn hd HZ hne HL
                  go_wp2_with fail
                  have e1 : (w3.alloc (.cells z.cells.toArray 24)) = (w3.alloc (.cells #[.int .i64 z.kind, .string z.p, .string z.dst, .int .i64 z.at_, .slice z.a1 z.old.length z.c1, .slice z.a2 z.new.length z.c2] 24)) := rfl
                  rw [e1] at HP
                  clear e1
                  generalize hwb : (w3.alloc (.cells #[.int .i64 z.kind, .string z.p, .string z.dst, .int .i64 z.at_, .slice z.a1 z.old.length z.c1, .slice z.a2 z.new.length z.c2] 24)) = wb at *
                  clear hwb hal
                  refine CE.out.mono ?_
                  rintro e w4 ⟨rfl, q4, hw4⟩
                  have hb : Below wb.heap.size wb w4 := by subst hw4; exact below_drewN (Below.refl _ _) q4
                  replace HP := Lib.hid (HP.out.on hb)
                  replace HZA := Lib.hid (HZA.out.on hb)
                  replace HAL := Lib.hid (HAL.out.trans (hb.mono HAL.out.size))
                  clear hb hw4 p4 p5 CE
                  have x0 := HP.out.c0
                  have x1 := HP.out.c1
                  have x2 := HP.out.c2
                  have x3 := HP.out.c3
                  have x4 := HP.out.c4
                  have x5 := HP.out.c5
                  have HF := Lib.hid (pair_one (w := w) HAL.out HZA.out HS.out)
                  go_wp2
                  go_ret2
                  exact HF.out
                · have he : hh.old = hh.new := of_decide_eq_true hd
                  have hs6 := HS1.out hh rfl he
                  subst hs6
                  clear HS0 HS1 HS2
                  have CE := Lib.hid CE.out
                  clear hk ho hn hd HZ he HL
                  go_wp2_with fail
                  have e1 : (w3.alloc (.cells z.cells.toArray 24)) = (w3.alloc (.cells #[.int .i64 z.kind, .string z.p, .string z.dst, .int .i64 z.at_, .slice z.a1 z.old.length z.c1, .slice z.a2 z.new.length z.c2] 24)) := rfl
                  rw [e1] at HP
                  clear e1
                  generalize hwb : (w3.alloc (.cells #[.int .i64 z.kind, .string z.p, .string z.dst, .int .i64 z.at_, .slice z.a1 z.old.length z.c1, .slice z.a2 z.new.length z.c2] 24)) = wb at *
                  clear hwb hal
                  refine CE.out.mono ?_
                  rintro e w4 ⟨rfl, q4, hw4⟩
                  have hb : Below wb.heap.size wb w4 := by subst hw4; exact below_drewN (Below.refl _ _) q4
                  replace HAL := Lib.hid (HAL.out.trans (hb.mono HAL.out.size))
                  clear hb hw4 p4 p5 CE HP HZA
                  have HF : Hid (PairLeft w (some []) (.returned (.tuple #[.slice none 0 0, .bool true])) w4) := pair_bare HAL.out true rfl rfl
                  go_wp2
                  go_ret2
                  exact HF.out
            · have hs := HO2.out rfl
              subst hs
              clear HO1 HO2 HO3 HS0 HS1 HS2 HL CH
              have x0 := HX.out.c0
              have x1 := HX.out.c1
              have x2 := HX.out.c2
              have x3 := HX.out.c3
              have x4 := HX.out.c4
              have x5 := HX.out.c5
              have y0 := HY.out.c0
              have y1 := HY.out.c1
              have y2 := HY.out.c2
              have y3 := HY.out.c3
              have y4 := HY.out.c4
              have y5 := HY.out.c5
              have HE := Lib.hid (pair_one (w := w) (z := ⟨5, x.p, y.dst, 0, none, 0, [], none, 0, []⟩) HA.out (sep_bare wc 5 x.p y.dst HPQ.out.1 HPQ.out.2 (by decide) (by decide)) (rfl : some [(⟨5, x.key.path, y.key.dst, 0, [], []⟩ : Pk)] = _))
              go_wp2
              go_ret2
              exact HE.out
        · have hs := HO1.out rfl
          subst hs
          have HE : Hid (PairLeft w (some []) (.returned (.tuple #[.slice none 0 0, .bool true])) w3) := pair_bare H3.out.1 true rfl rfl
          clear HO1 HO2 HO3 HS0 HS1 HS2 HL CH H3
          go_wp2
          go_ret2
          exact HE.out
    · have k2 : (ckP y.key != 0) = true := by simpa using h2
      rw [fuse_wrong (fun h => h2 h.2)]
      rw [h1] at C1
      clear h1 h2 CH HPQ OX OY
      generalize ckP y.key = n2 at *
      go_enter Tryd.func8, Tryd.ntmps8
      go_wp2_with fail
      generalize hwa : ((w.alloc (.cells #[.int .i64 x.kind, .string x.p, .string x.dst, .int .i64 x.at_, .slice x.a1 x.old.length x.c1, .slice x.a2 x.new.length x.c2] 24)).alloc (.cells #[.int .i64 y.kind, .string y.p, .string y.dst, .int .i64 y.at_, .slice y.a1 y.old.length y.c1, .slice y.a2 y.new.length y.c2] 24)) = wa at *
      clear hwa
      refine (C1.out _ HA.out).mono ?_
      rintro e w1 ⟨rfl, hb⟩
      replace HX := Lib.hid (HX.out.on hb)
      replace HY := Lib.hid (HY.out.on hb)
      replace HA := Lib.hid (HA.out.trans (hb.mono HA.out.size))
      clear hb
      have x0 := HX.out.c0
      have x1 := HX.out.c1
      have x2 := HX.out.c2
      have x3 := HX.out.c3
      have x4 := HX.out.c4
      have x5 := HX.out.c5
      have y0 := HY.out.c0
      have y1 := HY.out.c1
      have y2 := HY.out.c2
      have y3 := HY.out.c3
      have y4 := HY.out.c4
      have y5 := HY.out.c5
      go_wp2_with fail
      refine (C2.out w1 HA.out).mono ?_
      rintro e w2 ⟨rfl, hb⟩
      replace HX := Lib.hid (HX.out.on hb)
      replace HY := Lib.hid (HY.out.on hb)
      replace HA := Lib.hid (HA.out.trans (hb.mono HA.out.size))
      clear hb
      clear x0 y0 x1 y1 x2 y2 x3 y3 x4 y4 x5 y5
      have HE : Hid (PairLeft w none (.returned (.tuple #[.slice none 0 0, .bool false])) w2) := pair_bare HA.out false rfl rfl
      go_wp2
      go_ret2
      exact HE.out
  · have k1 : (ckP x.key != 0) = true := by simpa using h1
    rw [fuse_wrong (fun h => h1 h.1)]
    clear h1 CH HPQ OX OY C2
    generalize ckP x.key = n1 at *
    go_enter Tryd.func8, Tryd.ntmps8
    go_wp2_with fail
    generalize hwa : ((w.alloc (.cells #[.int .i64 x.kind, .string x.p, .string x.dst, .int .i64 x.at_, .slice x.a1 x.old.length x.c1, .slice x.a2 x.new.length x.c2] 24)).alloc (.cells #[.int .i64 y.kind, .string y.p, .string y.dst, .int .i64 y.at_, .slice y.a1 y.old.length y.c1, .slice y.a2 y.new.length y.c2] 24)) = wa at *
    clear hwa
    refine (C1.out _ HA.out).mono ?_
    rintro e w1 ⟨rfl, hb⟩
    replace HX := Lib.hid (HX.out.on hb)
    replace HY := Lib.hid (HY.out.on hb)
    replace HA := Lib.hid (HA.out.trans (hb.mono HA.out.size))
    clear hb
    have HE : Hid (PairLeft w none (.returned (.tuple #[.slice none 0 0, .bool false])) w1) := pair_bare HA.out false rfl rfl
    go_wp2
    go_ret2
    exact HE.out

end Go.Proofs.YtempamboacbgiaaDoor
