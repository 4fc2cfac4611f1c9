/- Package fuse's Hunks, Pair. -/
import Derived.Test.YtempamboacbgiaaDoorCk15
namespace Go.Proofs.YtempamboacbgiaaDoor
open Go.RowKit
set_option linter.unusedVariables false


set_option maxHeartbeats 8000000 in
set_option maxRecDepth 100000 in
theorem fHunks_any (x y : Pm) (w : World) (ox : x.Ok w w.heap.size) (oy : y.Ok w w.heap.size) (wx : AtK x.key) (wy : AtK y.key) (hT : Tabs w) :
    Calls Tryd.prog 9 #[x.val, y.val] w (HunkLeft w (hunksP x.key y.key)) := by
  have C1 := Lib.hid (fun W => fone_any x y W _ rfl)
  have C2 := Lib.hid (fun W (hb : Below w.heap.size w W) => fright_any x y W (ox.on hb) (oy.on hb) wx.toWdK wy.toWdK (Tabs.on hT hb) _ rfl)
  have C3 := Lib.hid (fun h1 h2 h3 W (hb : Below w.heap.size w W) => fhunks_any x y W (ox.on hb) (oy.on hb) h1 h2 h3 wx.hi wy.hi)
  have H0 : Hid (¬ (x.kind = 6 ∧ y.kind = 6 ∧ x.p = y.p) → hunksP x.key y.key = none) := fun h => hunks_no (touch_not fun e => h ((one_iff x y).2 e))
  have H1 : Hid (¬ (ckP x.key = 0 ∧ ckP y.key = 0) → hunksP x.key y.key = none) := fun h => hunks_no (touch_wrong h)
  clear ox oy wx wy hT
  unfold Pm.val at C1 C2 C3 ⊢
  obtain ⟨hal, hx, hy, hg⟩ := box3 w x y
  have e0 : (((w.alloc (.cells x.cells.toArray 24)).alloc (.cells y.cells.toArray 24)).alloc (.cells (Pm.cells ⟨0, ⟨#[]⟩, ⟨#[]⟩, 0, none, 0, [], none, 0, []⟩).toArray 24)) = (((w.alloc (.cells #[.int .i64 x.kind, .string x.p, .string x.dst, .int .i64 x.at_, .slice x.a1 x.old.length x.c1, .slice x.a2 x.new.length x.c2] 24)).alloc (.cells #[.int .i64 y.kind, .string y.p, .string y.dst, .int .i64 y.at_, .slice y.a1 y.old.length y.c1, .slice y.a2 y.new.length y.c2] 24)).alloc (.cells #[.int .i64 0, .string ⟨#[]⟩, .string ⟨#[]⟩, .int .i64 0, .slice none 0 0, .slice none 0 0] 24)) := rfl
  rw [e0] at hal hx hy hg
  have HX := Lib.hid hx
  have HY := Lib.hid hy
  have HG := Lib.hid hg
  have HA := Lib.hid hal
  clear hal hx hy hg e0
  by_cases h1 : x.kind = 6 ∧ y.kind = 6 ∧ x.p = y.p
  · rw [decide_eq_true h1] at C1
    by_cases h2 : ckP x.key = 0 ∧ ckP y.key = 0
    · rw [decide_eq_true h2] at C2
      have C3 := Lib.hid (C3.out h2.1 h2.2 h1)
      clear H0 H1 h1 h2
      generalize hunksP x.key y.key = oh at *
      go_enter Tryd.func9, Tryd.ntmps9
      go_wp2_with fail
      generalize hwa : (((w.alloc (.cells #[.int .i64 x.kind, .string x.p, .string x.dst, .int .i64 x.at_, .slice x.a1 x.old.length x.c1, .slice x.a2 x.new.length x.c2] 24)).alloc (.cells #[.int .i64 y.kind, .string y.p, .string y.dst, .int .i64 y.at_, .slice y.a1 y.old.length y.c1, .slice y.a2 y.new.length y.c2] 24)).alloc (.cells #[.int .i64 0, .string ⟨#[]⟩, .string ⟨#[]⟩, .int .i64 0, .slice none 0 0, .slice none 0 0] 24)) = wa at *
      clear hwa
      refine (C1.out wa).mono ?_
      rintro e w1 ⟨rfl, hb⟩
      replace HX := Lib.hid (HX.out.on hb)
      replace HY := Lib.hid (HY.out.on hb)
      replace HG := Lib.hid (HG.out.on hb)
      replace HA := Lib.hid (HA.out.trans (hb.mono HA.out.size))
      clear hb
      have x0 := HX.out.c0
      have x1 := HX.out.c1
      have x2 := HX.out.c2
      have x3 := HX.out.c3
      have x4 := HX.out.c4
      have x5 := HX.out.c5
      have y0 := HY.out.c0
      have y1 := HY.out.c1
      have y2 := HY.out.c2
      have y3 := HY.out.c3
      have y4 := HY.out.c4
      have y5 := HY.out.c5
      go_wp2_with fail
      refine (C2.out w1 HA.out).mono ?_
      rintro e w2 ⟨rfl, hb⟩
      replace HX := Lib.hid (HX.out.on hb)
      replace HY := Lib.hid (HY.out.on hb)
      replace HG := Lib.hid (HG.out.on hb)
      replace HA := Lib.hid (HA.out.trans (hb.mono HA.out.size))
      clear hb
      clear x0 y0 x1 y1 x2 y2 x3 y3 x4 y4 x5 y5
      have x0 := HX.out.c0
      have x1 := HX.out.c1
      have x2 := HX.out.c2
      have x3 := HX.out.c3
      have x4 := HX.out.c4
      have x5 := HX.out.c5
      have y0 := HY.out.c0
      have y1 := HY.out.c1
      have y2 := HY.out.c2
      have y3 := HY.out.c3
      have y4 := HY.out.c4
      have y5 := HY.out.c5
      go_wp2_with fail
      refine (C3.out w2 HA.out).mono ?_
      rintro e w3 ⟨z, rfl, hz, hb⟩
      clear x0 y0 x1 y1 x2 y2 x3 y3 x4 y4 x5 y5
      replace HX := Lib.hid (HX.out.on hb)
      replace HY := Lib.hid (HY.out.on hb)
      replace HG := Lib.hid (HG.out.on hb)
      replace HA := Lib.hid (HA.out.trans (hb.mono HA.out.size))
      clear hb
      have g0 := HG.out.c0
      have gf0 := HG.out.fz 0
      have g1 := HG.out.c1
      have gf1 := HG.out.fz 1
      have g2 := HG.out.c2
      have gf2 := HG.out.fz 2
      have g3 := HG.out.c3
      have gf3 := HG.out.fz 3
      have g4 := HG.out.c4
      have gf4 := HG.out.fz 4
      have g5 := HG.out.c5
      have gf5 := HG.out.fz 5
      have HT := Lib.hid (hunk_set (w := w) (o := oh) HA.out (show w.heap.size ≤ w.heap.size + 1 + 1 by omega) HG.out hz.out.1 hz.out.2 oh.isSome rfl)
      have HT1 := Lib.hid HT.out.1
      have HT2 := Lib.hid HT.out.2
      clear HT hz
      go_wp2
      (try simp only [Exit.inBlock, Exit.then])
      refine bodyPost_ret (ret_prim2 rfl _ _ _ z _ rfl rfl HT2.out) rfl ?_
      exact HT1.out
    · rw [decide_eq_false h2] at C2
      rw [H1.out h2]
      clear H0 H1 h1 h2 C3
      go_enter Tryd.func9, Tryd.ntmps9
      go_wp2_with fail
      generalize hwa : (((w.alloc (.cells #[.int .i64 x.kind, .string x.p, .string x.dst, .int .i64 x.at_, .slice x.a1 x.old.length x.c1, .slice x.a2 x.new.length x.c2] 24)).alloc (.cells #[.int .i64 y.kind, .string y.p, .string y.dst, .int .i64 y.at_, .slice y.a1 y.old.length y.c1, .slice y.a2 y.new.length y.c2] 24)).alloc (.cells #[.int .i64 0, .string ⟨#[]⟩, .string ⟨#[]⟩, .int .i64 0, .slice none 0 0, .slice none 0 0] 24)) = wa at *
      clear hwa
      refine (C1.out wa).mono ?_
      rintro e w1 ⟨rfl, hb⟩
      replace HX := Lib.hid (HX.out.on hb)
      replace HY := Lib.hid (HY.out.on hb)
      replace HG := Lib.hid (HG.out.on hb)
      replace HA := Lib.hid (HA.out.trans (hb.mono HA.out.size))
      clear hb
      have x0 := HX.out.c0
      have x1 := HX.out.c1
      have x2 := HX.out.c2
      have x3 := HX.out.c3
      have x4 := HX.out.c4
      have x5 := HX.out.c5
      have y0 := HY.out.c0
      have y1 := HY.out.c1
      have y2 := HY.out.c2
      have y3 := HY.out.c3
      have y4 := HY.out.c4
      have y5 := HY.out.c5
      go_wp2_with fail
      refine (C2.out w1 HA.out).mono ?_
      rintro e w2 ⟨rfl, hb⟩
      replace HX := Lib.hid (HX.out.on hb)
      replace HY := Lib.hid (HY.out.on hb)
      replace HG := Lib.hid (HG.out.on hb)
      replace HA := Lib.hid (HA.out.trans (hb.mono HA.out.size))
      clear hb
      clear x0 y0 x1 y1 x2 y2 x3 y3 x4 y4 x5 y5
      have g0 := HG.out.c0
      have gf0 := HG.out.fz 0
      have g1 := HG.out.c1
      have gf1 := HG.out.fz 1
      have g2 := HG.out.c2
      have gf2 := HG.out.fz 2
      have g3 := HG.out.c3
      have gf3 := HG.out.fz 3
      have g4 := HG.out.c4
      have gf4 := HG.out.fz 4
      have g5 := HG.out.c5
      have gf5 := HG.out.fz 5
      have HT := Lib.hid (hunk_set (w := w) (o := none) HA.out (show w.heap.size ≤ w.heap.size + 1 + 1 by omega) HG.out (sep_zero _) (rfl : _ = zeroP) false rfl)
      have HT1 := Lib.hid HT.out.1
      have HT2 := Lib.hid HT.out.2
      clear HT
      go_wp2
      (try simp only [Exit.inBlock, Exit.then])
      refine bodyPost_ret (ret_prim2 rfl _ _ _ ⟨0, ⟨#[]⟩, ⟨#[]⟩, 0, none, 0, [], none, 0, []⟩ _ rfl rfl HT2.out) rfl ?_
      exact HT1.out
  · rw [decide_eq_false h1] at C1
    rw [H0.out h1]
    clear H0 H1 h1 C2 C3
    go_enter Tryd.func9, Tryd.ntmps9
    go_wp2_with fail
    generalize hwa : (((w.alloc (.cells #[.int .i64 x.kind, .string x.p, .string x.dst, .int .i64 x.at_, .slice x.a1 x.old.length x.c1, .slice x.a2 x.new.length x.c2] 24)).alloc (.cells #[.int .i64 y.kind, .string y.p, .string y.dst, .int .i64 y.at_, .slice y.a1 y.old.length y.c1, .slice y.a2 y.new.length y.c2] 24)).alloc (.cells #[.int .i64 0, .string ⟨#[]⟩, .string ⟨#[]⟩, .int .i64 0, .slice none 0 0, .slice none 0 0] 24)) = wa at *
    clear hwa
    refine (C1.out wa).mono ?_
    rintro e w1 ⟨rfl, hb⟩
    replace HX := Lib.hid (HX.out.on hb)
    replace HY := Lib.hid (HY.out.on hb)
    replace HG := Lib.hid (HG.out.on hb)
    replace HA := Lib.hid (HA.out.trans (hb.mono HA.out.size))
    clear hb
    have g0 := HG.out.c0
    have gf0 := HG.out.fz 0
    have g1 := HG.out.c1
    have gf1 := HG.out.fz 1
    have g2 := HG.out.c2
    have gf2 := HG.out.fz 2
    have g3 := HG.out.c3
    have gf3 := HG.out.fz 3
    have g4 := HG.out.c4
    have gf4 := HG.out.fz 4
    have g5 := HG.out.c5
    have gf5 := HG.out.fz 5
    have HT := Lib.hid (hunk_set (w := w) (o := none) HA.out (show w.heap.size ≤ w.heap.size + 1 + 1 by omega) HG.out (sep_zero _) (rfl : _ = zeroP) false rfl)
    have HT1 := Lib.hid HT.out.1
    have HT2 := Lib.hid HT.out.2
    clear HT
    go_wp2
    (try simp only [Exit.inBlock, Exit.then])
    refine bodyPost_ret (ret_prim2 rfl _ _ _ ⟨0, ⟨#[]⟩, ⟨#[]⟩, 0, none, 0, [], none, 0, []⟩ _ rfl rfl HT2.out) rfl ?_
    exact HT1.out

/-- Steps come back, or none, and whether they do. -/
def PairLeft (w : World) (o : Option (List Pk)) (e : Ending) (w' : World) : Prop :=
  ∃ (A : Option Addr) (n c : Nat) (ps : List Pm), e = .returned (.tuple #[.slice A n c, .bool o.isSome]) ∧ Hid (n = ps.length ∧ Ps w' w'.heap.size A ps ∧ Room A n c ∧ (∀ z ∈ ps, z.Sep w') ∧ pkeys ps = o.getD []) ∧ Below w.heap.size w w'
theorem pair_bare {w w' : World} {o : Option (List Pk)} (hb : Below w.heap.size w w') (b : Bool) (hbo : o.isSome = b) (ho : o.getD [] = []) : PairLeft w o (.returned (.tuple #[.slice none 0 0, .bool b])) w' := by
  subst hbo
  exact ⟨none, 0, 0, [], rfl, ⟨rfl, Ps.nil, ⟨fun _ => rfl, Nat.le_refl _⟩, fun z h => (by cases h), ho.symm⟩, hb⟩
/-- One step in a row of its own. -/
theorem pair_one {w w1 : World} {z : Pm} {o : Option (List Pk)} (hb : Below w.heap.size w w1) (hz : z.Sep w1) (ho : o = some [z.key]) :
    PairLeft w o (.returned (.tuple #[.slice (some ⟨w1.heap.size, 0, none⟩) 1 1, .bool true])) (w1.alloc (.cells #[.int .i64 z.kind, .string z.p, .string z.dst, .int .i64 z.at_, .slice z.a1 z.old.length z.c1, .slice z.a2 z.new.length z.c2] 24)) := by
  subst ho
  have hal : Below w1.heap.size w1 (w1.alloc (.cells #[.int .i64 z.kind, .string z.p, .string z.dst, .int .i64 z.at_, .slice z.a1 z.old.length z.c1, .slice z.a2 z.new.length z.c2] 24)) := (Below.refl _ _).alloc (Nat.le_refl _) _
  have hp := ps_new (w := w1) (ps := [z]) (fun x hx => by
    simp only [List.mem_cons, List.not_mem_nil, or_false] at hx
    subst hx
    exact hz.1)
  refine ⟨_, _, _, [z], rfl, ⟨rfl, ?_, ⟨(fun e => by cases e), Nat.le_refl _⟩, fun x hx => ?_, rfl⟩, hb.trans (hal.mono hb.size)⟩
  · rw [World.size_alloc]
    exact hp
  · simp only [List.mem_cons, List.not_mem_nil, or_false] at hx
    subst hx
    exact hz.on hal
theorem six_none {p q : Pk} (h : hunksP p q = none) : sixP p q = none := by unfold sixP; rw [h]
theorem six_same {p q h : Pk} (hh : hunksP p q = some h) (e : h.old = h.new) : sixP p q = some [] := by unfold sixP; rw [hh]; simp [e]
theorem six_some {p q h : Pk} (hh : hunksP p q = some h) (e : ¬ h.old = h.new) : sixP p q = some [h] := by unfold sixP; rw [hh]; simp [e]
theorem fuse_len {p q h : Pk} (hp : ckP p = 0) (hq : ckP q = 0) (h6 : p.kind = 6 ∧ q.kind = 6) (hh : hunksP p q = some h) : h.old.length ≤ 1000000 ∧ h.new.length ≤ 1000000 := by
  obtain ⟨_, a2, a3⟩ := ck_nums hp h6.1
  obtain ⟨_, b2, b3⟩ := ck_nums hq h6.2
  have hl := fuse_old_len p q
  unfold hunksP at hh
  split at hh
  · cases hh
    exact ⟨by show (fuseOld p q).length ≤ _; omega, by show (fuseNew p q).length ≤ _; omega⟩
  · cases hh

set_option maxHeartbeats 20000000 in
set_option maxRecDepth 100000 in
theorem fPair_any (x y : Pm) (w : World) (ox : x.Ok w w.heap.size) (oy : y.Ok w w.heap.size) (wx : AtK x.key) (wy : AtK y.key) (hT : Tabs w) :
    Calls Tryd.prog 7 #[x.val, y.val] w (PairLeft w (fuseP x.key y.key)) := by
  have C1 := Lib.hid (fun W => fone_any x y W _ rfl)
  have C2 := Lib.hid (fun W (hb : Below w.heap.size w W) => fright_any x y W (ox.on hb) (oy.on hb) wx.toWdK wy.toWdK (Tabs.on hT hb) _ rfl)
  have C3 := Lib.hid (fun h1 h2 h3 W (hb : Below w.heap.size w W) => fhunks_any x y W (ox.on hb) (oy.on hb) h1 h2 h3 wx.hi wy.hi)
  have C4 := Lib.hid (fun h1 W (hb : Below w.heap.size w W) => fundone_any x y W (ox.on hb) (oy.on hb) wx.toWdK wy.toWdK h1 _ rfl)
  have C5 := Lib.hid (fun W => fmoves_any x y W _ rfl)
  have HPQ : Hid (x.p.size ≤ 9223372036854775807 ∧ y.dst.size ≤ 9223372036854775807) := ⟨ox.p, oy.q⟩
  clear ox oy wx wy hT
  unfold Pm.val at C1 C2 C3 C4 C5 ⊢
  obtain ⟨hal, hx, hy⟩ := box2 w x y
  have e0 : ((w.alloc (.cells x.cells.toArray 24)).alloc (.cells y.cells.toArray 24)) = ((w.alloc (.cells #[.int .i64 x.kind, .string x.p, .string x.dst, .int .i64 x.at_, .slice x.a1 x.old.length x.c1, .slice x.a2 x.new.length x.c2] 24)).alloc (.cells #[.int .i64 y.kind, .string y.p, .string y.dst, .int .i64 y.at_, .slice y.a1 y.old.length y.c1, .slice y.a2 y.new.length y.c2] 24)) := rfl
  rw [e0] at hal hx hy
  have HX := Lib.hid hx
  have HY := Lib.hid hy
  have HA := Lib.hid hal
  clear hal hx hy e0
  by_cases h2 : ckP x.key = 0 ∧ ckP y.key = 0
  · rw [decide_eq_true h2] at C2
    have C3 := Lib.hid (C3.out h2.1 h2.2)
    have C4 := Lib.hid (C4.out h2.1)
    have hfc := fuse_code h2.1 h2.2
    by_cases h1 : x.kind = 6 ∧ y.kind = 6 ∧ x.p = y.p
    · rw [decide_eq_true h1] at C1
      have C3 := Lib.hid (C3.out h1)
      have h1' := (one_iff x y).1 h1
      rw [if_pos h1'] at hfc
      rw [hfc]
      have HL := Lib.hid (fun h => fuse_len (h := h) h2.1 h2.2 ⟨h1'.1, h1'.2.1⟩)
      clear hfc h1 h1' h2 C4 C5 HPQ
      have HS0 := Lib.hid (six_none (p := x.key) (q := y.key))
      have HS1 := Lib.hid (fun h => six_same (p := x.key) (q := y.key) (h := h))
      have HS2 := Lib.hid (fun h => six_some (p := x.key) (q := y.key) (h := h))
      generalize sixP x.key y.key = s6 at *
      generalize hunksP x.key y.key = oh at *
      go_enter Tryd.func7, Tryd.ntmps7
      go_wp2_with fail
      generalize hwa : ((w.alloc (.cells #[.int .i64 x.kind, .string x.p, .string x.dst, .int .i64 x.at_, .slice x.a1 x.old.length x.c1, .slice x.a2 x.new.length x.c2] 24)).alloc (.cells #[.int .i64 y.kind, .string y.p, .string y.dst, .int .i64 y.at_, .slice y.a1 y.old.length y.c1, .slice y.a2 y.new.length y.c2] 24)) = wa at *
      clear hwa
      refine (C2.out wa HA.out).mono ?_
      rintro e w1 ⟨rfl, hb⟩
      replace HX := Lib.hid (HX.out.on hb)
      replace HY := Lib.hid (HY.out.on hb)
      replace HA := Lib.hid (HA.out.trans (hb.mono HA.out.size))
      clear hb
      have x0 := HX.out.c0
      have x1 := HX.out.c1
      have x2 := HX.out.c2
      have x3 := HX.out.c3
      have x4 := HX.out.c4
      have x5 := HX.out.c5
      have y0 := HY.out.c0
      have y1 := HY.out.c1
      have y2 := HY.out.c2
      have y3 := HY.out.c3
      have y4 := HY.out.c4
      have y5 := HY.out.c5
      go_wp2_with fail
      refine (C1.out w1).mono ?_
      rintro e w2 ⟨rfl, hb⟩
      replace HX := Lib.hid (HX.out.on hb)
      replace HY := Lib.hid (HY.out.on hb)
      replace HA := Lib.hid (HA.out.trans (hb.mono HA.out.size))
      clear hb
      clear x0 y0 x1 y1 x2 y2 x3 y3 x4 y4 x5 y5
      have x0 := HX.out.c0
      have x1 := HX.out.c1
      have x2 := HX.out.c2
      have x3 := HX.out.c3
      have x4 := HX.out.c4
      have x5 := HX.out.c5
      have y0 := HY.out.c0
      have y1 := HY.out.c1
      have y2 := HY.out.c2
      have y3 := HY.out.c3
      have y4 := HY.out.c4
      have y5 := HY.out.c5
      go_wp2_with fail
      refine (C3.out w2 HA.out).mono ?_
      rintro e w3 ⟨z, rfl, hz, hb⟩
      clear x0 y0 x1 y1 x2 y2 x3 y3 x4 y4 x5 y5
      replace HA := Lib.hid (HA.out.trans (hb.mono HA.out.size))
      clear hb HX HY C1 C2 C3
      have HZ := Lib.hid hz.out
      clear hz
      have hal : Below w3.heap.size w3 (w3.alloc (.cells #[.int .i64 z.kind, .string z.p, .string z.dst, .int .i64 z.at_, .slice z.a1 z.old.length z.c1, .slice z.a2 z.new.length z.c2] 24)) := (Below.refl _ _).alloc (Nat.le_refl _) _
      have HP := Lib.hid (PrimAt.new_ w3 z)
      have HAL := Lib.hid (HA.out.trans (hal.mono HA.out.size))
      cases oh with
      | none =>
        have hs6 := HS0.out rfl
        subst hs6
        clear HS0 HS1 HS2
        have HE : Hid (PairLeft w none (.returned (.tuple #[.slice none 0 0, .bool false])) (w3.alloc (.cells #[.int .i64 z.kind, .string z.p, .string z.dst, .int .i64 z.at_, .slice z.a1 z.old.length z.c1, .slice z.a2 z.new.length z.c2] 24))) := pair_bare HAL.out false rfl rfl
        clear HZ HP hal HL
        go_wp2
        go_ret2
        exact HE.out
      | some hh =>
        have hk : z.key = hh := HZ.out.2
        have ho : z.old = hh.old := congrArg Pk.old hk
        have hn : z.new = hh.new := congrArg Pk.new hk
        obtain ⟨d, hd⟩ : ∃ d, decide (z.old = z.new) = d := ⟨_, rfl⟩
        have CE := Lib.hid (sequal_d z.a1 z.a2 z.old z.new z.c1 z.c2 (w3.alloc (.cells #[.int .i64 z.kind, .string z.p, .string z.dst, .int .i64 z.at_, .slice z.a1 z.old.length z.c1, .slice z.a2 z.new.length z.c2] 24)) d hd (HZ.out.1.1.on hal).h.old (HZ.out.1.1.on hal).h.new (by rw [ho]; exact (HL.out hh rfl).1) (by rw [hn]; exact (HL.out hh rfl).2))
        have p4 := HP.out.c4
        have p5 := HP.out.c5
        have HZA := Lib.hid (HZ.out.1.on hal)
        rw [ho, hn] at hd
        cases d
        · have hne : ¬ hh.old = hh.new := of_decide_eq_false hd
          have hs6 := HS2.out hh rfl hne
          subst hs6
          clear HS0 HS1 HS2
          have HS : Hid (some [hh] = some [z.key]) := by show _ = _; rw [hk]
          have CE := Lib.hid CE.out
          clear hk ho hn hd HZ hne HL
          go_wp2_with fail
          have e1 : (w3.alloc (.cells z.cells.toArray 24)) = (w3.alloc (.cells #[.int .i64 z.kind, .string z.p, .string z.dst, .int .i64 z.at_, .slice z.a1 z.old.length z.c1, .slice z.a2 z.new.length z.c2] 24)) := rfl
          rw [e1] at HP
          clear e1
          generalize hwb : (w3.alloc (.cells #[.int .i64 z.kind, .string z.p, .string z.dst, .int .i64 z.at_, .slice z.a1 z.old.length z.c1, .slice z.a2 z.new.length z.c2] 24)) = wb at *
          clear hwb hal
          refine CE.out.mono ?_
          rintro e w4 ⟨rfl, q4, hw4⟩
          have hb : Below wb.heap.size wb w4 := by subst hw4; exact below_drewN (Below.refl _ _) q4
          replace HP := Lib.hid (HP.out.on hb)
          replace HZA := Lib.hid (HZA.out.on hb)
          replace HAL := Lib.hid (HAL.out.trans (hb.mono HAL.out.size))
          clear hb hw4 p4 p5 CE
          have x0 := HP.out.c0
          have x1 := HP.out.c1
          have x2 := HP.out.c2
          have x3 := HP.out.c3
          have x4 := HP.out.c4
          have x5 := HP.out.c5
          have HF := Lib.hid (pair_one (w := w) HAL.out HZA.out HS.out)
          go_wp2
          go_ret2
          exact HF.out
        · have he : hh.old = hh.new := of_decide_eq_true hd
          have hs6 := HS1.out hh rfl he
          subst hs6
          clear HS0 HS1 HS2
          have CE := Lib.hid CE.out
          clear hk ho hn hd HZ he HL
          go_wp2_with fail
          have e1 : (w3.alloc (.cells z.cells.toArray 24)) = (w3.alloc (.cells #[.int .i64 z.kind, .string z.p, .string z.dst, .int .i64 z.at_, .slice z.a1 z.old.length z.c1, .slice z.a2 z.new.length z.c2] 24)) := rfl
          rw [e1] at HP
          clear e1
          generalize hwb : (w3.alloc (.cells #[.int .i64 z.kind, .string z.p, .string z.dst, .int .i64 z.at_, .slice z.a1 z.old.length z.c1, .slice z.a2 z.new.length z.c2] 24)) = wb at *
          clear hwb hal
          refine CE.out.mono ?_
          rintro e w4 ⟨rfl, q4, hw4⟩
          have hb : Below wb.heap.size wb w4 := by subst hw4; exact below_drewN (Below.refl _ _) q4
          replace HAL := Lib.hid (HAL.out.trans (hb.mono HAL.out.size))
          clear hb hw4 p4 p5 CE HP HZA
          have HF : Hid (PairLeft w (some []) (.returned (.tuple #[.slice none 0 0, .bool true])) w4) := pair_bare HAL.out true rfl rfl
          go_wp2
          go_ret2
          exact HF.out
    · rw [decide_eq_false h1] at C1
      rw [if_neg (fun e => h1 ((one_iff x y).2 e))] at hfc
      have hu : decide ((x.kind = 1 ∨ x.kind = 3 ∨ x.kind = 5) ∧ invP x.key = y.key) = decide ((x.key.kind = 1 ∨ x.key.kind = 3 ∨ x.key.kind = 5) ∧ invP x.key = y.key) := rfl
      have hm : decide (x.kind = 5 ∧ y.kind = 5 ∧ y.p = x.dst) = decide (x.key.kind = 5 ∧ y.key.kind = 5 ∧ y.key.path = x.key.dst) := by
        rw [decide_eq_decide]
        exact ⟨fun ⟨a, b, c⟩ => ⟨a, b, by show y.p.data.toList = x.dst.data.toList; rw [c]⟩, fun ⟨a, b, c⟩ => ⟨a, b, bytes_inj c⟩⟩
      rw [hu] at C4
      rw [hm] at C5
      clear C3 hu hm h1 h2
      by_cases h3 : (x.key.kind = 1 ∨ x.key.kind = 3 ∨ x.key.kind = 5) ∧ invP x.key = y.key
      · rw [decide_eq_true h3] at C4
        rw [if_pos h3] at hfc
        rw [hfc]
        clear hfc h3 C5 HPQ
        go_enter Tryd.func7, Tryd.ntmps7
        go_wp2_with fail
        generalize hwa : ((w.alloc (.cells #[.int .i64 x.kind, .string x.p, .string x.dst, .int .i64 x.at_, .slice x.a1 x.old.length x.c1, .slice x.a2 x.new.length x.c2] 24)).alloc (.cells #[.int .i64 y.kind, .string y.p, .string y.dst, .int .i64 y.at_, .slice y.a1 y.old.length y.c1, .slice y.a2 y.new.length y.c2] 24)) = wa at *
        clear hwa
        refine (C2.out wa HA.out).mono ?_
        rintro e w1 ⟨rfl, hb⟩
        replace HX := Lib.hid (HX.out.on hb)
        replace HY := Lib.hid (HY.out.on hb)
        replace HA := Lib.hid (HA.out.trans (hb.mono HA.out.size))
        clear hb
        have x0 := HX.out.c0
        have x1 := HX.out.c1
        have x2 := HX.out.c2
        have x3 := HX.out.c3
        have x4 := HX.out.c4
        have x5 := HX.out.c5
        have y0 := HY.out.c0
        have y1 := HY.out.c1
        have y2 := HY.out.c2
        have y3 := HY.out.c3
        have y4 := HY.out.c4
        have y5 := HY.out.c5
        go_wp2_with fail
        refine (C1.out w1).mono ?_
        rintro e w2 ⟨rfl, hb⟩
        replace HX := Lib.hid (HX.out.on hb)
        replace HY := Lib.hid (HY.out.on hb)
        replace HA := Lib.hid (HA.out.trans (hb.mono HA.out.size))
        clear hb
        clear x0 y0 x1 y1 x2 y2 x3 y3 x4 y4 x5 y5
        have x0 := HX.out.c0
        have x1 := HX.out.c1
        have x2 := HX.out.c2
        have x3 := HX.out.c3
        have x4 := HX.out.c4
        have x5 := HX.out.c5
        have y0 := HY.out.c0
        have y1 := HY.out.c1
        have y2 := HY.out.c2
        have y3 := HY.out.c3
        have y4 := HY.out.c4
        have y5 := HY.out.c5
        go_wp2_with fail
        refine (C4.out w2 HA.out).mono ?_
        rintro e w3 ⟨rfl, hb⟩
        replace HX := Lib.hid (HX.out.on hb)
        replace HY := Lib.hid (HY.out.on hb)
        replace HA := Lib.hid (HA.out.trans (hb.mono HA.out.size))
        clear hb
        clear x0 y0 x1 y1 x2 y2 x3 y3 x4 y4 x5 y5
        have HE : Hid (PairLeft w (some []) (.returned (.tuple #[.slice none 0 0, .bool true])) w3) := pair_bare HA.out true rfl rfl
        go_wp2
        go_ret2
        exact HE.out
      · rw [decide_eq_false h3] at C4
        rw [if_neg h3] at hfc
        clear h3
        by_cases h4 : x.key.kind = 5 ∧ y.key.kind = 5 ∧ y.key.path = x.key.dst
        · rw [decide_eq_true h4] at C5
          rw [if_pos h4] at hfc
          rw [hfc]
          clear hfc h4
          go_enter Tryd.func7, Tryd.ntmps7
          go_wp2_with fail
          generalize hwa : ((w.alloc (.cells #[.int .i64 x.kind, .string x.p, .string x.dst, .int .i64 x.at_, .slice x.a1 x.old.length x.c1, .slice x.a2 x.new.length x.c2] 24)).alloc (.cells #[.int .i64 y.kind, .string y.p, .string y.dst, .int .i64 y.at_, .slice y.a1 y.old.length y.c1, .slice y.a2 y.new.length y.c2] 24)) = wa at *
          clear hwa
          refine (C2.out wa HA.out).mono ?_
          rintro e w1 ⟨rfl, hb⟩
          replace HX := Lib.hid (HX.out.on hb)
          replace HY := Lib.hid (HY.out.on hb)
          replace HA := Lib.hid (HA.out.trans (hb.mono HA.out.size))
          clear hb
          have x0 := HX.out.c0
          have x1 := HX.out.c1
          have x2 := HX.out.c2
          have x3 := HX.out.c3
          have x4 := HX.out.c4
          have x5 := HX.out.c5
          have y0 := HY.out.c0
          have y1 := HY.out.c1
          have y2 := HY.out.c2
          have y3 := HY.out.c3
          have y4 := HY.out.c4
          have y5 := HY.out.c5
          go_wp2_with fail
          refine (C1.out w1).mono ?_
          rintro e w2 ⟨rfl, hb⟩
          replace HX := Lib.hid (HX.out.on hb)
          replace HY := Lib.hid (HY.out.on hb)
          replace HA := Lib.hid (HA.out.trans (hb.mono HA.out.size))
          clear hb
          clear x0 y0 x1 y1 x2 y2 x3 y3 x4 y4 x5 y5
          have x0 := HX.out.c0
          have x1 := HX.out.c1
          have x2 := HX.out.c2
          have x3 := HX.out.c3
          have x4 := HX.out.c4
          have x5 := HX.out.c5
          have y0 := HY.out.c0
          have y1 := HY.out.c1
          have y2 := HY.out.c2
          have y3 := HY.out.c3
          have y4 := HY.out.c4
          have y5 := HY.out.c5
          go_wp2_with fail
          refine (C4.out w2 HA.out).mono ?_
          rintro e w3 ⟨rfl, hb⟩
          replace HX := Lib.hid (HX.out.on hb)
          replace HY := Lib.hid (HY.out.on hb)
          replace HA := Lib.hid (HA.out.trans (hb.mono HA.out.size))
          clear hb
          clear x0 y0 x1 y1 x2 y2 x3 y3 x4 y4 x5 y5
          have x0 := HX.out.c0
          have x1 := HX.out.c1
          have x2 := HX.out.c2
          have x3 := HX.out.c3
          have x4 := HX.out.c4
          have x5 := HX.out.c5
          have y0 := HY.out.c0
          have y1 := HY.out.c1
          have y2 := HY.out.c2
          have y3 := HY.out.c3
          have y4 := HY.out.c4
          have y5 := HY.out.c5
          go_wp2_with fail
          refine (C5.out w3).mono ?_
          rintro e w4 ⟨rfl, hb⟩
          replace HX := Lib.hid (HX.out.on hb)
          replace HY := Lib.hid (HY.out.on hb)
          replace HA := Lib.hid (HA.out.trans (hb.mono HA.out.size))
          clear hb
          clear x0 y0 x1 y1 x2 y2 x3 y3 x4 y4 x5 y5
          have x0 := HX.out.c0
          have x1 := HX.out.c1
          have x2 := HX.out.c2
          have x3 := HX.out.c3
          have x4 := HX.out.c4
          have x5 := HX.out.c5
          have y0 := HY.out.c0
          have y1 := HY.out.c1
          have y2 := HY.out.c2
          have y3 := HY.out.c3
          have y4 := HY.out.c4
          have y5 := HY.out.c5
          have HE := Lib.hid (pair_one (w := w) (z := ⟨5, x.p, y.dst, 0, none, 0, [], none, 0, []⟩) HA.out (sep_bare w4 5 x.p y.dst HPQ.out.1 HPQ.out.2 (by decide) (by decide)) (rfl : some [(⟨5, x.key.path, y.key.dst, 0, [], []⟩ : Pk)] = _))
          go_wp2
          go_ret2
          exact HE.out
        · rw [decide_eq_false h4] at C5
          rw [if_neg h4] at hfc
          rw [hfc]
          clear hfc h4 HPQ
          go_enter Tryd.func7, Tryd.ntmps7
          go_wp2_with fail
          generalize hwa : ((w.alloc (.cells #[.int .i64 x.kind, .string x.p, .string x.dst, .int .i64 x.at_, .slice x.a1 x.old.length x.c1, .slice x.a2 x.new.length x.c2] 24)).alloc (.cells #[.int .i64 y.kind, .string y.p, .string y.dst, .int .i64 y.at_, .slice y.a1 y.old.length y.c1, .slice y.a2 y.new.length y.c2] 24)) = wa at *
          clear hwa
          refine (C2.out wa HA.out).mono ?_
          rintro e w1 ⟨rfl, hb⟩
          replace HX := Lib.hid (HX.out.on hb)
          replace HY := Lib.hid (HY.out.on hb)
          replace HA := Lib.hid (HA.out.trans (hb.mono HA.out.size))
          clear hb
          have x0 := HX.out.c0
          have x1 := HX.out.c1
          have x2 := HX.out.c2
          have x3 := HX.out.c3
          have x4 := HX.out.c4
          have x5 := HX.out.c5
          have y0 := HY.out.c0
          have y1 := HY.out.c1
          have y2 := HY.out.c2
          have y3 := HY.out.c3
          have y4 := HY.out.c4
          have y5 := HY.out.c5
          go_wp2_with fail
          refine (C1.out w1).mono ?_
          rintro e w2 ⟨rfl, hb⟩
          replace HX := Lib.hid (HX.out.on hb)
          replace HY := Lib.hid (HY.out.on hb)
          replace HA := Lib.hid (HA.out.trans (hb.mono HA.out.size))
          clear hb
          clear x0 y0 x1 y1 x2 y2 x3 y3 x4 y4 x5 y5
          have x0 := HX.out.c0
          have x1 := HX.out.c1
          have x2 := HX.out.c2
          have x3 := HX.out.c3
          have x4 := HX.out.c4
          have x5 := HX.out.c5
          have y0 := HY.out.c0
          have y1 := HY.out.c1
          have y2 := HY.out.c2
          have y3 := HY.out.c3
          have y4 := HY.out.c4
          have y5 := HY.out.c5
          go_wp2_with fail
          refine (C4.out w2 HA.out).mono ?_
          rintro e w3 ⟨rfl, hb⟩
          replace HX := Lib.hid (HX.out.on hb)
          replace HY := Lib.hid (HY.out.on hb)
          replace HA := Lib.hid (HA.out.trans (hb.mono HA.out.size))
          clear hb
          clear x0 y0 x1 y1 x2 y2 x3 y3 x4 y4 x5 y5
          have x0 := HX.out.c0
          have x1 := HX.out.c1
          have x2 := HX.out.c2
          have x3 := HX.out.c3
          have x4 := HX.out.c4
          have x5 := HX.out.c5
          have y0 := HY.out.c0
          have y1 := HY.out.c1
          have y2 := HY.out.c2
          have y3 := HY.out.c3
          have y4 := HY.out.c4
          have y5 := HY.out.c5
          go_wp2_with fail
          refine (C5.out w3).mono ?_
          rintro e w4 ⟨rfl, hb⟩
          replace HX := Lib.hid (HX.out.on hb)
          replace HY := Lib.hid (HY.out.on hb)
          replace HA := Lib.hid (HA.out.trans (hb.mono HA.out.size))
          clear hb
          clear x0 y0 x1 y1 x2 y2 x3 y3 x4 y4 x5 y5
          have HE : Hid (PairLeft w none (.returned (.tuple #[.slice none 0 0, .bool false])) w4) := pair_bare HA.out false rfl rfl
          go_wp2
          go_ret2
          exact HE.out
  · rw [decide_eq_false h2] at C2
    rw [fuse_wrong h2]
    clear h2 C1 C3 C4 C5 HPQ
    go_enter Tryd.func7, Tryd.ntmps7
    go_wp2_with fail
    generalize hwa : ((w.alloc (.cells #[.int .i64 x.kind, .string x.p, .string x.dst, .int .i64 x.at_, .slice x.a1 x.old.length x.c1, .slice x.a2 x.new.length x.c2] 24)).alloc (.cells #[.int .i64 y.kind, .string y.p, .string y.dst, .int .i64 y.at_, .slice y.a1 y.old.length y.c1, .slice y.a2 y.new.length y.c2] 24)) = wa at *
    clear hwa
    refine (C2.out wa HA.out).mono ?_
    rintro e w1 ⟨rfl, hb⟩
    replace HX := Lib.hid (HX.out.on hb)
    replace HY := Lib.hid (HY.out.on hb)
    replace HA := Lib.hid (HA.out.trans (hb.mono HA.out.size))
    clear hb
    have HE : Hid (PairLeft w none (.returned (.tuple #[.slice none 0 0, .bool false])) w1) := pair_bare HA.out false rfl rfl
    go_wp2
    go_ret2
    exact HE.out

end Go.Proofs.YtempamboacbgiaaDoor
