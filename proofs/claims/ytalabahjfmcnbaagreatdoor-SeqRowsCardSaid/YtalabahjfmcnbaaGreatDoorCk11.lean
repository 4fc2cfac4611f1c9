/- Package commute's wrong, shift. Package commute's shift. -/
import Derived.BigQuiet
import Derived.Deep.QuietTactic
import Derived.Handy
import Derived.Test.YtalabahjfmcnbaaGreatDoorShelf
import Derived.WalkKit
import Derived.Test.YtalabahjfmcnbaaGreatDoorCk10
namespace Go.Proofs.YtalabahjfmcnbaaGreatDoor
open Go.RowKit
set_option linter.unusedVariables false

theorem or_err (b : Nat) (x y z : Int) (w : World) (h0 : w.cell? ⟨b, 0, none⟩ = some (.int .i64 x)) (h1 : w.cell? ⟨b, 1, none⟩ = some (.int .i64 y)) (hz : z = if x = 0 then y else x) :
    Calls Tryz.prog 112 #[.slice (some ⟨b, 0, none⟩) 2 2] w fun e w' => e = .returned (.int .i64 z) ∧ w' = w := by
  go_enter Tryz.func112, Tryz.ntmps112
  go_wp2
  go_loopw [8] (fun i wr => ∃ k : Nat, k ≤ 2 ∧ i = .int .i64 (k : Int) ∧ Hid ((1 ≤ k → x = 0) ∧ (2 ≤ k → y = 0)) ∧ wr = w) (fun i _ => 2 - (intOf i).toNat)
  case atStart => exact ⟨0, by omega, rfl, ⟨fun h => by omega, fun h => by omega⟩, rfl⟩
  case round =>
    obtain ⟨k, hk, rfl, hxy, rfl⟩ := hrel
    have hk3 : k = 0 ∨ k = 1 ∨ k = 2 := by omega
    rcases hk3 with rfl | rfl | rfl
    · by_cases hx : x = 0
      · subst hx
        clear hz h1 hxy
        go_wp2
        go_roundw
        case rel => exact ⟨1, by omega, by go_num, ⟨fun _ => by first | rfl | trivial, fun h => by omega⟩, by first | rfl | trivial⟩
        case measure => simp [intOf] <;> omega
      · have e : z = x := by rw [hz, if_neg hx]
        subst e
        have hb : (z == 0) = false := by simpa using hx
        have hb2 : (z != 0) = true := by simpa using hx
        clear hz h1 hxy
        go_wp2
        go_ret
        exact ⟨rfl, rfl⟩
    · have hx := hxy.out.1 (by omega)
      have e : z = y := by rw [hz, if_pos hx]
      subst e
      by_cases hy : z = 0
      · subst hy
        clear hz h0 hxy
        go_wp2
        go_roundw
        case rel => exact ⟨2, by omega, by go_num, ⟨fun _ => hx, fun h => by first | rfl | trivial⟩, by first | rfl | trivial⟩
        case measure => simp [intOf] <;> omega
      · have hb : (z == 0) = false := by simpa using hy
        have hb2 : (z != 0) = true := by simpa using hy
        clear hz h0 hxy
        go_wp2
        go_ret
        exact ⟨rfl, rfl⟩
    · have hx := hxy.out.1 (by omega)
      have hy := hxy.out.2 (by omega)
      have e : z = 0 := by rw [hz, if_pos hx, hy]
      subst e
      clear hz h0 h1 hxy
      go_wp2
      go_ret
      exact ⟨rfl, rfl⟩
/-- The error of the first of both steps that may not be. -/
def wrongP (p q : Pk) : Int := if ckP p = 0 then ckP q else ckP p

set_option maxHeartbeats 8000000 in
set_option maxRecDepth 100000 in
theorem cwrong_any (x y : Pm) (w : World) (ox : x.Ok w w.heap.size) (oy : y.Ok w w.heap.size) (hx : WdK x.key) (hy : WdK y.key) (hT : Tabs w) (r : Int) (hr : wrongP x.key y.key = r) :
    Calls Tryz.prog 69 #[x.val, y.val] w fun e w' => e = .returned (.int .i64 r) ∧ Below w.heap.size w w' := by
  have C1 := Lib.hid (fun W (hb : Below w.heap.size w W) => check_w (ox.on hb) hx (Tabs.on hT hb))
  have C2 := Lib.hid (fun W (hb : Below w.heap.size w W) => check_w (oy.on hb) hy (Tabs.on hT hb))
  have HR : Hid (r = if ckP x.key = 0 then ckP y.key else ckP x.key) := hr.symm
  clear hr ox oy hx hy hT
  generalize ckP x.key = n1 at *
  generalize ckP y.key = n2 at *
  obtain ⟨kind, p, q, at_, a1, c1, old, a2, c2, new⟩ := x
  obtain ⟨kind2, p2, q2, at2, a3, c3, old2, a4, c4, new2⟩ := y
  unfold Pm.val at C1 C2 ⊢
  simp only [] at C1 C2 ⊢
  obtain ⟨hal, hx, hy⟩ := box2 w ⟨kind, p, q, at_, a1, c1, old, a2, c2, new⟩ ⟨kind2, p2, q2, at2, a3, c3, old2, a4, c4, new2⟩
  have e0 : ((w.alloc (.cells (Pm.cells ⟨kind, p, q, at_, a1, c1, old, a2, c2, new⟩).toArray 33)).alloc (.cells (Pm.cells ⟨kind2, p2, q2, at2, a3, c3, old2, a4, c4, new2⟩).toArray 33)) = ((w.alloc (.cells #[.int .i64 kind, .string p, .string q, .int .i64 at_, .slice a1 old.length c1, .slice a2 new.length c2] 33)).alloc (.cells #[.int .i64 kind2, .string p2, .string q2, .int .i64 at2, .slice a3 old2.length c3, .slice a4 new2.length c4] 33)) := rfl
  rw [e0] at hal hx hy
  have HX := Lib.hid hx
  have HY := Lib.hid hy
  have HA := Lib.hid hal
  clear hal hx hy e0
  go_enter Tryz.func69, Tryz.ntmps69
  go_wp2_with fail
  generalize ((w.alloc (.cells #[.int .i64 kind, .string p, .string q, .int .i64 at_, .slice a1 old.length c1, .slice a2 new.length c2] 33)).alloc (.cells #[.int .i64 kind2, .string p2, .string q2, .int .i64 at2, .slice a3 old2.length c3, .slice a4 new2.length c4] 33)) = wa at *
  have HDR : Hid (Below wa.heap.size wa wa.drew) := (Below.refl _ _).drew
  have S0 := Lib.hid (six_six (HX.out.on HDR.out) (HY.out.on HDR.out))
  go_region_held3 (fun w' => w'.cell? ⟨w.heap.size, 0, none⟩ = some (.int .i64 kind) ∧ w'.cell? ⟨w.heap.size, 1, none⟩ = some (.string p) ∧ w'.cell? ⟨w.heap.size, 2, none⟩ = some (.string q) ∧ w'.cell? ⟨w.heap.size, 3, none⟩ = some (.int .i64 at_) ∧ w'.cell? ⟨w.heap.size, 4, none⟩ = some (.slice a1 old.length c1) ∧ w'.cell? ⟨w.heap.size, 5, none⟩ = some (.slice a2 new.length c2) ∧ w'.cell? ⟨w.heap.size + 1, 0, none⟩ = some (.int .i64 kind2) ∧ w'.cell? ⟨w.heap.size + 1, 1, none⟩ = some (.string p2) ∧ w'.cell? ⟨w.heap.size + 1, 2, none⟩ = some (.string q2) ∧ w'.cell? ⟨w.heap.size + 1, 3, none⟩ = some (.int .i64 at2) ∧ w'.cell? ⟨w.heap.size + 1, 4, none⟩ = some (.slice a3 old2.length c3) ∧ w'.cell? ⟨w.heap.size + 1, 5, none⟩ = some (.slice a4 new2.length c4)) (first
    | with_reducible exact S0.out
    | with_reducible exact S7.out
    | with_reducible exact S8.out
    | with_reducible exact S9.out _
    | (go_keep; done)) (first
    | (go_at_call 55; with_reducible refine (C1.out _ (HA.out.trans (HDR.out.mono HA.out.size))).mono ?_; rintro e w7 ⟨rfl, hb7⟩
       have X7 := Lib.hid (HDR.out.trans (hb7.mono HDR.out.size))
       have S7 := Lib.hid (six_six (HX.out.on X7.out) (HY.out.on X7.out)))
    | (go_at_call 55; with_reducible refine (C2.out _ (HA.out.trans (X7.out.mono HA.out.size))).mono ?_; rintro e w8 ⟨rfl, hb8⟩
       have X8 := Lib.hid (X7.out.trans (hb8.mono X7.out.size))
       have S8 := Lib.hid (six_six (HX.out.on X8.out) (HY.out.on X8.out))
       have S9 := Lib.hid (fun o => six_six (HX.out.on (X8.out.alloc X8.out.size o)) (HY.out.on (X8.out.alloc X8.out.size o))))
    | (go_at_call 112; refine (or_err w8.heap.size n1 n2 r (w8.alloc (.cells #[.int .i64 n1, .int .i64 n2] 25)) (World.cell?_alloc_new w8 #[.int .i64 n1, .int .i64 n2] 25 0) (World.cell?_alloc_new w8 #[.int .i64 n1, .int .i64 n2] 25 1) HR.out).mono ?_; rintro e w9 ⟨rfl, rfl⟩))
  have X9 := Lib.hid (HA.out.trans ((X8.out.alloc X8.out.size (.cells #[.int .i64 n1, .int .i64 n2] 25)).mono HA.out.size))
  clear S0 S7 S8 S9 hb7 hb8
  go_wp2
  go_ret
  exact ⟨rfl, X9.out⟩

end Go.Proofs.YtalabahjfmcnbaaGreatDoor
namespace Go.Proofs.YtalabahjfmcnbaaGreatDoor
open Go.RowKit
set_option linter.unusedVariables false

theorem shift_first (p q : Pk) (h : p.at_ + p.new.length < q.at_) (g : Int) (hg : (p.new.length : Int) - p.old.length = g) : shiftP p q = some (⟨q.kind, q.path, q.dst, wrap64 (q.at_ + -g), q.old, q.new⟩, p) := by
  unfold shiftP
  rw [if_pos h, show q.at_ - p.new.length + p.old.length = q.at_ + -g by omega]
theorem shift_second (p q : Pk) (n : ¬ p.at_ + p.new.length < q.at_) (h : q.at_ + q.old.length < p.at_) (g : Int) (hg : (q.new.length : Int) - q.old.length = g) : shiftP p q = some (q, ⟨p.kind, p.path, p.dst, wrap64 (p.at_ + g), p.old, p.new⟩) := by
  unfold shiftP
  rw [if_neg n, if_pos h, show p.at_ + q.new.length - q.old.length = p.at_ + g by omega]
theorem shift_none (p q : Pk) (n : ¬ p.at_ + p.new.length < q.at_) (h : ¬ q.at_ + q.old.length < p.at_) : shiftP p q = none := by
  unfold shiftP
  rw [if_neg n, if_neg h]
/-- What shift, turned hand back. -/
def turnLeft (w : World) (o : Option (Pk × Pk)) : Ending → World → Prop := TwoLeft w (o.getD (zeroP, zeroP)).1 (o.getD (zeroP, zeroP)).2 (.bool o.isSome)
set_option maxHeartbeats 20000000 in
set_option maxRecDepth 100000 in
theorem cshift_any (x y : Pm) (w : World) (ox : x.Ok w w.heap.size) (oy : y.Ok w w.heap.size) (m1 : x.old.length ≤ 100000) (m2 : x.new.length ≤ 100000) (m3 : y.old.length ≤ 100000) (m4 : y.new.length ≤ 100000) (h1 : 0 ≤ x.at_) (h2 : 0 ≤ y.at_) :
    Calls Tryz.prog 114 #[x.val, y.val] w (turnLeft w (shiftP x.key y.key)) := by
  have l1 : x.at_ ≤ 9223372036854775807 := ox.h.hi
  have l2 : y.at_ ≤ 9223372036854775807 := oy.h.hi
  obtain ⟨g, hg⟩ : ∃ g : Int, (x.new.length : Int) - x.old.length = g := ⟨_, rfl⟩
  obtain ⟨g2, hg2⟩ : ∃ g : Int, (y.new.length : Int) - y.old.length = g := ⟨_, rfl⟩
  have hneg : IntKind.i64.wrap (-g) = -g := IntWalk.i64_in (-g) (by omega)
  have CG := Lib.hid (fun W (_ : Below w.heap.size w W) => cgrown_any x W (by omega) (by omega) g hg)
  have CG2 := Lib.hid (fun W (_ : Below w.heap.size w W) => cgrown_any y W (by omega) (by omega) g2 hg2)
  have CO := Lib.hid (fun W (hb : Below w.heap.size w W) => conward_any (-g) (wrap64 (y.at_ + -g)) y W (oy.on hb) (by omega) (by omega) rfl)
  have CO2 := Lib.hid (fun W (hb : Below w.heap.size w W) => conward_any g2 (wrap64 (x.at_ + g2)) x W (ox.on hb) (by omega) (by omega) rfl)
  have CC := Lib.hid (fun W (hb : Below w.heap.size w W) => ccopied_any x W (ox.on hb) (by omega) (by omega))
  have CC2 := Lib.hid (fun W (hb : Below w.heap.size w W) => ccopied_any y W (oy.on hb) (by omega) (by omega))
  have hs1 := shift_first x.key y.key
  have hs2 := shift_second x.key y.key
  have hs3 := shift_none x.key y.key
  have hs : Hid ((x.at_ + x.new.length < y.at_ → shiftP x.key y.key = some (⟨y.kind, y.p.data.toList, y.dst.data.toList, wrap64 (y.at_ + -g), y.old, y.new⟩, x.key)) ∧ (¬ x.at_ + x.new.length < y.at_ → y.at_ + y.old.length < x.at_ → shiftP x.key y.key = some (y.key, ⟨x.kind, x.p.data.toList, x.dst.data.toList, wrap64 (x.at_ + g2), x.old, x.new⟩)) ∧ (¬ x.at_ + x.new.length < y.at_ → ¬ y.at_ + y.old.length < x.at_ → shiftP x.key y.key = none)) :=
    ⟨fun h => hs1 h g hg, fun n h => hs2 n h g2 hg2, fun n h => hs3 n h⟩
  clear hs1 hs2 hs3 ox oy hg hg2
  generalize shiftP x.key y.key = sh at *
  generalize wrap64 (y.at_ + -g) = t1 at *
  generalize wrap64 (x.at_ + g2) = t2 at *
  obtain ⟨kind, p, q, at_, a1, c1, old, a2, c2, new⟩ := x
  obtain ⟨kind2, p2, q2, at2, a3, c3, old2, a4, c4, new2⟩ := y
  unfold Pm.val at CG CG2 CO CO2 CC CC2 ⊢
  simp only [] at CG CG2 CO CO2 CC CC2 m1 m2 m3 m4 h1 h2 l1 l2 hs ⊢
  obtain ⟨hal, hx, hy, hg, hh⟩ := box4 w ⟨kind, p, q, at_, a1, c1, old, a2, c2, new⟩ ⟨kind2, p2, q2, at2, a3, c3, old2, a4, c4, new2⟩
  have e0 : ((((w.alloc (.cells (Pm.cells ⟨kind, p, q, at_, a1, c1, old, a2, c2, new⟩).toArray 33)).alloc (.cells (Pm.cells ⟨kind2, p2, q2, at2, a3, c3, old2, a4, c4, new2⟩).toArray 33)).alloc (.cells (Pm.cells ⟨0, ⟨#[]⟩, ⟨#[]⟩, 0, none, 0, [], none, 0, []⟩).toArray 33)).alloc (.cells (Pm.cells ⟨0, ⟨#[]⟩, ⟨#[]⟩, 0, none, 0, [], none, 0, []⟩).toArray 33)) = ((((w.alloc (.cells #[.int .i64 kind, .string p, .string q, .int .i64 at_, .slice a1 old.length c1, .slice a2 new.length c2] 33)).alloc (.cells #[.int .i64 kind2, .string p2, .string q2, .int .i64 at2, .slice a3 old2.length c3, .slice a4 new2.length c4] 33)).alloc (.cells #[.int .i64 0, .string ⟨#[]⟩, .string ⟨#[]⟩, .int .i64 0, .slice none 0 0, .slice none 0 0] 33)).alloc (.cells #[.int .i64 0, .string ⟨#[]⟩, .string ⟨#[]⟩, .int .i64 0, .slice none 0 0, .slice none 0 0] 33)) := rfl
  rw [e0] at hal hx hy hg hh
  have HX := Lib.hid hx
  have HY := Lib.hid hy
  have HG := Lib.hid hg
  have HH := Lib.hid hh
  have HA := Lib.hid hal
  have HW : Hid (∀ W, Below ((((w.alloc (.cells #[.int .i64 kind, .string p, .string q, .int .i64 at_, .slice a1 old.length c1, .slice a2 new.length c2] 33)).alloc (.cells #[.int .i64 kind2, .string p2, .string q2, .int .i64 at2, .slice a3 old2.length c3, .slice a4 new2.length c4] 33)).alloc (.cells #[.int .i64 0, .string ⟨#[]⟩, .string ⟨#[]⟩, .int .i64 0, .slice none 0 0, .slice none 0 0] 33)).alloc (.cells #[.int .i64 0, .string ⟨#[]⟩, .string ⟨#[]⟩, .int .i64 0, .slice none 0 0, .slice none 0 0] 33)).heap.size ((((w.alloc (.cells #[.int .i64 kind, .string p, .string q, .int .i64 at_, .slice a1 old.length c1, .slice a2 new.length c2] 33)).alloc (.cells #[.int .i64 kind2, .string p2, .string q2, .int .i64 at2, .slice a3 old2.length c3, .slice a4 new2.length c4] 33)).alloc (.cells #[.int .i64 0, .string ⟨#[]⟩, .string ⟨#[]⟩, .int .i64 0, .slice none 0 0, .slice none 0 0] 33)).alloc (.cells #[.int .i64 0, .string ⟨#[]⟩, .string ⟨#[]⟩, .int .i64 0, .slice none 0 0, .slice none 0 0] 33)) W → Below w.heap.size w W) := fun W hb => hal.trans (hb.mono hal.size)
  clear hal hx hy hg hh e0
  by_cases c1' : at_ + new.length < at2
  · have hs := hs.out.1 c1'
    subst hs
    go_enter Tryz.func114, Tryz.ntmps114
    go_wp2_with fail
    generalize ((((w.alloc (.cells #[.int .i64 kind, .string p, .string q, .int .i64 at_, .slice a1 old.length c1, .slice a2 new.length c2] 33)).alloc (.cells #[.int .i64 kind2, .string p2, .string q2, .int .i64 at2, .slice a3 old2.length c3, .slice a4 new2.length c4] 33)).alloc (.cells #[.int .i64 0, .string ⟨#[]⟩, .string ⟨#[]⟩, .int .i64 0, .slice none 0 0, .slice none 0 0] 33)).alloc (.cells #[.int .i64 0, .string ⟨#[]⟩, .string ⟨#[]⟩, .int .i64 0, .slice none 0 0, .slice none 0 0] 33)) = wa at *
    have CG := Lib.hid (fun W hb => CG.out W (HW.out W hb))
    have CO := Lib.hid (fun W hb => CO.out W (HW.out W hb))
    have CC := Lib.hid (fun W hb => CC.out W (HW.out W hb))
    have HDR : Hid (Below wa.heap.size wa wa.drew) := (Below.refl _ _).drew
    have S0 := Lib.hid (six_six (HX.out.on HDR.out) (HY.out.on HDR.out))
    go_region_held3 (fun w' => w'.cell? ⟨w.heap.size, 0, none⟩ = some (.int .i64 kind) ∧ w'.cell? ⟨w.heap.size, 1, none⟩ = some (.string p) ∧ w'.cell? ⟨w.heap.size, 2, none⟩ = some (.string q) ∧ w'.cell? ⟨w.heap.size, 3, none⟩ = some (.int .i64 at_) ∧ w'.cell? ⟨w.heap.size, 4, none⟩ = some (.slice a1 old.length c1) ∧ w'.cell? ⟨w.heap.size, 5, none⟩ = some (.slice a2 new.length c2) ∧ w'.cell? ⟨w.heap.size + 1, 0, none⟩ = some (.int .i64 kind2) ∧ w'.cell? ⟨w.heap.size + 1, 1, none⟩ = some (.string p2) ∧ w'.cell? ⟨w.heap.size + 1, 2, none⟩ = some (.string q2) ∧ w'.cell? ⟨w.heap.size + 1, 3, none⟩ = some (.int .i64 at2) ∧ w'.cell? ⟨w.heap.size + 1, 4, none⟩ = some (.slice a3 old2.length c3) ∧ w'.cell? ⟨w.heap.size + 1, 5, none⟩ = some (.slice a4 new2.length c4)) (first
      | with_reducible exact S0.out
      | with_reducible exact S7.out
      | with_reducible exact S8.out
      | with_reducible exact S9.out
      | with_reducible exact SA.out
      | with_reducible exact SB.out
      | (go_keep; done)) (first
      | (go_at_call 148; (with_reducible refine (CG.out _ HDR.out).mono ?_); rintro e w7 ⟨rfl, hb7⟩
         have X7 := Lib.hid (HDR.out.trans (hb7.mono HDR.out.size))
         have S7 := Lib.hid (six_six (HX.out.on X7.out) (HY.out.on X7.out)))
      | (go_at_call 147; (with_reducible refine (CO.out _ X7.out).mono ?_); rintro e w8 ⟨y8, rfl, hy8, hb8⟩
         have X8 := Lib.hid (X7.out.trans (hb8.mono X7.out.size))
         have S8 := Lib.hid (six_six (HX.out.on X8.out) (HY.out.on X8.out)))
      | (go_at_call 116; (with_reducible refine (CC.out _ X8.out).mono ?_); rintro e w9 ⟨y9, rfl, hy9, hb9⟩
         have X9 := Lib.hid (X8.out.trans (hb9.mono X8.out.size))
         have S9 := Lib.hid (six_six (HX.out.on X9.out) (HY.out.on X9.out))
         have SX := Lib.hid (HX.out.on X9.out)
         have SY := Lib.hid (HY.out.on X9.out)
         have tya := HG.out.on X9.out
         have ya0 := tya.c0
         have yaf0 := tya.fz 0
         have ya1 := tya.c1
         have yaf1 := tya.fz 1
         have ya2 := tya.c2
         have yaf2 := tya.fz 2
         have ya3 := tya.c3
         have yaf3 := tya.fz 3
         have ya4 := tya.c4
         have yaf4 := tya.fz 4
         have ya5 := tya.c5
         have yaf5 := tya.fz 5
         have tza := HH.out.on X9.out
         have za0 := tza.c0
         have zaf0 := tza.fz 0
         have za1 := tza.c1
         have zaf1 := tza.fz 1
         have za2 := tza.c2
         have zaf2 := tza.fz 2
         have za3 := tza.c3
         have zaf3 := tza.fz 3
         have za4 := tza.c4
         have zaf4 := tza.fz 4
         have za5 := tza.c5
         have zaf5 := tza.fz 5
         have SA := Lib.hid (six_six (prim_set6 (h := w.heap.size + 1 + 1) (v0 := .int .i64 y8.kind) (v1 := .string y8.p) (v2 := .string y8.dst) (v3 := .int .i64 y8.at_) (v4 := .slice y8.a1 y8.old.length y8.c1) (v5 := .slice y8.a2 y8.new.length y8.c2) SX.out (by omega)) (prim_set6 (h := w.heap.size + 1 + 1) (v0 := .int .i64 y8.kind) (v1 := .string y8.p) (v2 := .string y8.dst) (v3 := .int .i64 y8.at_) (v4 := .slice y8.a1 y8.old.length y8.c1) (v5 := .slice y8.a2 y8.new.length y8.c2) SY.out (by omega)))
         have SB := Lib.hid (six_six (prim_set6 (h := w.heap.size + 1 + 1 + 1) (v0 := .int .i64 y9.kind) (v1 := .string y9.p) (v2 := .string y9.dst) (v3 := .int .i64 y9.at_) (v4 := .slice y9.a1 y9.old.length y9.c1) (v5 := .slice y9.a2 y9.new.length y9.c2) (prim_set6 (h := w.heap.size + 1 + 1) (v0 := .int .i64 y8.kind) (v1 := .string y8.p) (v2 := .string y8.dst) (v3 := .int .i64 y8.at_) (v4 := .slice y8.a1 y8.old.length y8.c1) (v5 := .slice y8.a2 y8.new.length y8.c2) SX.out (by omega)) (by omega)) (prim_set6 (h := w.heap.size + 1 + 1 + 1) (v0 := .int .i64 y9.kind) (v1 := .string y9.p) (v2 := .string y9.dst) (v3 := .int .i64 y9.at_) (v4 := .slice y9.a1 y9.old.length y9.c1) (v5 := .slice y9.a2 y9.new.length y9.c2) (prim_set6 (h := w.heap.size + 1 + 1) (v0 := .int .i64 y8.kind) (v1 := .string y8.p) (v2 := .string y8.dst) (v3 := .int .i64 y8.at_) (v4 := .slice y8.a1 y8.old.length y8.c1) (v5 := .slice y8.a2 y8.new.length y8.c2) SY.out (by omega)) (by omega)))))
    all_goals
      have HT := Lib.hid (two_set (w := w) (.bool true) (HA.out.trans (X9.out.mono HA.out.size)) (show w.heap.size ≤ w.heap.size + 1 + 1 by omega) (show w.heap.size ≤ w.heap.size + 1 + 1 + 1 by omega) (show w.heap.size + 1 + 1 ≠ w.heap.size + 1 + 1 + 1 by omega) (HG.out.on X9.out) (HH.out.on X9.out) (hy8.out.1.on hb9) hy9.out.1 hy8.out.2 hy9.out.2)
      have HT1 := Lib.hid HT.out.1
      have HT2 := Lib.hid HT.out.2.1
      have HT3 := Lib.hid HT.out.2.2
      clear HT S0 SX SY SA SB S7 hb7 S8 hb8 S9 hb9 tya tza ya0 yaf0 ya1 yaf1 ya2 yaf2 ya3 yaf3 ya4 yaf4 ya5 yaf5 za0 zaf0 za1 zaf1 za2 zaf2 za3 zaf3 za4 zaf4 za5 zaf5
      go_wp2
      (try simp only [Exit.inBlock, Exit.then])
      refine bodyPost_ret (ret_prim3 rfl _ _ _ _ y8 y9 _ rfl rfl rfl HT2.out HT3.out) rfl ?_
      exact HT1.out
  · by_cases c2' : at2 + old2.length < at_
    · have hs := hs.out.2.1 c1' c2'
      subst hs
      go_enter Tryz.func114, Tryz.ntmps114
      go_wp2_with fail
      generalize ((((w.alloc (.cells #[.int .i64 kind, .string p, .string q, .int .i64 at_, .slice a1 old.length c1, .slice a2 new.length c2] 33)).alloc (.cells #[.int .i64 kind2, .string p2, .string q2, .int .i64 at2, .slice a3 old2.length c3, .slice a4 new2.length c4] 33)).alloc (.cells #[.int .i64 0, .string ⟨#[]⟩, .string ⟨#[]⟩, .int .i64 0, .slice none 0 0, .slice none 0 0] 33)).alloc (.cells #[.int .i64 0, .string ⟨#[]⟩, .string ⟨#[]⟩, .int .i64 0, .slice none 0 0, .slice none 0 0] 33)) = wa at *
      have CG := Lib.hid (fun W hb => CG2.out W (HW.out W hb))
      have CO := Lib.hid (fun W hb => CO2.out W (HW.out W hb))
      have CC := Lib.hid (fun W hb => CC2.out W (HW.out W hb))
      have HDR : Hid (Below wa.heap.size wa wa.drew) := (Below.refl _ _).drew
      have S0 := Lib.hid (six_six (HX.out.on HDR.out) (HY.out.on HDR.out))
      go_region_held3 (fun w' => w'.cell? ⟨w.heap.size, 0, none⟩ = some (.int .i64 kind) ∧ w'.cell? ⟨w.heap.size, 1, none⟩ = some (.string p) ∧ w'.cell? ⟨w.heap.size, 2, none⟩ = some (.string q) ∧ w'.cell? ⟨w.heap.size, 3, none⟩ = some (.int .i64 at_) ∧ w'.cell? ⟨w.heap.size, 4, none⟩ = some (.slice a1 old.length c1) ∧ w'.cell? ⟨w.heap.size, 5, none⟩ = some (.slice a2 new.length c2) ∧ w'.cell? ⟨w.heap.size + 1, 0, none⟩ = some (.int .i64 kind2) ∧ w'.cell? ⟨w.heap.size + 1, 1, none⟩ = some (.string p2) ∧ w'.cell? ⟨w.heap.size + 1, 2, none⟩ = some (.string q2) ∧ w'.cell? ⟨w.heap.size + 1, 3, none⟩ = some (.int .i64 at2) ∧ w'.cell? ⟨w.heap.size + 1, 4, none⟩ = some (.slice a3 old2.length c3) ∧ w'.cell? ⟨w.heap.size + 1, 5, none⟩ = some (.slice a4 new2.length c4)) (first
        | with_reducible exact S0.out
        | with_reducible exact S7.out
        | with_reducible exact S8.out
        | with_reducible exact S9.out
        | with_reducible exact SA.out
        | with_reducible exact SB.out
        | (go_keep; done)) (first
        | (go_at_call 116; (with_reducible refine (CC.out _ HDR.out).mono ?_); rintro e w7 ⟨y7, rfl, hy7, hb7⟩
           have X7 := Lib.hid (HDR.out.trans (hb7.mono HDR.out.size))
           have S7 := Lib.hid (six_six (HX.out.on X7.out) (HY.out.on X7.out)))
        | (go_at_call 148; (with_reducible refine (CG.out _ X7.out).mono ?_); rintro e w8 ⟨rfl, hb8⟩
           have X8 := Lib.hid (X7.out.trans (hb8.mono X7.out.size))
           have S8 := Lib.hid (six_six (HX.out.on X8.out) (HY.out.on X8.out)))
        | (go_at_call 147; (with_reducible refine (CO.out _ X8.out).mono ?_); rintro e w9 ⟨y9, rfl, hy9, hb9⟩
           have X9 := Lib.hid (X8.out.trans (hb9.mono X8.out.size))
           have S9 := Lib.hid (six_six (HX.out.on X9.out) (HY.out.on X9.out))
           have SX := Lib.hid (HX.out.on X9.out)
           have SY := Lib.hid (HY.out.on X9.out)
           have tya := HG.out.on X9.out
           have ya0 := tya.c0
           have yaf0 := tya.fz 0
           have ya1 := tya.c1
           have yaf1 := tya.fz 1
           have ya2 := tya.c2
           have yaf2 := tya.fz 2
           have ya3 := tya.c3
           have yaf3 := tya.fz 3
           have ya4 := tya.c4
           have yaf4 := tya.fz 4
           have ya5 := tya.c5
           have yaf5 := tya.fz 5
           have tza := HH.out.on X9.out
           have za0 := tza.c0
           have zaf0 := tza.fz 0
           have za1 := tza.c1
           have zaf1 := tza.fz 1
           have za2 := tza.c2
           have zaf2 := tza.fz 2
           have za3 := tza.c3
           have zaf3 := tza.fz 3
           have za4 := tza.c4
           have zaf4 := tza.fz 4
           have za5 := tza.c5
           have zaf5 := tza.fz 5
           have SA := Lib.hid (six_six (prim_set6 (h := w.heap.size + 1 + 1) (v0 := .int .i64 y7.kind) (v1 := .string y7.p) (v2 := .string y7.dst) (v3 := .int .i64 y7.at_) (v4 := .slice y7.a1 y7.old.length y7.c1) (v5 := .slice y7.a2 y7.new.length y7.c2) SX.out (by omega)) (prim_set6 (h := w.heap.size + 1 + 1) (v0 := .int .i64 y7.kind) (v1 := .string y7.p) (v2 := .string y7.dst) (v3 := .int .i64 y7.at_) (v4 := .slice y7.a1 y7.old.length y7.c1) (v5 := .slice y7.a2 y7.new.length y7.c2) SY.out (by omega)))
           have SB := Lib.hid (six_six (prim_set6 (h := w.heap.size + 1 + 1 + 1) (v0 := .int .i64 y9.kind) (v1 := .string y9.p) (v2 := .string y9.dst) (v3 := .int .i64 y9.at_) (v4 := .slice y9.a1 y9.old.length y9.c1) (v5 := .slice y9.a2 y9.new.length y9.c2) (prim_set6 (h := w.heap.size + 1 + 1) (v0 := .int .i64 y7.kind) (v1 := .string y7.p) (v2 := .string y7.dst) (v3 := .int .i64 y7.at_) (v4 := .slice y7.a1 y7.old.length y7.c1) (v5 := .slice y7.a2 y7.new.length y7.c2) SX.out (by omega)) (by omega)) (prim_set6 (h := w.heap.size + 1 + 1 + 1) (v0 := .int .i64 y9.kind) (v1 := .string y9.p) (v2 := .string y9.dst) (v3 := .int .i64 y9.at_) (v4 := .slice y9.a1 y9.old.length y9.c1) (v5 := .slice y9.a2 y9.new.length y9.c2) (prim_set6 (h := w.heap.size + 1 + 1) (v0 := .int .i64 y7.kind) (v1 := .string y7.p) (v2 := .string y7.dst) (v3 := .int .i64 y7.at_) (v4 := .slice y7.a1 y7.old.length y7.c1) (v5 := .slice y7.a2 y7.new.length y7.c2) SY.out (by omega)) (by omega)))))
      all_goals
        have HT := Lib.hid (two_set (w := w) (.bool true) (HA.out.trans (X9.out.mono HA.out.size)) (show w.heap.size ≤ w.heap.size + 1 + 1 by omega) (show w.heap.size ≤ w.heap.size + 1 + 1 + 1 by omega) (show w.heap.size + 1 + 1 ≠ w.heap.size + 1 + 1 + 1 by omega) (HG.out.on X9.out) (HH.out.on X9.out) ((hy7.out.1.on hb8).on hb9) hy9.out.1 hy7.out.2 hy9.out.2)
        have HT1 := Lib.hid HT.out.1
        have HT2 := Lib.hid HT.out.2.1
        have HT3 := Lib.hid HT.out.2.2
        clear HT S0 SX SY SA SB S7 hb7 S8 hb8 S9 hb9 tya tza ya0 yaf0 ya1 yaf1 ya2 yaf2 ya3 yaf3 ya4 yaf4 ya5 yaf5 za0 zaf0 za1 zaf1 za2 zaf2 za3 zaf3 za4 zaf4 za5 zaf5
        go_wp2
        (try simp only [Exit.inBlock, Exit.then])
        refine bodyPost_ret (ret_prim3 rfl _ _ _ _ y7 y9 _ rfl rfl rfl HT2.out HT3.out) rfl ?_
        exact HT1.out
    · have hs := hs.out.2.2 c1' c2'
      subst hs
      have HT1 : Hid (TwoLeft w zeroP zeroP (.bool false) (.returned (.tuple #[.agg #[.int .i64 0, .string ⟨#[]⟩, .string ⟨#[]⟩, .int .i64 0, .slice none 0 0, .slice none 0 0], .agg #[.int .i64 0, .string ⟨#[]⟩, .string ⟨#[]⟩, .int .i64 0, .slice none 0 0, .slice none 0 0], .bool false])) ((((w.alloc (.cells #[.int .i64 kind, .string p, .string q, .int .i64 at_, .slice a1 old.length c1, .slice a2 new.length c2] 33)).alloc (.cells #[.int .i64 kind2, .string p2, .string q2, .int .i64 at2, .slice a3 old2.length c3, .slice a4 new2.length c4] 33)).alloc (.cells #[.int .i64 0, .string ⟨#[]⟩, .string ⟨#[]⟩, .int .i64 0, .slice none 0 0, .slice none 0 0] 33)).alloc (.cells #[.int .i64 0, .string ⟨#[]⟩, .string ⟨#[]⟩, .int .i64 0, .slice none 0 0, .slice none 0 0] 33))) := ⟨⟨0, ⟨#[]⟩, ⟨#[]⟩, 0, none, 0, [], none, 0, []⟩, ⟨0, ⟨#[]⟩, ⟨#[]⟩, 0, none, 0, [], none, 0, []⟩, rfl, ⟨sep_zero _, sep_zero _, rfl, rfl⟩, HA.out⟩
      go_enter Tryz.func114, Tryz.ntmps114
      go_wp2
      (try simp only [Exit.inBlock, Exit.then])
      refine bodyPost_ret (ret_prim3 rfl _ _ _ _ ⟨0, ⟨#[]⟩, ⟨#[]⟩, 0, none, 0, [], none, 0, []⟩ ⟨0, ⟨#[]⟩, ⟨#[]⟩, 0, none, 0, [], none, 0, []⟩ _ rfl rfl rfl HG.out HH.out) rfl ?_
      exact HT1.out

end Go.Proofs.YtalabahjfmcnbaaGreatDoor
