/- Package fuse's right, ofOneFile, overlap, touch, undone, movesOn. -/
import Derived.Test.YtempamboacbgiaaGreatDoorCk03
import Derived.Test.YtempamboacbgiaaGreatDoorCk09
import Derived.Test.YtempamboacbgiaaGreatDoorCk10
import Derived.Lib.MinMax
import Derived.Deep.RegionHeld3
import Derived.WalkKit
namespace Go.Proofs.YtempamboacbgiaaGreatDoor
open Go.RowKit
set_option linter.unusedVariables false

set_option maxHeartbeats 8000000 in
set_option maxRecDepth 100000 in
theorem fright_any (x y : Pm) (w : World) (ox : x.Ok w w.heap.size) (oy : y.Ok w w.heap.size) (wx : WdK x.key) (wy : WdK y.key) (hT : Tabs w) (r : Bool) (hr : decide (ckP x.key = 0 ∧ ckP y.key = 0) = r) :
    Calls Tryz.prog 32 #[x.val, y.val] w fun e w' => e = .returned (.bool r) ∧ Below w.heap.size w w' := by
  have C1 := Lib.hid (fun W (hb : Below w.heap.size w W) => check_w (ox.on hb) wx (Tabs.on hT hb))
  have C2 := Lib.hid (fun W (hb : Below w.heap.size w W) => check_w (oy.on hb) wy (Tabs.on hT hb))
  clear ox oy wx wy hT
  generalize ckP x.key = n1 at *
  generalize ckP y.key = n2 at *
  unfold Pm.val at C1 C2 ⊢
  obtain ⟨hal, hx, hy⟩ := box2 w x y
  have e0 : ((w.alloc (.cells x.cells.toArray 38)).alloc (.cells y.cells.toArray 38)) = ((w.alloc (.cells #[.int .i64 x.kind, .string x.p, .string x.dst, .int .i64 x.at_, .slice x.a1 x.old.length x.c1, .slice x.a2 x.new.length x.c2] 38)).alloc (.cells #[.int .i64 y.kind, .string y.p, .string y.dst, .int .i64 y.at_, .slice y.a1 y.old.length y.c1, .slice y.a2 y.new.length y.c2] 38)) := rfl
  rw [e0] at hal hx hy
  have HX := Lib.hid hx
  have HY := Lib.hid hy
  have HA := Lib.hid hal
  clear hal hx hy e0
  by_cases h1 : n1 = 0
  · have k1 : (n1 == 0) = true := by simpa using h1
    obtain ⟨d, hd⟩ : ∃ d, (n2 == 0) = d := ⟨_, rfl⟩
    have hrd : r = d := by
      rw [← hr, ← hd]
      by_cases h2 : n2 = 0 <;> simp [h1, h2]
    subst hrd
    subst h1
    clear hr
    go_enter Tryz.func32, Tryz.ntmps32
    go_wp2_with fail
    generalize hwa : ((w.alloc (.cells #[.int .i64 x.kind, .string x.p, .string x.dst, .int .i64 x.at_, .slice x.a1 x.old.length x.c1, .slice x.a2 x.new.length x.c2] 38)).alloc (.cells #[.int .i64 y.kind, .string y.p, .string y.dst, .int .i64 y.at_, .slice y.a1 y.old.length y.c1, .slice y.a2 y.new.length y.c2] 38)) = wa at *
    clear hwa
    refine (C1.out _ HA.out).mono ?_
    rintro e w1 ⟨rfl, hb⟩
    replace HX := Lib.hid (HX.out.on hb)
    replace HY := Lib.hid (HY.out.on hb)
    replace HA := Lib.hid (HA.out.trans (hb.mono HA.out.size))
    clear hb
    have y0 := HY.out.c0
    have y1 := HY.out.c1
    have y2 := HY.out.c2
    have y3 := HY.out.c3
    have y4 := HY.out.c4
    have y5 := HY.out.c5
    go_wp2_with fail
    refine (C2.out _ HA.out).mono ?_
    rintro e w2 ⟨rfl, hb⟩
    replace HX := Lib.hid (HX.out.on hb)
    replace HY := Lib.hid (HY.out.on hb)
    replace HA := Lib.hid (HA.out.trans (hb.mono HA.out.size))
    clear hb y0 y1 y2 y3 y4 y5
    go_wp2
    go_ret
    exact ⟨rfl, HA.out⟩
  · have k1 : (n1 == 0) = false := by simpa using h1
    have hrd : r = false := by
      rw [← hr]
      simp [h1]
    subst hrd
    clear hr h1
    go_enter Tryz.func32, Tryz.ntmps32
    go_wp2_with fail
    generalize hwa : ((w.alloc (.cells #[.int .i64 x.kind, .string x.p, .string x.dst, .int .i64 x.at_, .slice x.a1 x.old.length x.c1, .slice x.a2 x.new.length x.c2] 38)).alloc (.cells #[.int .i64 y.kind, .string y.p, .string y.dst, .int .i64 y.at_, .slice y.a1 y.old.length y.c1, .slice y.a2 y.new.length y.c2] 38)) = wa at *
    clear hwa
    refine (C1.out _ HA.out).mono ?_
    rintro e w1 ⟨rfl, hb⟩
    replace HX := Lib.hid (HX.out.on hb)
    replace HY := Lib.hid (HY.out.on hb)
    replace HA := Lib.hid (HA.out.trans (hb.mono HA.out.size))
    clear hb
    go_wp2
    go_ret
    exact ⟨rfl, HA.out⟩

set_option maxHeartbeats 8000000 in
set_option maxRecDepth 100000 in
theorem fone_any (x y : Pm) (w : World) (r : Bool) (hr : decide (x.kind = 6 ∧ y.kind = 6 ∧ x.p = y.p) = r) :
    Calls Tryz.prog 31 #[x.val, y.val] w fun e w' => e = .returned (.bool r) ∧ Below w.heap.size w w' := by
  unfold Pm.val
  obtain ⟨hal, hx, hy⟩ := box2 w x y
  have e0 : ((w.alloc (.cells x.cells.toArray 38)).alloc (.cells y.cells.toArray 38)) = ((w.alloc (.cells #[.int .i64 x.kind, .string x.p, .string x.dst, .int .i64 x.at_, .slice x.a1 x.old.length x.c1, .slice x.a2 x.new.length x.c2] 38)).alloc (.cells #[.int .i64 y.kind, .string y.p, .string y.dst, .int .i64 y.at_, .slice y.a1 y.old.length y.c1, .slice y.a2 y.new.length y.c2] 38)) := rfl
  rw [e0] at hal hx hy
  have HX := Lib.hid hx
  have HY := Lib.hid hy
  have HA := Lib.hid hal
  clear hal hx hy e0
  have x0 := HX.out.c0
  have x1 := HX.out.c1
  have y0 := HY.out.c0
  have y1 := HY.out.c1
  have HR := Lib.hid hr
  clear hr
  by_cases h1 : x.kind = 6
  · have k1 : (x.kind == 6) = true := by simpa using h1
    by_cases h2 : y.kind = 6
    · have k2 : (y.kind == 6) = true := by simpa using h2
      have k3 : (x.p.toList == y.p.toList) = r := by rw [str_beq, ← HR.out]; simp [h1, h2]
      clear h1 h2
      go_enter Tryz.func31, Tryz.ntmps31
      cases r <;> go_wp2 <;> go_ret <;> exact ⟨rfl, HA.out⟩
    · have k2 : (y.kind == 6) = false := by simpa using h2
      have hf : r = false := by rw [← HR.out]; simp [h2]
      subst hf
      clear h1 h2
      go_enter Tryz.func31, Tryz.ntmps31
      go_wp2
      go_ret
      exact ⟨rfl, HA.out⟩
  · have k1 : (x.kind == 6) = false := by simpa using h1
    have hf : r = false := by rw [← HR.out]; simp [h1]
    subst hf
    clear h1
    go_enter Tryz.func31, Tryz.ntmps31
    go_wp2
    go_ret
    exact ⟨rfl, HA.out⟩

set_option maxHeartbeats 8000000 in
set_option maxRecDepth 100000 in
theorem fmoves_any (x y : Pm) (w : World) (r : Bool) (hr : decide (x.kind = 5 ∧ y.kind = 5 ∧ y.p = x.dst) = r) :
    Calls Tryz.prog 87 #[x.val, y.val] w fun e w' => e = .returned (.bool r) ∧ Below w.heap.size w w' := by
  unfold Pm.val
  obtain ⟨hal, hx, hy⟩ := box2 w x y
  have e0 : ((w.alloc (.cells x.cells.toArray 38)).alloc (.cells y.cells.toArray 38)) = ((w.alloc (.cells #[.int .i64 x.kind, .string x.p, .string x.dst, .int .i64 x.at_, .slice x.a1 x.old.length x.c1, .slice x.a2 x.new.length x.c2] 38)).alloc (.cells #[.int .i64 y.kind, .string y.p, .string y.dst, .int .i64 y.at_, .slice y.a1 y.old.length y.c1, .slice y.a2 y.new.length y.c2] 38)) := rfl
  rw [e0] at hal hx hy
  have HX := Lib.hid hx
  have HY := Lib.hid hy
  have HA := Lib.hid hal
  clear hal hx hy e0
  have x0 := HX.out.c0
  have x2 := HX.out.c2
  have y0 := HY.out.c0
  have y1 := HY.out.c1
  have HR := Lib.hid hr
  clear hr
  by_cases h1 : x.kind = 5
  · have k1 : (x.kind == 5) = true := by simpa using h1
    by_cases h2 : y.kind = 5
    · have k2 : (y.kind == 5) = true := by simpa using h2
      have k3 : (y.p.toList == x.dst.toList) = r := by rw [str_beq, ← HR.out]; simp [h1, h2]
      clear h1 h2
      go_enter Tryz.func87, Tryz.ntmps87
      cases r <;> go_wp2 <;> go_ret <;> exact ⟨rfl, HA.out⟩
    · have k2 : (y.kind == 5) = false := by simpa using h2
      have hf : r = false := by rw [← HR.out]; simp [h2]
      subst hf
      clear h1 h2
      go_enter Tryz.func87, Tryz.ntmps87
      go_wp2
      go_ret
      exact ⟨rfl, HA.out⟩
  · have k1 : (x.kind == 5) = false := by simpa using h1
    have hf : r = false := by rw [← HR.out]; simp [h1]
    subst hf
    clear h1
    go_enter Tryz.func87, Tryz.ntmps87
    go_wp2
    go_ret
    exact ⟨rfl, HA.out⟩

/-- Where both hunks begin to lie over one another, and how far: in cells of a block each. -/
structure OverAt (w : World) (B : Nat) (b f : Int) : Prop where
  b : w.heap[B]? = some (.cells #[.int .i64 b] 3 (0, 0))
  f : w.heap[B + 1]? = some (.cells #[.int .i64 f] 3 (0, 0))
theorem OverAt.c0 {w : World} {B : Nat} {b f : Int} (h : OverAt w B b f) : w.cell? ⟨B, 0, none⟩ = some (.int .i64 b) := by simp [World.cell?, h.b]
theorem OverAt.c1 {w : World} {B : Nat} {b f : Int} (h : OverAt w B b f) : w.cell? ⟨B + 1, 0, none⟩ = some (.int .i64 f) := by simp [World.cell?, h.f]
theorem OverAt.on {w w' : World} {B : Nat} {b f : Int} (h : OverAt w B b f) (hb : Below w.heap.size w w') : OverAt w' B b f :=
  ⟨(hb.block B (Array.getElem?_eq_some_iff.1 h.b).1).trans h.b, (hb.block (B + 1) (Array.getElem?_eq_some_iff.1 h.f).1).trans h.f⟩
theorem over_new (w : World) (b f : Int) : OverAt ((w.alloc (.cells #[.int .i64 b] 3)).alloc (.cells #[.int .i64 f] 3)) w.heap.size b f ∧ Below w.heap.size w ((w.alloc (.cells #[.int .i64 b] 3)).alloc (.cells #[.int .i64 f] 3)) := by
  have b1 : Below w.heap.size w (w.alloc (.cells #[.int .i64 b] 3)) := (Below.refl _ _).alloc (Nat.le_refl _) _
  refine ⟨⟨?_, ?_⟩, b1.alloc b1.size _⟩
  · rw [heap_alloc_old _ _ (by simp)]
    exact heap_alloc_new w _
  · have := heap_alloc_new (w.alloc (.cells #[.int .i64 b] 3)) (.cells #[.int .i64 f] 3)
    rw [World.size_alloc] at this
    exact this
/-- What overlap hands back. -/
def OverLeft (w : World) (b f : Int) (e : Ending) (w' : World) : Prop :=
  ∃ B, e = .returned (.func (.func 90) #[] #[.pointer (some ⟨B, 0, none⟩), .pointer (some ⟨B + 1, 0, none⟩)]) ∧ Hid (OverAt w' B b f) ∧ Below w.heap.size w w'
set_option maxHeartbeats 8000000 in
set_option maxRecDepth 100000 in
theorem foverlap_any (x y : Pm) (w : World) (h1 : 0 ≤ x.at_) (h2 : 0 ≤ y.at_) (g1 : x.at_ ≤ 1099511627776) (g2 : y.at_ ≤ 1099511627776) (m1 : x.new.length ≤ 100000) (m2 : y.old.length ≤ 100000) (b f : Int) (hb : max x.at_ y.at_ = b) (hf : min (x.at_ - b + x.new.length) (y.at_ - b + y.old.length) = f) :
    Calls Tryz.prog 55 #[x.val, y.val] w (OverLeft w b f) := by
  unfold Pm.val
  obtain ⟨hal, hx, hy⟩ := box2 w x y
  have e0 : ((w.alloc (.cells x.cells.toArray 38)).alloc (.cells y.cells.toArray 38)) = ((w.alloc (.cells #[.int .i64 x.kind, .string x.p, .string x.dst, .int .i64 x.at_, .slice x.a1 x.old.length x.c1, .slice x.a2 x.new.length x.c2] 38)).alloc (.cells #[.int .i64 y.kind, .string y.p, .string y.dst, .int .i64 y.at_, .slice y.a1 y.old.length y.c1, .slice y.a2 y.new.length y.c2] 38)) := rfl
  rw [e0] at hal hx hy
  have HX := Lib.hid hx
  have HY := Lib.hid hy
  have HA := Lib.hid hal
  clear hal hx hy e0
  have x3 := HX.out.c3
  have x5 := HX.out.c5
  have y3 := HY.out.c3
  have y4 := HY.out.c4
  have bb1 : x.at_ ≤ b := by omega
  have bb2 : y.at_ ≤ b := by omega
  have bb3 : b ≤ 1099511627776 := by omega
  have hn := over_new ((w.alloc (.cells #[.int .i64 x.kind, .string x.p, .string x.dst, .int .i64 x.at_, .slice x.a1 x.old.length x.c1, .slice x.a2 x.new.length x.c2] 38)).alloc (.cells #[.int .i64 y.kind, .string y.p, .string y.dst, .int .i64 y.at_, .slice y.a1 y.old.length y.c1, .slice y.a2 y.new.length y.c2] 38)) b f
  rw [show ((w.alloc (.cells #[.int .i64 x.kind, .string x.p, .string x.dst, .int .i64 x.at_, .slice x.a1 x.old.length x.c1, .slice x.a2 x.new.length x.c2] 38)).alloc (.cells #[.int .i64 y.kind, .string y.p, .string y.dst, .int .i64 y.at_, .slice y.a1 y.old.length y.c1, .slice y.a2 y.new.length y.c2] 38)).heap.size = w.heap.size + 1 + 1 by rw [World.size_alloc, World.size_alloc]] at hn
  have HN := Lib.hid hn
  clear hn
  go_enter Tryz.func55, Tryz.ntmps55
  go_wp2
  go_ret
  exact ⟨_, rfl, HN.out.1, HA.out.trans (HN.out.2.mono (by have := HA.out.size; omega))⟩
set_option maxHeartbeats 8000000 in
set_option maxRecDepth 100000 in
theorem fover_any (B : Nat) (b f n : Int) (w : World) (h : OverAt w B b f) (h1 : 0 ≤ n) (h2 : n ≤ b) (h3 : b ≤ 1099511627776) (h4 : -1099511627776 ≤ f) (h5 : f ≤ 1099511627776) :
    Calls Tryz.prog 90 #[.int .i64 n, .pointer (some ⟨B, 0, none⟩), .pointer (some ⟨B + 1, 0, none⟩)] w fun e w' => e = .returned (.tuple #[.int .i64 (b - n), .int .i64 (b - n + f)]) ∧ ∃ q, w' = w.drewN q := by
  have c0 := h.c0
  have c1 := h.c1
  clear h
  go_enter Tryz.func90, Tryz.ntmps90
  go_wp2
  go_quiet (fail)
  go_wp2
  go_ret2
  exact ⟨rfl, _, rfl⟩

set_option maxHeartbeats 8000000 in
set_option maxRecDepth 100000 in
theorem ftouch_any (x y : Pm) (w : World) (h1 : 0 ≤ x.at_) (h2 : 0 ≤ y.at_) (g1 : x.at_ ≤ 1099511627776) (g2 : y.at_ ≤ 1099511627776) (m1 : x.new.length ≤ 100000) (m2 : y.old.length ≤ 100000) (b f : Int) (hb : max x.at_ y.at_ = b) (hf : min (x.at_ - b + x.new.length) (y.at_ - b + y.old.length) = f) (r : Bool) (hr : decide (0 ≤ f) = r) :
    Calls Tryz.prog 35 #[x.val, y.val] w fun e w' => e = .returned (.bool r) ∧ Below w.heap.size w w' := by
  have CO := Lib.hid (fun W => foverlap_any x y W h1 h2 g1 g2 m1 m2 b f hb hf)
  have bb1 : x.at_ ≤ b := by omega
  have bb2 : b ≤ 1099511627776 := by omega
  have bb3 : -1099511627776 ≤ f := by omega
  have bb4 : f ≤ 1099511627776 := by omega
  have C1 := Lib.hid (fun B W (h : OverAt W B b f) => fover_any B b f x.at_ W h h1 bb1 bb2 bb3 bb4)
  have hle : (b - x.at_ ≤ b - x.at_ + f) = (0 ≤ f) := by apply propext; omega
  have HR : Hid (decide (b - x.at_ ≤ b - x.at_ + f) = r) := by show _ = _; rw [← hr]; congr 1
  clear h1 h2 g1 g2 m1 m2 hb hf bb1 bb2 bb3 bb4 hle hr
  unfold Pm.val at CO ⊢
  obtain ⟨hal, hx, hy⟩ := box2 w x y
  have e0 : ((w.alloc (.cells x.cells.toArray 38)).alloc (.cells y.cells.toArray 38)) = ((w.alloc (.cells #[.int .i64 x.kind, .string x.p, .string x.dst, .int .i64 x.at_, .slice x.a1 x.old.length x.c1, .slice x.a2 x.new.length x.c2] 38)).alloc (.cells #[.int .i64 y.kind, .string y.p, .string y.dst, .int .i64 y.at_, .slice y.a1 y.old.length y.c1, .slice y.a2 y.new.length y.c2] 38)) := rfl
  rw [e0] at hal hx hy
  have HX := Lib.hid hx
  have HY := Lib.hid hy
  have HA := Lib.hid hal
  clear hal hx hy e0
  go_enter Tryz.func35, Tryz.ntmps35
  go_wp2_with fail
  generalize hwa : ((w.alloc (.cells #[.int .i64 x.kind, .string x.p, .string x.dst, .int .i64 x.at_, .slice x.a1 x.old.length x.c1, .slice x.a2 x.new.length x.c2] 38)).alloc (.cells #[.int .i64 y.kind, .string y.p, .string y.dst, .int .i64 y.at_, .slice y.a1 y.old.length y.c1, .slice y.a2 y.new.length y.c2] 38)) = wa at *
  clear hwa
  have HDR : Hid (Below wa.heap.size wa wa.drew) := (Below.refl _ _).drew
  have S0 := Lib.hid (six_six (HX.out.on HDR.out) (HY.out.on HDR.out))
  go_region_held3 (fun w' => w'.cell? ⟨w.heap.size, 0, none⟩ = some (.int .i64 x.kind) ∧ w'.cell? ⟨w.heap.size, 1, none⟩ = some (.string x.p) ∧ w'.cell? ⟨w.heap.size, 2, none⟩ = some (.string x.dst) ∧ w'.cell? ⟨w.heap.size, 3, none⟩ = some (.int .i64 x.at_) ∧ w'.cell? ⟨w.heap.size, 4, none⟩ = some (.slice x.a1 x.old.length x.c1) ∧ w'.cell? ⟨w.heap.size, 5, none⟩ = some (.slice x.a2 x.new.length x.c2) ∧ w'.cell? ⟨w.heap.size + 1, 0, none⟩ = some (.int .i64 y.kind) ∧ w'.cell? ⟨w.heap.size + 1, 1, none⟩ = some (.string y.p) ∧ w'.cell? ⟨w.heap.size + 1, 2, none⟩ = some (.string y.dst) ∧ w'.cell? ⟨w.heap.size + 1, 3, none⟩ = some (.int .i64 y.at_) ∧ w'.cell? ⟨w.heap.size + 1, 4, none⟩ = some (.slice y.a1 y.old.length y.c1) ∧ w'.cell? ⟨w.heap.size + 1, 5, none⟩ = some (.slice y.a2 y.new.length y.c2)) (first
    | with_reducible exact S0.out
    | with_reducible exact S7.out
    | with_reducible exact S8.out
    | (go_keep; done)) (first
    | (go_at_call 55; (with_reducible refine (CO.out _).mono ?_); rintro e w7 ⟨B7, rfl, hc7, hb7⟩
       have X7 := Lib.hid (HDR.out.trans (hb7.mono HDR.out.size))
       have S7 := Lib.hid (six_six (HX.out.on X7.out) (HY.out.on X7.out)))
    | (go_at_call 90; (with_reducible refine (C1.out B7 _ hc7.out).mono ?_); rintro e w8 ⟨rfl, q8, hw8⟩
       have X8 : Hid (Below wa.heap.size wa w8) := (by subst hw8; exact below_drewN X7.out q8)
       have S8 := Lib.hid (six_six (HX.out.on X8.out) (HY.out.on X8.out))
       clear hw8))
  all_goals
    have HB := Lib.hid (HA.out.trans (X8.out.mono HA.out.size))
    clear S0 S7 S8 hc7 hb7 X7 X8 CO C1
    go_wp2
    go_ret
    rw [HR.out]
    exact ⟨rfl, HB.out⟩

set_option maxHeartbeats 8000000 in
set_option maxRecDepth 100000 in
theorem fundone_any (x y : Pm) (w : World) (ox : x.Ok w w.heap.size) (oy : y.Ok w w.heap.size) (wx : WdK x.key) (wy : WdK y.key) (hc : ckP x.key = 0) (r : Bool) (hr : decide ((x.kind = 1 ∨ x.kind = 3 ∨ x.kind = 5) ∧ invP x.key = y.key) = r) :
    Calls Tryz.prog 86 #[x.val, y.val] w fun e w' => e = .returned (.bool r) ∧ Below w.heap.size w w' := by
  have CI := Lib.hid (fun W (hb : Below w.heap.size w W) => pinvert_any x W (ox.on hb) (Nat.le_trans wx.old.1 (by decide)) (Nat.le_trans wx.new.1 (by decide)) hc)
  have CS := Lib.hid (fun (z : Pm) (hz : z.key = invP x.key) W (hb : Below w.heap.size w W) (oz : z.Ok W W.heap.size) => psame_any y z W (decide (y.key = z.key)) rfl (oy.on hb) oz (Nat.le_trans wy.old.1 (by decide)) (Nat.le_trans wy.new.1 (by decide)) (by have := congrArg Pk.old hz; simp only [Pm.key, invP] at this; rw [this]; exact Nat.le_trans wx.new.1 (by decide)) (by have := congrArg Pk.new hz; simp only [Pm.key, invP] at this; rw [this]; exact Nat.le_trans wx.old.1 (by decide)))
  have HE : Hid (∀ z : Pm, z.key = invP x.key → (x.kind = 1 ∨ x.kind = 3 ∨ x.kind = 5) → decide (y.key = z.key) = r) := by
    intro z hz hk
    rw [← hr, hz]
    by_cases h : invP x.key = y.key
    · rw [decide_eq_true h.symm, decide_eq_true ⟨hk, h⟩]
    · rw [decide_eq_false (fun e => h e.symm), decide_eq_false (fun e => h e.2)]
  have HF : Hid (¬ (x.kind = 1 ∨ x.kind = 3 ∨ x.kind = 5) → r = false) := by
    intro hk
    rw [← hr]
    exact decide_eq_false fun e => hk e.1
  clear ox oy wx wy hc hr
  generalize invP x.key = ik at *
  unfold Pm.val at CI CS ⊢
  obtain ⟨hal, hx, hy⟩ := box2 w x y
  have e0 : ((w.alloc (.cells x.cells.toArray 38)).alloc (.cells y.cells.toArray 38)) = ((w.alloc (.cells #[.int .i64 x.kind, .string x.p, .string x.dst, .int .i64 x.at_, .slice x.a1 x.old.length x.c1, .slice x.a2 x.new.length x.c2] 38)).alloc (.cells #[.int .i64 y.kind, .string y.p, .string y.dst, .int .i64 y.at_, .slice y.a1 y.old.length y.c1, .slice y.a2 y.new.length y.c2] 38)) := rfl
  rw [e0] at hal hx hy
  have HX := Lib.hid hx
  have HY := Lib.hid hy
  have HA := Lib.hid hal
  clear hal hx hy e0
  have x0 := HX.out.c0
  by_cases hk : x.kind = 1 ∨ x.kind = 3 ∨ x.kind = 5
  · have HE := Lib.hid (fun z hz => HE.out z hz hk)
    clear HF
    rcases hk with hk | hk | hk
    · skip
      have k1 : (x.kind == 1) = true := by rw [hk]; rfl
      have k3 : (x.kind == 3) = false := by rw [hk]; rfl
      have k5 : (x.kind == 5) = false := by rw [hk]; rfl
      clear hk
      go_enter Tryz.func86, Tryz.ntmps86
      go_wp2_with fail
      generalize hwa : ((w.alloc (.cells #[.int .i64 x.kind, .string x.p, .string x.dst, .int .i64 x.at_, .slice x.a1 x.old.length x.c1, .slice x.a2 x.new.length x.c2] 38)).alloc (.cells #[.int .i64 y.kind, .string y.p, .string y.dst, .int .i64 y.at_, .slice y.a1 y.old.length y.c1, .slice y.a2 y.new.length y.c2] 38)) = wa at *
      clear hwa x0
      have HDR : Hid (Below wa.heap.size wa wa.drew) := (Below.refl _ _).drew
      have S0 := Lib.hid (six_six (HX.out.on HDR.out) (HY.out.on HDR.out))
      go_region_held3 (fun w' => w'.cell? ⟨w.heap.size, 0, none⟩ = some (.int .i64 x.kind) ∧ w'.cell? ⟨w.heap.size, 1, none⟩ = some (.string x.p) ∧ w'.cell? ⟨w.heap.size, 2, none⟩ = some (.string x.dst) ∧ w'.cell? ⟨w.heap.size, 3, none⟩ = some (.int .i64 x.at_) ∧ w'.cell? ⟨w.heap.size, 4, none⟩ = some (.slice x.a1 x.old.length x.c1) ∧ w'.cell? ⟨w.heap.size, 5, none⟩ = some (.slice x.a2 x.new.length x.c2) ∧ w'.cell? ⟨w.heap.size + 1, 0, none⟩ = some (.int .i64 y.kind) ∧ w'.cell? ⟨w.heap.size + 1, 1, none⟩ = some (.string y.p) ∧ w'.cell? ⟨w.heap.size + 1, 2, none⟩ = some (.string y.dst) ∧ w'.cell? ⟨w.heap.size + 1, 3, none⟩ = some (.int .i64 y.at_) ∧ w'.cell? ⟨w.heap.size + 1, 4, none⟩ = some (.slice y.a1 y.old.length y.c1) ∧ w'.cell? ⟨w.heap.size + 1, 5, none⟩ = some (.slice y.a2 y.new.length y.c2)) (first
        | with_reducible exact S0.out
        | with_reducible exact S7.out
        | with_reducible exact S8.out
        | (go_keep; done)) (first
        | (go_at_call 15; (with_reducible refine (CI.out _ (HA.out.trans (HDR.out.mono HA.out.size))).mono ?_); rintro e w7 ⟨y7, rfl, hy7, hb7⟩
           have oz7 : y7.Ok w7 w7.heap.size := hy7.out.1.1
           have X7 := Lib.hid (HDR.out.trans (hb7.mono HDR.out.size))
           have S7 := Lib.hid (six_six (HX.out.on X7.out) (HY.out.on X7.out)))
        | (go_at_call 115; (with_reducible refine (CS.out y7 hy7.out.2 _ (HA.out.trans (X7.out.mono HA.out.size)) oz7).mono ?_); rintro e w8 ⟨rfl, hb8⟩
           have X8 := Lib.hid (X7.out.trans (hb8.mono X7.out.size))
           have S8 := Lib.hid (six_six (HX.out.on X8.out) (HY.out.on X8.out))))
      all_goals
        have HB := Lib.hid (HA.out.trans (X8.out.mono HA.out.size))
        have HD := Lib.hid (HE.out y7 hy7.out.2)
        clear S0 S7 S8 hy7 oz7 hb7 hb8 X7 X8 CI CS HE
        go_wp2
        go_ret
        rw [HD.out]
        exact ⟨rfl, HB.out⟩
    · skip
      have k1 : (x.kind == 1) = false := by rw [hk]; rfl
      have k3 : (x.kind == 3) = true := by rw [hk]; rfl
      have k5 : (x.kind == 5) = false := by rw [hk]; rfl
      clear hk
      go_enter Tryz.func86, Tryz.ntmps86
      go_wp2_with fail
      generalize hwa : ((w.alloc (.cells #[.int .i64 x.kind, .string x.p, .string x.dst, .int .i64 x.at_, .slice x.a1 x.old.length x.c1, .slice x.a2 x.new.length x.c2] 38)).alloc (.cells #[.int .i64 y.kind, .string y.p, .string y.dst, .int .i64 y.at_, .slice y.a1 y.old.length y.c1, .slice y.a2 y.new.length y.c2] 38)) = wa at *
      clear hwa x0
      have HDR : Hid (Below wa.heap.size wa wa.drew) := (Below.refl _ _).drew
      have S0 := Lib.hid (six_six (HX.out.on HDR.out) (HY.out.on HDR.out))
      go_region_held3 (fun w' => w'.cell? ⟨w.heap.size, 0, none⟩ = some (.int .i64 x.kind) ∧ w'.cell? ⟨w.heap.size, 1, none⟩ = some (.string x.p) ∧ w'.cell? ⟨w.heap.size, 2, none⟩ = some (.string x.dst) ∧ w'.cell? ⟨w.heap.size, 3, none⟩ = some (.int .i64 x.at_) ∧ w'.cell? ⟨w.heap.size, 4, none⟩ = some (.slice x.a1 x.old.length x.c1) ∧ w'.cell? ⟨w.heap.size, 5, none⟩ = some (.slice x.a2 x.new.length x.c2) ∧ w'.cell? ⟨w.heap.size + 1, 0, none⟩ = some (.int .i64 y.kind) ∧ w'.cell? ⟨w.heap.size + 1, 1, none⟩ = some (.string y.p) ∧ w'.cell? ⟨w.heap.size + 1, 2, none⟩ = some (.string y.dst) ∧ w'.cell? ⟨w.heap.size + 1, 3, none⟩ = some (.int .i64 y.at_) ∧ w'.cell? ⟨w.heap.size + 1, 4, none⟩ = some (.slice y.a1 y.old.length y.c1) ∧ w'.cell? ⟨w.heap.size + 1, 5, none⟩ = some (.slice y.a2 y.new.length y.c2)) (first
        | with_reducible exact S0.out
        | with_reducible exact S7.out
        | with_reducible exact S8.out
        | (go_keep; done)) (first
        | (go_at_call 15; (with_reducible refine (CI.out _ (HA.out.trans (HDR.out.mono HA.out.size))).mono ?_); rintro e w7 ⟨y7, rfl, hy7, hb7⟩
           have oz7 : y7.Ok w7 w7.heap.size := hy7.out.1.1
           have X7 := Lib.hid (HDR.out.trans (hb7.mono HDR.out.size))
           have S7 := Lib.hid (six_six (HX.out.on X7.out) (HY.out.on X7.out)))
        | (go_at_call 115; (with_reducible refine (CS.out y7 hy7.out.2 _ (HA.out.trans (X7.out.mono HA.out.size)) oz7).mono ?_); rintro e w8 ⟨rfl, hb8⟩
           have X8 := Lib.hid (X7.out.trans (hb8.mono X7.out.size))
           have S8 := Lib.hid (six_six (HX.out.on X8.out) (HY.out.on X8.out))))
      all_goals
        have HB := Lib.hid (HA.out.trans (X8.out.mono HA.out.size))
        have HD := Lib.hid (HE.out y7 hy7.out.2)
        clear S0 S7 S8 hy7 oz7 hb7 hb8 X7 X8 CI CS HE
        go_wp2
        go_ret
        rw [HD.out]
        exact ⟨rfl, HB.out⟩
    · skip
      have k1 : (x.kind == 1) = false := by rw [hk]; rfl
      have k3 : (x.kind == 3) = false := by rw [hk]; rfl
      have k5 : (x.kind == 5) = true := by rw [hk]; rfl
      clear hk
      go_enter Tryz.func86, Tryz.ntmps86
      go_wp2_with fail
      generalize hwa : ((w.alloc (.cells #[.int .i64 x.kind, .string x.p, .string x.dst, .int .i64 x.at_, .slice x.a1 x.old.length x.c1, .slice x.a2 x.new.length x.c2] 38)).alloc (.cells #[.int .i64 y.kind, .string y.p, .string y.dst, .int .i64 y.at_, .slice y.a1 y.old.length y.c1, .slice y.a2 y.new.length y.c2] 38)) = wa at *
      clear hwa x0
      have HDR : Hid (Below wa.heap.size wa wa.drew) := (Below.refl _ _).drew
      have S0 := Lib.hid (six_six (HX.out.on HDR.out) (HY.out.on HDR.out))
      go_region_held3 (fun w' => w'.cell? ⟨w.heap.size, 0, none⟩ = some (.int .i64 x.kind) ∧ w'.cell? ⟨w.heap.size, 1, none⟩ = some (.string x.p) ∧ w'.cell? ⟨w.heap.size, 2, none⟩ = some (.string x.dst) ∧ w'.cell? ⟨w.heap.size, 3, none⟩ = some (.int .i64 x.at_) ∧ w'.cell? ⟨w.heap.size, 4, none⟩ = some (.slice x.a1 x.old.length x.c1) ∧ w'.cell? ⟨w.heap.size, 5, none⟩ = some (.slice x.a2 x.new.length x.c2) ∧ w'.cell? ⟨w.heap.size + 1, 0, none⟩ = some (.int .i64 y.kind) ∧ w'.cell? ⟨w.heap.size + 1, 1, none⟩ = some (.string y.p) ∧ w'.cell? ⟨w.heap.size + 1, 2, none⟩ = some (.string y.dst) ∧ w'.cell? ⟨w.heap.size + 1, 3, none⟩ = some (.int .i64 y.at_) ∧ w'.cell? ⟨w.heap.size + 1, 4, none⟩ = some (.slice y.a1 y.old.length y.c1) ∧ w'.cell? ⟨w.heap.size + 1, 5, none⟩ = some (.slice y.a2 y.new.length y.c2)) (first
        | with_reducible exact S0.out
        | with_reducible exact S7.out
        | with_reducible exact S8.out
        | (go_keep; done)) (first
        | (go_at_call 15; (with_reducible refine (CI.out _ (HA.out.trans (HDR.out.mono HA.out.size))).mono ?_); rintro e w7 ⟨y7, rfl, hy7, hb7⟩
           have oz7 : y7.Ok w7 w7.heap.size := hy7.out.1.1
           have X7 := Lib.hid (HDR.out.trans (hb7.mono HDR.out.size))
           have S7 := Lib.hid (six_six (HX.out.on X7.out) (HY.out.on X7.out)))
        | (go_at_call 115; (with_reducible refine (CS.out y7 hy7.out.2 _ (HA.out.trans (X7.out.mono HA.out.size)) oz7).mono ?_); rintro e w8 ⟨rfl, hb8⟩
           have X8 := Lib.hid (X7.out.trans (hb8.mono X7.out.size))
           have S8 := Lib.hid (six_six (HX.out.on X8.out) (HY.out.on X8.out))))
      all_goals
        have HB := Lib.hid (HA.out.trans (X8.out.mono HA.out.size))
        have HD := Lib.hid (HE.out y7 hy7.out.2)
        clear S0 S7 S8 hy7 oz7 hb7 hb8 X7 X8 CI CS HE
        go_wp2
        go_ret
        rw [HD.out]
        exact ⟨rfl, HB.out⟩
  · have hf := HF.out hk
    subst hf
    simp only [not_or] at hk
    have k1 : (x.kind == 1) = false := by simpa using hk.1
    have k3 : (x.kind == 3) = false := by simpa using hk.2.1
    have k5 : (x.kind == 5) = false := by simpa using hk.2.2
    clear hk HE CI CS HF
    go_enter Tryz.func86, Tryz.ntmps86
    go_wp2
    go_ret
    exact ⟨rfl, HA.out⟩

/-- Numbers that no machine has too many of. -/
structure AtK (k : Pk) : Prop extends WdK k where
  hi : k.at_ ≤ 1099511627776
theorem touch_code {p q : Pk} (hp : ckP p = 0) (hq : ckP q = 0) (h6 : p.kind = 6 ∧ q.kind = 6 ∧ p.path = q.path) (b f : Int) (hb : max p.at_ q.at_ = b) (hf : min (p.at_ - b + p.new.length) (q.at_ - b + q.old.length) = f) : decide (0 ≤ f) = touchP p q := by
  rw [touch_iff hp hq h6.1 h6.2.1 h6.2.2]
  congr 1
  exact propext (touch_far b f hb.symm hf.symm)
theorem one_iff (x y : Pm) : (x.kind = 6 ∧ y.kind = 6 ∧ x.p = y.p) ↔ (x.key.kind = 6 ∧ y.key.kind = 6 ∧ x.key.path = y.key.path) := by
  unfold Pm.key
  simp only
  exact ⟨fun ⟨a, b, c⟩ => ⟨a, b, by rw [c]⟩, fun ⟨a, b, c⟩ => ⟨a, b, bytes_inj c⟩⟩

set_option maxHeartbeats 8000000 in
set_option maxRecDepth 100000 in
theorem fTouch_any (x y : Pm) (w : World) (ox : x.Ok w w.heap.size) (oy : y.Ok w w.heap.size) (wx : AtK x.key) (wy : AtK y.key) (hT : Tabs w) (r : Bool) (hr : touchP x.key y.key = r) :
    Calls Tryz.prog 16 #[x.val, y.val] w fun e w' => e = .returned (.bool r) ∧ Below w.heap.size w w' := by
  have C1 := Lib.hid (fun W => fone_any x y W _ rfl)
  have C2 := Lib.hid (fun W (hb : Below w.heap.size w W) => fright_any x y W (ox.on hb) (oy.on hb) wx.toWdK wy.toWdK (Tabs.on hT hb) _ rfl)
  obtain ⟨b, hb⟩ : ∃ b, max x.at_ y.at_ = b := ⟨_, rfl⟩
  obtain ⟨f, hf⟩ : ∃ f, min (x.at_ - b + x.new.length) (y.at_ - b + y.old.length) = f := ⟨_, rfl⟩
  have C3 := Lib.hid (fun h1 h2 W => ftouch_any x y W h1 h2 wx.hi wy.hi wx.new.1 wy.old.1 b f hb hf _ rfl)
  have H0 : Hid (¬ (x.kind = 6 ∧ y.kind = 6 ∧ x.p = y.p) → r = false) := fun h => by rw [← hr]; exact touch_not fun e => h ((one_iff x y).2 e)
  have H1 : Hid (¬ (ckP x.key = 0 ∧ ckP y.key = 0) → r = false) := fun h => by rw [← hr]; exact touch_wrong h
  have H2 : Hid (x.kind = 6 ∧ y.kind = 6 ∧ x.p = y.p → ckP x.key = 0 ∧ ckP y.key = 0 → 0 ≤ x.at_ ∧ 0 ≤ y.at_ ∧ decide (0 ≤ f) = r) := by
    intro h k
    have e := (one_iff x y).1 h
    refine ⟨(ck_nums k.1 e.1).1, (ck_nums k.2 e.2.1).1, ?_⟩
    rw [← hr]
    exact touch_code k.1 k.2 e b f hb hf
  clear ox oy wx wy hT hr hb hf
  unfold Pm.val at C1 C2 C3 ⊢
  obtain ⟨hal, hx, hy⟩ := box2 w x y
  have e0 : ((w.alloc (.cells x.cells.toArray 38)).alloc (.cells y.cells.toArray 38)) = ((w.alloc (.cells #[.int .i64 x.kind, .string x.p, .string x.dst, .int .i64 x.at_, .slice x.a1 x.old.length x.c1, .slice x.a2 x.new.length x.c2] 38)).alloc (.cells #[.int .i64 y.kind, .string y.p, .string y.dst, .int .i64 y.at_, .slice y.a1 y.old.length y.c1, .slice y.a2 y.new.length y.c2] 38)) := rfl
  rw [e0] at hal hx hy
  have HX := Lib.hid hx
  have HY := Lib.hid hy
  have HA := Lib.hid hal
  clear hal hx hy e0
  by_cases h1 : x.kind = 6 ∧ y.kind = 6 ∧ x.p = y.p
  · rw [decide_eq_true h1] at C1
    by_cases h2 : ckP x.key = 0 ∧ ckP y.key = 0
    · rw [decide_eq_true h2] at C2
      obtain ⟨a1, a2, a3⟩ := H2.out h1 h2
      rw [a3] at C3
      have C3 := Lib.hid (C3.out a1 a2)
      clear H0 H1 H2 h1 h2 a1 a2 a3
      go_enter Tryz.func16, Tryz.ntmps16
      go_wp2_with fail
      generalize hwa : ((w.alloc (.cells #[.int .i64 x.kind, .string x.p, .string x.dst, .int .i64 x.at_, .slice x.a1 x.old.length x.c1, .slice x.a2 x.new.length x.c2] 38)).alloc (.cells #[.int .i64 y.kind, .string y.p, .string y.dst, .int .i64 y.at_, .slice y.a1 y.old.length y.c1, .slice y.a2 y.new.length y.c2] 38)) = wa at *
      clear hwa
      refine (C1.out wa).mono ?_
      rintro e w1 ⟨rfl, hb⟩
      replace HX := Lib.hid (HX.out.on hb)
      replace HY := Lib.hid (HY.out.on hb)
      replace HA := Lib.hid (HA.out.trans (hb.mono HA.out.size))
      clear hb
      have x0 := HX.out.c0
      have x1 := HX.out.c1
      have x2 := HX.out.c2
      have x3 := HX.out.c3
      have x4 := HX.out.c4
      have x5 := HX.out.c5
      have y0 := HY.out.c0
      have y1 := HY.out.c1
      have y2 := HY.out.c2
      have y3 := HY.out.c3
      have y4 := HY.out.c4
      have y5 := HY.out.c5
      go_wp2_with fail
      refine (C2.out w1 HA.out).mono ?_
      rintro e w2 ⟨rfl, hb⟩
      clear x0 y0 x1 y1 x2 y2 x3 y3 x4 y4 x5 y5
      replace HX := Lib.hid (HX.out.on hb)
      replace HY := Lib.hid (HY.out.on hb)
      replace HA := Lib.hid (HA.out.trans (hb.mono HA.out.size))
      clear hb
      have x0 := HX.out.c0
      have x1 := HX.out.c1
      have x2 := HX.out.c2
      have x3 := HX.out.c3
      have x4 := HX.out.c4
      have x5 := HX.out.c5
      have y0 := HY.out.c0
      have y1 := HY.out.c1
      have y2 := HY.out.c2
      have y3 := HY.out.c3
      have y4 := HY.out.c4
      have y5 := HY.out.c5
      go_wp2_with fail
      refine (C3.out w2).mono ?_
      rintro e w3 ⟨rfl, hb⟩
      clear x0 y0 x1 y1 x2 y2 x3 y3 x4 y4 x5 y5
      replace HX := Lib.hid (HX.out.on hb)
      replace HY := Lib.hid (HY.out.on hb)
      replace HA := Lib.hid (HA.out.trans (hb.mono HA.out.size))
      clear hb
      cases r <;> go_wp2 <;> go_ret <;> exact ⟨rfl, HA.out⟩
    · rw [decide_eq_false h2] at C2
      have hf := H1.out h2
      subst hf
      clear H0 H1 H2 h1 h2 C3
      go_enter Tryz.func16, Tryz.ntmps16
      go_wp2_with fail
      generalize hwa : ((w.alloc (.cells #[.int .i64 x.kind, .string x.p, .string x.dst, .int .i64 x.at_, .slice x.a1 x.old.length x.c1, .slice x.a2 x.new.length x.c2] 38)).alloc (.cells #[.int .i64 y.kind, .string y.p, .string y.dst, .int .i64 y.at_, .slice y.a1 y.old.length y.c1, .slice y.a2 y.new.length y.c2] 38)) = wa at *
      clear hwa
      refine (C1.out wa).mono ?_
      rintro e w1 ⟨rfl, hb⟩
      replace HX := Lib.hid (HX.out.on hb)
      replace HY := Lib.hid (HY.out.on hb)
      replace HA := Lib.hid (HA.out.trans (hb.mono HA.out.size))
      clear hb
      have x0 := HX.out.c0
      have x1 := HX.out.c1
      have x2 := HX.out.c2
      have x3 := HX.out.c3
      have x4 := HX.out.c4
      have x5 := HX.out.c5
      have y0 := HY.out.c0
      have y1 := HY.out.c1
      have y2 := HY.out.c2
      have y3 := HY.out.c3
      have y4 := HY.out.c4
      have y5 := HY.out.c5
      go_wp2_with fail
      refine (C2.out w1 HA.out).mono ?_
      rintro e w2 ⟨rfl, hb⟩
      clear x0 y0 x1 y1 x2 y2 x3 y3 x4 y4 x5 y5
      replace HX := Lib.hid (HX.out.on hb)
      replace HY := Lib.hid (HY.out.on hb)
      replace HA := Lib.hid (HA.out.trans (hb.mono HA.out.size))
      clear hb
      go_wp2
      go_ret
      exact ⟨rfl, HA.out⟩
  · rw [decide_eq_false h1] at C1
    have hf := H0.out h1
    subst hf
    clear H0 H1 H2 h1 C2 C3
    go_enter Tryz.func16, Tryz.ntmps16
    go_wp2_with fail
    generalize hwa : ((w.alloc (.cells #[.int .i64 x.kind, .string x.p, .string x.dst, .int .i64 x.at_, .slice x.a1 x.old.length x.c1, .slice x.a2 x.new.length x.c2] 38)).alloc (.cells #[.int .i64 y.kind, .string y.p, .string y.dst, .int .i64 y.at_, .slice y.a1 y.old.length y.c1, .slice y.a2 y.new.length y.c2] 38)) = wa at *
    clear hwa
    refine (C1.out wa).mono ?_
    rintro e w1 ⟨rfl, hb⟩
    replace HX := Lib.hid (HX.out.on hb)
    replace HY := Lib.hid (HY.out.on hb)
    replace HA := Lib.hid (HA.out.trans (hb.mono HA.out.size))
    clear hb
    go_wp2
    go_ret
    exact ⟨rfl, HA.out⟩

end Go.Proofs.YtempamboacbgiaaGreatDoor
