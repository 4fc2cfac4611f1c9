/- The statements of layer 8: awake. -/
import Derived.Test.YtknommnlkdlkdaaGreatDoorCk17
import Derived.RegionTactic
import Derived.BigRegion
import Derived.WalkKit
namespace Go.Proofs.YtknommnlkdlkdaaGreatDoor
open Go.RowKit
set_option linter.unusedVariables false

def kA : Pk := ⟨6, [97], [], 0, [[97]], [[98], [99]]⟩
def kB : Pk := ⟨6, [97], [], 4, [], [[122]]⟩
theorem kAB : pairP kA kB = (0, ⟨6, [97], [], 3, [], [[122]]⟩, kA) := by decide +kernel
theorem kAA : pairP kA kA = (13, zeroP, zeroP) := by decide +kernel
theorem kA_ck : ckP kA = 0 := by decide +kernel
def kC : Pk := ⟨1, [120], [], 0, [], []⟩
def kD : Pk := ⟨3, [121], [], 0, [], []⟩
def kE : Pk := ⟨3, [120, 47, 121], [], 0, [], []⟩
theorem kC_ck : ckP kC = 0 := by decide +kernel
theorem kD_ck : ckP kD = 0 := by decide +kernel
theorem kE_ck : ckP kE = 0 := by decide +kernel
theorem kCD : apartP kC kD = true := by decide +kernel
theorem kCE : apartP kC kE = false := by decide +kernel
theorem kA_touch : (touches kA).length = 1 := by decide +kernel
theorem wide_nil : WideK [] := ⟨by simp, by simp⟩
theorem kA_wd : WdK kA := ⟨by decide, by decide, ⟨by decide, by simp [kA]⟩, ⟨by decide, by simp [kA]⟩⟩
theorem kB_wd : WdK kB := ⟨by decide, by decide, wide_nil, ⟨by decide, by simp [kB]⟩⟩
theorem kC_wd : WdK kC := ⟨by decide, by decide, wide_nil, wide_nil⟩
theorem kD_wd : WdK kD := ⟨by decide, by decide, wide_nil, wide_nil⟩
theorem kE_wd : WdK kE := ⟨by decide, by decide, wide_nil, wide_nil⟩
def xA (g : Nat) : Pm := ⟨6, ⟨#[97]⟩, ⟨#[]⟩, 0, some ⟨g, 0, none⟩, 1, [[97]], some ⟨g + 1, 0, none⟩, 2, [[98], [99]]⟩
def xB (g : Nat) : Pm := ⟨6, ⟨#[97]⟩, ⟨#[]⟩, 4, none, 0, [], some ⟨g, 0, none⟩, 1, [[122]]⟩
def xC : Pm := ⟨1, ⟨#[120]⟩, ⟨#[]⟩, 0, none, 0, [], none, 0, []⟩
def xD : Pm := ⟨3, ⟨#[121]⟩, ⟨#[]⟩, 0, none, 0, [], none, 0, []⟩
def xE : Pm := ⟨3, ⟨#[120, 47, 121]⟩, ⟨#[]⟩, 0, none, 0, [], none, 0, []⟩
theorem x_bare (w : World) : xC.Ok w w.heap.size ∧ xD.Ok w w.heap.size ∧ xE.Ok w w.heap.size :=
  ⟨(sep_bare w 1 ⟨#[120]⟩ ⟨#[]⟩ (by decide) (by decide) (by decide) (by decide)).1, (sep_bare w 3 ⟨#[121]⟩ ⟨#[]⟩ (by decide) (by decide) (by decide) (by decide)).1, (sep_bare w 3 ⟨#[120, 47, 121]⟩ ⟨#[]⟩ (by decide) (by decide) (by decide) (by decide)).1⟩
/-- Both steps as they lie. -/
theorem aw_made (w : World) : Below w.heap.size w (((((w.alloc (.cells #[.string ⟨#[97]⟩] 9)).alloc (.cells #[.string ⟨#[98]⟩, .string ⟨#[99]⟩] 9)).alloc (.cells #[.int .i64 6, .string ⟨#[97]⟩, .string ⟨#[]⟩, .int .i64 0, .slice (some ⟨w.heap.size, 0, none⟩) 1 1, .slice (some ⟨w.heap.size + 1, 0, none⟩) 2 2] 25)).alloc (.cells #[.string ⟨#[122]⟩] 9)).alloc (.cells #[.int .i64 6, .string ⟨#[97]⟩, .string ⟨#[]⟩, .int .i64 4, .slice none 0 0, .slice (some ⟨w.heap.size + 1 + 1 + 1, 0, none⟩) 1 1] 25)) ∧ PrimAt (((((w.alloc (.cells #[.string ⟨#[97]⟩] 9)).alloc (.cells #[.string ⟨#[98]⟩, .string ⟨#[99]⟩] 9)).alloc (.cells #[.int .i64 6, .string ⟨#[97]⟩, .string ⟨#[]⟩, .int .i64 0, .slice (some ⟨w.heap.size, 0, none⟩) 1 1, .slice (some ⟨w.heap.size + 1, 0, none⟩) 2 2] 25)).alloc (.cells #[.string ⟨#[122]⟩] 9)).alloc (.cells #[.int .i64 6, .string ⟨#[97]⟩, .string ⟨#[]⟩, .int .i64 4, .slice none 0 0, .slice (some ⟨w.heap.size + 1 + 1 + 1, 0, none⟩) 1 1] 25)) (w.heap.size + 1 + 1) (xA w.heap.size) ∧ PrimAt (((((w.alloc (.cells #[.string ⟨#[97]⟩] 9)).alloc (.cells #[.string ⟨#[98]⟩, .string ⟨#[99]⟩] 9)).alloc (.cells #[.int .i64 6, .string ⟨#[97]⟩, .string ⟨#[]⟩, .int .i64 0, .slice (some ⟨w.heap.size, 0, none⟩) 1 1, .slice (some ⟨w.heap.size + 1, 0, none⟩) 2 2] 25)).alloc (.cells #[.string ⟨#[122]⟩] 9)).alloc (.cells #[.int .i64 6, .string ⟨#[97]⟩, .string ⟨#[]⟩, .int .i64 4, .slice none 0 0, .slice (some ⟨w.heap.size + 1 + 1 + 1, 0, none⟩) 1 1] 25)) (w.heap.size + 1 + 1 + 1 + 1) (xB (w.heap.size + 1 + 1 + 1)) ∧ (xA w.heap.size).Ok (((((w.alloc (.cells #[.string ⟨#[97]⟩] 9)).alloc (.cells #[.string ⟨#[98]⟩, .string ⟨#[99]⟩] 9)).alloc (.cells #[.int .i64 6, .string ⟨#[97]⟩, .string ⟨#[]⟩, .int .i64 0, .slice (some ⟨w.heap.size, 0, none⟩) 1 1, .slice (some ⟨w.heap.size + 1, 0, none⟩) 2 2] 25)).alloc (.cells #[.string ⟨#[122]⟩] 9)).alloc (.cells #[.int .i64 6, .string ⟨#[97]⟩, .string ⟨#[]⟩, .int .i64 4, .slice none 0 0, .slice (some ⟨w.heap.size + 1 + 1 + 1, 0, none⟩) 1 1] 25)) (((((w.alloc (.cells #[.string ⟨#[97]⟩] 9)).alloc (.cells #[.string ⟨#[98]⟩, .string ⟨#[99]⟩] 9)).alloc (.cells #[.int .i64 6, .string ⟨#[97]⟩, .string ⟨#[]⟩, .int .i64 0, .slice (some ⟨w.heap.size, 0, none⟩) 1 1, .slice (some ⟨w.heap.size + 1, 0, none⟩) 2 2] 25)).alloc (.cells #[.string ⟨#[122]⟩] 9)).alloc (.cells #[.int .i64 6, .string ⟨#[97]⟩, .string ⟨#[]⟩, .int .i64 4, .slice none 0 0, .slice (some ⟨w.heap.size + 1 + 1 + 1, 0, none⟩) 1 1] 25)).heap.size ∧ (xB (w.heap.size + 1 + 1 + 1)).Ok (((((w.alloc (.cells #[.string ⟨#[97]⟩] 9)).alloc (.cells #[.string ⟨#[98]⟩, .string ⟨#[99]⟩] 9)).alloc (.cells #[.int .i64 6, .string ⟨#[97]⟩, .string ⟨#[]⟩, .int .i64 0, .slice (some ⟨w.heap.size, 0, none⟩) 1 1, .slice (some ⟨w.heap.size + 1, 0, none⟩) 2 2] 25)).alloc (.cells #[.string ⟨#[122]⟩] 9)).alloc (.cells #[.int .i64 6, .string ⟨#[97]⟩, .string ⟨#[]⟩, .int .i64 4, .slice none 0 0, .slice (some ⟨w.heap.size + 1 + 1 + 1, 0, none⟩) 1 1] 25)) (((((w.alloc (.cells #[.string ⟨#[97]⟩] 9)).alloc (.cells #[.string ⟨#[98]⟩, .string ⟨#[99]⟩] 9)).alloc (.cells #[.int .i64 6, .string ⟨#[97]⟩, .string ⟨#[]⟩, .int .i64 0, .slice (some ⟨w.heap.size, 0, none⟩) 1 1, .slice (some ⟨w.heap.size + 1, 0, none⟩) 2 2] 25)).alloc (.cells #[.string ⟨#[122]⟩] 9)).alloc (.cells #[.int .i64 6, .string ⟨#[97]⟩, .string ⟨#[]⟩, .int .i64 4, .slice none 0 0, .slice (some ⟨w.heap.size + 1 + 1 + 1, 0, none⟩) 1 1] 25)).heap.size := by
  have s1 := strs_one w ⟨#[97]⟩
  have z1 : (w.alloc (.cells #[.string ⟨#[97]⟩] 9)).heap.size = w.heap.size + 1 := World.size_alloc _ _
  have b1 : Below w.heap.size w (w.alloc (.cells #[.string ⟨#[97]⟩] 9)) := (Below.refl _ _).alloc (Nat.le_refl _) _
  generalize (w.alloc (.cells #[.string ⟨#[97]⟩] 9)) = w1 at *
  have s2 := strs_two w1 ⟨#[98]⟩ ⟨#[99]⟩
  have z2 : (w1.alloc (.cells #[.string ⟨#[98]⟩, .string ⟨#[99]⟩] 9)).heap.size = w1.heap.size + 1 := World.size_alloc _ _
  have b2 : Below w1.heap.size w1 (w1.alloc (.cells #[.string ⟨#[98]⟩, .string ⟨#[99]⟩] 9)) := (Below.refl _ _).alloc (Nat.le_refl _) _
  generalize (w1.alloc (.cells #[.string ⟨#[98]⟩, .string ⟨#[99]⟩] 9)) = w2 at *
  have p3 := PrimAt.new_ w2 (xA w.heap.size)
  have z3 : (w2.alloc (.cells (xA w.heap.size).cells.toArray 25)).heap.size = w2.heap.size + 1 := World.size_alloc _ _
  have b3 : Below w2.heap.size w2 (w2.alloc (.cells (xA w.heap.size).cells.toArray 25)) := (Below.refl _ _).alloc (Nat.le_refl _) _
  have e3 : (w2.alloc (.cells #[.int .i64 6, .string ⟨#[97]⟩, .string ⟨#[]⟩, .int .i64 0, .slice (some ⟨w.heap.size, 0, none⟩) 1 1, .slice (some ⟨w.heap.size + 1, 0, none⟩) 2 2] 25)) = (w2.alloc (.cells (xA w.heap.size).cells.toArray 25)) := rfl
  rw [e3]
  generalize (w2.alloc (.cells (xA w.heap.size).cells.toArray 25)) = w3 at *
  have s4 := strs_one w3 ⟨#[122]⟩
  have z4 : (w3.alloc (.cells #[.string ⟨#[122]⟩] 9)).heap.size = w3.heap.size + 1 := World.size_alloc _ _
  have b4 : Below w3.heap.size w3 (w3.alloc (.cells #[.string ⟨#[122]⟩] 9)) := (Below.refl _ _).alloc (Nat.le_refl _) _
  generalize (w3.alloc (.cells #[.string ⟨#[122]⟩] 9)) = w4 at *
  have p5 := PrimAt.new_ w4 (xB (w.heap.size + 1 + 1 + 1))
  have b5 : Below w4.heap.size w4 (w4.alloc (.cells (xB (w.heap.size + 1 + 1 + 1)).cells.toArray 25)) := (Below.refl _ _).alloc (Nat.le_refl _) _
  have e5 : (w4.alloc (.cells #[.int .i64 6, .string ⟨#[97]⟩, .string ⟨#[]⟩, .int .i64 4, .slice none 0 0, .slice (some ⟨w.heap.size + 1 + 1 + 1, 0, none⟩) 1 1] 25)) = (w4.alloc (.cells (xB (w.heap.size + 1 + 1 + 1)).cells.toArray 25)) := rfl
  rw [e5]
  generalize (w4.alloc (.cells (xB (w.heap.size + 1 + 1 + 1)).cells.toArray 25)) = w5 at *
  have q2 : w2.heap.size = w.heap.size + 1 + 1 := by rw [z2, z1]
  have q4 : w4.heap.size = w.heap.size + 1 + 1 + 1 + 1 := by rw [z4, z3, z2, z1]
  have q3 : w3.heap.size = w.heap.size + 1 + 1 + 1 := by rw [z3, z2, z1]
  rw [q2] at p3
  rw [q4] at p5
  rw [q3] at s4
  rw [z1] at s2
  have b45 := b4.trans (b5.mono b4.size)
  have b35 := b3.trans (b45.mono b3.size)
  have b25 := b2.trans (b35.mono b2.size)
  have b15 := b1.trans (b25.mono b1.size)
  have t1 := (s1.on b25)
  have t2 := (s2.on b35)
  have t4 := (s4.on b5)
  refine ⟨b15, p3.on b45, p5, ⟨⟨t1, ?_, ⟨(fun e => by cases e), Nat.le_refl _⟩, ⟨(fun e => by cases e), Nat.le_refl _⟩, (show (-9223372036854775808 : Int) ≤ 0 by decide), (show (0 : Int) ≤ 9223372036854775807 by decide), (show (1 : Nat) ≤ 9223372036854775807 by decide), (show (2 : Nat) ≤ 9223372036854775807 by decide)⟩, (show ByteArray.size ⟨#[97]⟩ ≤ 9223372036854775807 by decide), (show ByteArray.size ⟨#[]⟩ ≤ 9223372036854775807 by decide), (show (-9223372036854775808 : Int) ≤ 6 by decide), (show (6 : Int) ≤ 9223372036854775807 by decide)⟩, ⟨⟨Strs.none_, t4, ⟨(fun _ => rfl), Nat.le_refl _⟩, ⟨(fun e => by cases e), Nat.le_refl _⟩, (show (-9223372036854775808 : Int) ≤ 4 by decide), (show (4 : Int) ≤ 9223372036854775807 by decide), (show (0 : Nat) ≤ 9223372036854775807 by decide), (show (1 : Nat) ≤ 9223372036854775807 by decide)⟩, (show ByteArray.size ⟨#[97]⟩ ≤ 9223372036854775807 by decide), (show ByteArray.size ⟨#[]⟩ ≤ 9223372036854775807 by decide), (show (-9223372036854775808 : Int) ≤ 6 by decide), (show (6 : Int) ≤ 9223372036854775807 by decide)⟩⟩
  exact t2
set_option maxHeartbeats 20000000 in
set_option maxRecDepth 100000 in
theorem cawake_any (w : World) (hT : Tabs w) : Calls Tryz.prog 6 #[] w fun e w' => e = .returned (.bool true) ∧ Below w.heap.size w w' := by
  obtain ⟨ha, hx, hy, ox, oy⟩ := aw_made w
  have HA := Lib.hid ha
  have HX := Lib.hid hx
  have HY := Lib.hid hy
  have OX := Lib.hid ox
  have OY := Lib.hid oy
  have HT := Lib.hid (Tabs.on hT ha)
  clear ha hx hy ox oy hT
  have b0 := HX.out.c0
  have b1 := HX.out.c1
  have b2 := HX.out.c2
  have b3 := HX.out.c3
  have b4 := HX.out.c4
  have b5 := HX.out.c5
  have d0 := HY.out.c0
  have d1 := HY.out.c1
  have d2 := HY.out.c2
  have d3 := HY.out.c3
  have d4 := HY.out.c4
  have d5 := HY.out.c5
  go_enter Tryz.func6, Tryz.ntmps6
  go_wp2_with fail
  generalize (((((w.alloc (.cells #[.string ⟨#[97]⟩] 9)).alloc (.cells #[.string ⟨#[98]⟩, .string ⟨#[99]⟩] 9)).alloc (.cells #[.int .i64 6, .string ⟨#[97]⟩, .string ⟨#[]⟩, .int .i64 0, .slice (some ⟨w.heap.size, 0, none⟩) 1 1, .slice (some ⟨w.heap.size + 1, 0, none⟩) 2 2] 25)).alloc (.cells #[.string ⟨#[122]⟩] 9)).alloc (.cells #[.int .i64 6, .string ⟨#[97]⟩, .string ⟨#[]⟩, .int .i64 4, .slice none 0 0, .slice (some ⟨w.heap.size + 1 + 1 + 1, 0, none⟩) 1 1] 25)) = wa at *
  refine (cpair_any (xA w.heap.size) (xB (w.heap.size + 1 + 1 + 1)) wa OX.out OY.out kA_wd kB_wd HT.out).mono ?_
  rintro e w1 ⟨y7, y8, rfl, hy1, hb1⟩
  have hk1 : (xA w.heap.size).key = kA := rfl
  have hk2 : (xB (w.heap.size + 1 + 1 + 1)).key = kB := rfl
  rw [hk1, hk2, kAB] at hy1
  rw [hk1, hk2, kAB]
  obtain ⟨bl, k7, k8⟩ := box2 w1 y7 y8
  have e1 : ((w1.alloc (.cells y7.cells.toArray 25)).alloc (.cells y8.cells.toArray 25)) = ((w1.alloc (.cells #[.int .i64 y7.kind, .string y7.p, .string y7.dst, .int .i64 y7.at_, .slice y7.a1 y7.old.length y7.c1, .slice y7.a2 y7.new.length y7.c2] 25)).alloc (.cells #[.int .i64 y8.kind, .string y8.p, .string y8.dst, .int .i64 y8.at_, .slice y8.a1 y8.old.length y8.c1, .slice y8.a2 y8.new.length y8.c2] 25)) := rfl
  rw [e1] at bl k7 k8
  have hbl := hb1.trans (bl.mono hb1.size)
  have hx1 := HX.out.on hbl
  have K7 := Lib.hid k7
  have K8 := Lib.hid k8
  have A7 : Hid (y7.at_ = 3) := congrArg Pk.at_ hy1.out.2.2.1
  have A8 : Hid (y8.at_ = 0) := congrArg Pk.at_ hy1.out.2.2.2
  replace HA := Lib.hid (HA.out.trans (hbl.mono HA.out.size))
  replace HX := Lib.hid (HX.out.on hbl)
  replace HY := Lib.hid (HY.out.on hbl)
  replace OX := Lib.hid (OX.out.on hbl)
  replace OY := Lib.hid (OY.out.on hbl)
  replace HT := Lib.hid (Tabs.on HT.out hbl)
  clear b0 b1 b2 b3 b4 b5 d0 d1 d2 d3 d4 d5 hy1 hk1 hk2 bl k7 k8 e1 hbl hb1
  have b0 := hx1.c0
  have b1 := hx1.c1
  have b2 := hx1.c2
  have b3 := hx1.c3
  have b4 := hx1.c4
  have b5 := hx1.c5
  clear hx1
  go_wp2_with fail
  generalize ((w1.alloc (.cells #[.int .i64 y7.kind, .string y7.p, .string y7.dst, .int .i64 y7.at_, .slice y7.a1 y7.old.length y7.c1, .slice y7.a2 y7.new.length y7.c2] 25)).alloc (.cells #[.int .i64 y8.kind, .string y8.p, .string y8.dst, .int .i64 y8.at_, .slice y8.a1 y8.old.length y8.c1, .slice y8.a2 y8.new.length y8.c2] 25)) = wb at *
  refine (cpair_any (xA w.heap.size) (xA w.heap.size) wb OX.out OX.out kA_wd kA_wd HT.out).mono ?_
  rintro e w2 ⟨y9, z9, rfl, hy2, hb2⟩
  have hk1 : (xA w.heap.size).key = kA := rfl
  rw [hk1, kAA]
  obtain ⟨bl, _, _⟩ := box2 w2 y9 z9
  have e1 : ((w2.alloc (.cells y9.cells.toArray 25)).alloc (.cells z9.cells.toArray 25)) = ((w2.alloc (.cells #[.int .i64 y9.kind, .string y9.p, .string y9.dst, .int .i64 y9.at_, .slice y9.a1 y9.old.length y9.c1, .slice y9.a2 y9.new.length y9.c2] 25)).alloc (.cells #[.int .i64 z9.kind, .string z9.p, .string z9.dst, .int .i64 z9.at_, .slice z9.a1 z9.old.length z9.c1, .slice z9.a2 z9.new.length z9.c2] 25)) := rfl
  rw [e1] at bl
  have hbl := hb2.trans (bl.mono hb2.size)
  replace K7 := Lib.hid (K7.out.on hbl)
  replace K8 := Lib.hid (K8.out.on hbl)
  replace HA := Lib.hid (HA.out.trans (hbl.mono HA.out.size))
  replace HX := Lib.hid (HX.out.on hbl)
  replace HY := Lib.hid (HY.out.on hbl)
  replace OX := Lib.hid (OX.out.on hbl)
  replace OY := Lib.hid (OY.out.on hbl)
  replace HT := Lib.hid (Tabs.on HT.out hbl)
  clear b0 b1 b2 b3 b4 b5 hy2 hk1 bl e1 hbl hb2
  have a7 := K7.out.c3
  have a8 := K8.out.c3
  rw [A7.out] at a7
  rw [A8.out] at a8
  have b0 := HX.out.c0
  have b1 := HX.out.c1
  have b2 := HX.out.c2
  have b3 := HX.out.c3
  have b4 := HX.out.c4
  have b5 := HX.out.c5
  have d0 := HY.out.c0
  have d1 := HY.out.c1
  have d2 := HY.out.c2
  have d3 := HY.out.c3
  have d4 := HY.out.c4
  have d5 := HY.out.c5
  clear K7 K8 A7 A8
  go_wp2_with fail
  generalize ((w2.alloc (.cells #[.int .i64 y9.kind, .string y9.p, .string y9.dst, .int .i64 y9.at_, .slice y9.a1 y9.old.length y9.c1, .slice y9.a2 y9.new.length y9.c2] 25)).alloc (.cells #[.int .i64 z9.kind, .string z9.p, .string z9.dst, .int .i64 z9.at_, .slice z9.a1 z9.old.length z9.c1, .slice z9.a2 z9.new.length z9.c2] 25)) = wc at *
  refine (ccan_any (xA w.heap.size) (xB (w.heap.size + 1 + 1 + 1)) wc OX.out OY.out kA_wd kB_wd HT.out _ _ kAB).mono ?_
  rintro e w3 ⟨rfl, hb⟩
  replace HA := Lib.hid (HA.out.trans (hb.mono HA.out.size))
  replace HX := Lib.hid (HX.out.on hb)
  replace OX := Lib.hid (OX.out.on hb)
  replace HT := Lib.hid (Tabs.on HT.out hb)
  clear b0 b1 b2 b3 b4 b5 d0 d1 d2 d3 d4 d5 a7 a8 HY OY hb
  go_wp2_with fail
  refine (capart2_any xC xD w3 (x_bare w3).1 (x_bare w3).2.1 kC_wd kD_wd HT.out kC_ck kD_ck true kCD).mono ?_
  rintro e w4 ⟨rfl, hb⟩
  replace HA := Lib.hid (HA.out.trans (hb.mono HA.out.size))
  replace HX := Lib.hid (HX.out.on hb)
  replace OX := Lib.hid (OX.out.on hb)
  replace HT := Lib.hid (Tabs.on HT.out hb)
  clear hb
  go_wp2_with fail
  refine (capart2_any xC xE w4 (x_bare w4).1 (x_bare w4).2.2 kC_wd kE_wd HT.out kC_ck kE_ck false kCE).mono ?_
  rintro e w5 ⟨rfl, hb⟩
  replace HA := Lib.hid (HA.out.trans (hb.mono HA.out.size))
  replace HX := Lib.hid (HX.out.on hb)
  replace OX := Lib.hid (OX.out.on hb)
  replace HT := Lib.hid (Tabs.on HT.out hb)
  clear hb
  have b0 := HX.out.c0
  have b1 := HX.out.c1
  have b2 := HX.out.c2
  have b3 := HX.out.c3
  have b4 := HX.out.c4
  have b5 := HX.out.c5
  go_wp2_with fail
  refine (ctouches_any (xA w.heap.size) w5 OX.out kA_wd HT.out kA_ck).mono ?_
  rintro e w6 ⟨A, c, rfl, _, _, hb⟩
  have hk1 : (touches (xA w.heap.size).key).length = 1 := kA_touch
  rw [hk1]
  replace HA := Lib.hid (HA.out.trans (hb.mono HA.out.size))
  clear b0 b1 b2 b3 b4 b5 hb hk1 HX OX HT
  go_wp2
  go_ret
  exact ⟨rfl, HA.out⟩
end Go.Proofs.YtknommnlkdlkdaaGreatDoor
