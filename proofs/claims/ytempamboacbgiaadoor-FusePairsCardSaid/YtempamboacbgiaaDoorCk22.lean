/- The statements of layer 9: awake. The statements' Light of steps (layer 7). What the laws of steps hold: steps in blocks, rows of steps. The statements' light of layer 9: steps that are not far too many, nor too far behind. -/
import Derived.Test.YtempamboacbgiaaDoorCk21
import Derived.Deep.RegionHeld3
import Derived.WalkKit
import Derived.Test.YtempamboacbgiaaDoorCk03
import Derived.Test.YtempamboacbgiaaDoorCk04
import Derived.Test.YtempamboacbgiaaDoorCk09
namespace Go.Proofs.YtempamboacbgiaaDoor
open Go.RowKit
set_option linter.unusedVariables false

def kP : Pk := ⟨6, [102], [], 0, [[97]], [[98]]⟩
def kQ : Pk := ⟨6, [102], [], 0, [[98]], [[99]]⟩
def kX3 : Pk := ⟨3, [120], [], 0, [], []⟩
def kX4 : Pk := ⟨4, [120], [], 0, [], []⟩
theorem kPQ : hunksP kP kQ = some ⟨6, [102], [], 0, [[97]], [[99]]⟩ := by decide +kernel
theorem kP_ck : ckP kP = 0 := by decide +kernel
theorem kPQ_touch : touchP kP kQ = true := by decide +kernel
theorem kAll : fuseAllP [kX3, kP, invP kP, kX4] = [] := by decide +kernel
theorem kP_fz : FzK kP := ⟨by decide, by decide, ⟨by decide, by simp [kP]⟩, ⟨by decide, by simp [kP]⟩, by decide⟩
theorem kI_fz : FzK (invP kP) := ⟨by decide, by decide, ⟨by decide, by simp [kP, invP]⟩, ⟨by decide, by simp [kP, invP]⟩, by decide⟩
theorem kQ_fz : FzK kQ := ⟨by decide, by decide, ⟨by decide, by simp [kQ]⟩, ⟨by decide, by simp [kQ]⟩, by decide⟩
theorem kX3_fz : FzK kX3 := ⟨by decide, by decide, MidK.nil, MidK.nil, by decide⟩
theorem kX4_fz : FzK kX4 := ⟨by decide, by decide, MidK.nil, MidK.nil, by decide⟩
def xP (g : Nat) : Pm := ⟨6, ⟨#[102]⟩, ⟨#[]⟩, 0, some ⟨g, 0, none⟩, 1, [[97]], some ⟨g + 1, 0, none⟩, 1, [[98]]⟩
def xQ (g : Nat) : Pm := ⟨6, ⟨#[102]⟩, ⟨#[]⟩, 0, some ⟨g, 0, none⟩, 1, [[98]], some ⟨g + 1, 0, none⟩, 1, [[99]]⟩
def x3 : Pm := ⟨3, ⟨#[120]⟩, ⟨#[]⟩, 0, none, 0, [], none, 0, []⟩
def x4 : Pm := ⟨4, ⟨#[120]⟩, ⟨#[]⟩, 0, none, 0, [], none, 0, []⟩
theorem x34_ok (w : World) : x3.Ok w w.heap.size ∧ x4.Ok w w.heap.size := ⟨(sep_bare w 3 ⟨#[120]⟩ ⟨#[]⟩ (by decide) (by decide) (by decide) (by decide)).1, (sep_bare w 4 ⟨#[120]⟩ ⟨#[]⟩ (by decide) (by decide) (by decide) (by decide)).1⟩
/-- Both steps as they lie. -/
theorem aw9_made (w : World) : Below w.heap.size w ((((((w.alloc (.cells #[.string ⟨#[97]⟩] 9)).alloc (.cells #[.string ⟨#[98]⟩] 9)).alloc (.cells #[.int .i64 6, .string ⟨#[102]⟩, .string ⟨#[]⟩, .int .i64 0, .slice (some ⟨w.heap.size, 0, none⟩) 1 1, .slice (some ⟨w.heap.size + 1, 0, none⟩) 1 1] 24)).alloc (.cells #[.string ⟨#[98]⟩] 9)).alloc (.cells #[.string ⟨#[99]⟩] 9)).alloc (.cells #[.int .i64 6, .string ⟨#[102]⟩, .string ⟨#[]⟩, .int .i64 0, .slice (some ⟨w.heap.size + 1 + 1 + 1, 0, none⟩) 1 1, .slice (some ⟨w.heap.size + 1 + 1 + 1 + 1, 0, none⟩) 1 1] 24)) ∧ PrimAt ((((((w.alloc (.cells #[.string ⟨#[97]⟩] 9)).alloc (.cells #[.string ⟨#[98]⟩] 9)).alloc (.cells #[.int .i64 6, .string ⟨#[102]⟩, .string ⟨#[]⟩, .int .i64 0, .slice (some ⟨w.heap.size, 0, none⟩) 1 1, .slice (some ⟨w.heap.size + 1, 0, none⟩) 1 1] 24)).alloc (.cells #[.string ⟨#[98]⟩] 9)).alloc (.cells #[.string ⟨#[99]⟩] 9)).alloc (.cells #[.int .i64 6, .string ⟨#[102]⟩, .string ⟨#[]⟩, .int .i64 0, .slice (some ⟨w.heap.size + 1 + 1 + 1, 0, none⟩) 1 1, .slice (some ⟨w.heap.size + 1 + 1 + 1 + 1, 0, none⟩) 1 1] 24)) (w.heap.size + 1 + 1) (xP w.heap.size) ∧ PrimAt ((((((w.alloc (.cells #[.string ⟨#[97]⟩] 9)).alloc (.cells #[.string ⟨#[98]⟩] 9)).alloc (.cells #[.int .i64 6, .string ⟨#[102]⟩, .string ⟨#[]⟩, .int .i64 0, .slice (some ⟨w.heap.size, 0, none⟩) 1 1, .slice (some ⟨w.heap.size + 1, 0, none⟩) 1 1] 24)).alloc (.cells #[.string ⟨#[98]⟩] 9)).alloc (.cells #[.string ⟨#[99]⟩] 9)).alloc (.cells #[.int .i64 6, .string ⟨#[102]⟩, .string ⟨#[]⟩, .int .i64 0, .slice (some ⟨w.heap.size + 1 + 1 + 1, 0, none⟩) 1 1, .slice (some ⟨w.heap.size + 1 + 1 + 1 + 1, 0, none⟩) 1 1] 24)) (w.heap.size + 1 + 1 + 1 + 1 + 1) (xQ (w.heap.size + 1 + 1 + 1)) ∧ (xP w.heap.size).Ok ((((((w.alloc (.cells #[.string ⟨#[97]⟩] 9)).alloc (.cells #[.string ⟨#[98]⟩] 9)).alloc (.cells #[.int .i64 6, .string ⟨#[102]⟩, .string ⟨#[]⟩, .int .i64 0, .slice (some ⟨w.heap.size, 0, none⟩) 1 1, .slice (some ⟨w.heap.size + 1, 0, none⟩) 1 1] 24)).alloc (.cells #[.string ⟨#[98]⟩] 9)).alloc (.cells #[.string ⟨#[99]⟩] 9)).alloc (.cells #[.int .i64 6, .string ⟨#[102]⟩, .string ⟨#[]⟩, .int .i64 0, .slice (some ⟨w.heap.size + 1 + 1 + 1, 0, none⟩) 1 1, .slice (some ⟨w.heap.size + 1 + 1 + 1 + 1, 0, none⟩) 1 1] 24)) ((((((w.alloc (.cells #[.string ⟨#[97]⟩] 9)).alloc (.cells #[.string ⟨#[98]⟩] 9)).alloc (.cells #[.int .i64 6, .string ⟨#[102]⟩, .string ⟨#[]⟩, .int .i64 0, .slice (some ⟨w.heap.size, 0, none⟩) 1 1, .slice (some ⟨w.heap.size + 1, 0, none⟩) 1 1] 24)).alloc (.cells #[.string ⟨#[98]⟩] 9)).alloc (.cells #[.string ⟨#[99]⟩] 9)).alloc (.cells #[.int .i64 6, .string ⟨#[102]⟩, .string ⟨#[]⟩, .int .i64 0, .slice (some ⟨w.heap.size + 1 + 1 + 1, 0, none⟩) 1 1, .slice (some ⟨w.heap.size + 1 + 1 + 1 + 1, 0, none⟩) 1 1] 24)).heap.size ∧ (xQ (w.heap.size + 1 + 1 + 1)).Ok ((((((w.alloc (.cells #[.string ⟨#[97]⟩] 9)).alloc (.cells #[.string ⟨#[98]⟩] 9)).alloc (.cells #[.int .i64 6, .string ⟨#[102]⟩, .string ⟨#[]⟩, .int .i64 0, .slice (some ⟨w.heap.size, 0, none⟩) 1 1, .slice (some ⟨w.heap.size + 1, 0, none⟩) 1 1] 24)).alloc (.cells #[.string ⟨#[98]⟩] 9)).alloc (.cells #[.string ⟨#[99]⟩] 9)).alloc (.cells #[.int .i64 6, .string ⟨#[102]⟩, .string ⟨#[]⟩, .int .i64 0, .slice (some ⟨w.heap.size + 1 + 1 + 1, 0, none⟩) 1 1, .slice (some ⟨w.heap.size + 1 + 1 + 1 + 1, 0, none⟩) 1 1] 24)) ((((((w.alloc (.cells #[.string ⟨#[97]⟩] 9)).alloc (.cells #[.string ⟨#[98]⟩] 9)).alloc (.cells #[.int .i64 6, .string ⟨#[102]⟩, .string ⟨#[]⟩, .int .i64 0, .slice (some ⟨w.heap.size, 0, none⟩) 1 1, .slice (some ⟨w.heap.size + 1, 0, none⟩) 1 1] 24)).alloc (.cells #[.string ⟨#[98]⟩] 9)).alloc (.cells #[.string ⟨#[99]⟩] 9)).alloc (.cells #[.int .i64 6, .string ⟨#[102]⟩, .string ⟨#[]⟩, .int .i64 0, .slice (some ⟨w.heap.size + 1 + 1 + 1, 0, none⟩) 1 1, .slice (some ⟨w.heap.size + 1 + 1 + 1 + 1, 0, none⟩) 1 1] 24)).heap.size := by
  have s1 := strs_one w ⟨#[97]⟩
  have z1 : (w.alloc (.cells #[.string ⟨#[97]⟩] 9)).heap.size = w.heap.size + 1 := World.size_alloc _ _
  have b1 : Below w.heap.size w (w.alloc (.cells #[.string ⟨#[97]⟩] 9)) := (Below.refl _ _).alloc (Nat.le_refl _) _
  generalize (w.alloc (.cells #[.string ⟨#[97]⟩] 9)) = w1 at *
  have s2 := strs_one w1 ⟨#[98]⟩
  have z2 : (w1.alloc (.cells #[.string ⟨#[98]⟩] 9)).heap.size = w1.heap.size + 1 := World.size_alloc _ _
  have b2 : Below w1.heap.size w1 (w1.alloc (.cells #[.string ⟨#[98]⟩] 9)) := (Below.refl _ _).alloc (Nat.le_refl _) _
  generalize (w1.alloc (.cells #[.string ⟨#[98]⟩] 9)) = w2 at *
  have p3 := PrimAt.new_ w2 (xP w.heap.size)
  have z3 : (w2.alloc (.cells (xP w.heap.size).cells.toArray 24)).heap.size = w2.heap.size + 1 := World.size_alloc _ _
  have b3 : Below w2.heap.size w2 (w2.alloc (.cells (xP w.heap.size).cells.toArray 24)) := (Below.refl _ _).alloc (Nat.le_refl _) _
  have e3 : (w2.alloc (.cells #[.int .i64 6, .string ⟨#[102]⟩, .string ⟨#[]⟩, .int .i64 0, .slice (some ⟨w.heap.size, 0, none⟩) 1 1, .slice (some ⟨w.heap.size + 1, 0, none⟩) 1 1] 24)) = (w2.alloc (.cells (xP w.heap.size).cells.toArray 24)) := rfl
  rw [e3]
  generalize (w2.alloc (.cells (xP w.heap.size).cells.toArray 24)) = w3 at *
  have s4 := strs_one w3 ⟨#[98]⟩
  have z4 : (w3.alloc (.cells #[.string ⟨#[98]⟩] 9)).heap.size = w3.heap.size + 1 := World.size_alloc _ _
  have b4 : Below w3.heap.size w3 (w3.alloc (.cells #[.string ⟨#[98]⟩] 9)) := (Below.refl _ _).alloc (Nat.le_refl _) _
  generalize (w3.alloc (.cells #[.string ⟨#[98]⟩] 9)) = w4 at *
  have s5 := strs_one w4 ⟨#[99]⟩
  have z5 : (w4.alloc (.cells #[.string ⟨#[99]⟩] 9)).heap.size = w4.heap.size + 1 := World.size_alloc _ _
  have b5 : Below w4.heap.size w4 (w4.alloc (.cells #[.string ⟨#[99]⟩] 9)) := (Below.refl _ _).alloc (Nat.le_refl _) _
  generalize (w4.alloc (.cells #[.string ⟨#[99]⟩] 9)) = w5 at *
  have p6 := PrimAt.new_ w5 (xQ (w.heap.size + 1 + 1 + 1))
  have b6 : Below w5.heap.size w5 (w5.alloc (.cells (xQ (w.heap.size + 1 + 1 + 1)).cells.toArray 24)) := (Below.refl _ _).alloc (Nat.le_refl _) _
  have e6 : (w5.alloc (.cells #[.int .i64 6, .string ⟨#[102]⟩, .string ⟨#[]⟩, .int .i64 0, .slice (some ⟨w.heap.size + 1 + 1 + 1, 0, none⟩) 1 1, .slice (some ⟨w.heap.size + 1 + 1 + 1 + 1, 0, none⟩) 1 1] 24)) = (w5.alloc (.cells (xQ (w.heap.size + 1 + 1 + 1)).cells.toArray 24)) := rfl
  rw [e6]
  generalize (w5.alloc (.cells (xQ (w.heap.size + 1 + 1 + 1)).cells.toArray 24)) = w6 at *
  have q1 : w1.heap.size = w.heap.size + 1 := z1
  have q2 : w2.heap.size = w.heap.size + 1 + 1 := by rw [z2, q1]
  have q3 : w3.heap.size = w.heap.size + 1 + 1 + 1 := by rw [z3, q2]
  have q4 : w4.heap.size = w.heap.size + 1 + 1 + 1 + 1 := by rw [z4, q3]
  have q5 : w5.heap.size = w.heap.size + 1 + 1 + 1 + 1 + 1 := by rw [z5, q4]
  rw [q1] at s2
  rw [q2] at p3
  rw [q3] at s4
  rw [q4] at s5
  rw [q5] at p6
  have b56 := b5.trans (b6.mono b5.size)
  have b46 := b4.trans (b56.mono b4.size)
  have b36 := b3.trans (b46.mono b3.size)
  have b26 := b2.trans (b36.mono b2.size)
  have b16 := b1.trans (b26.mono b1.size)
  exact ⟨b16, p3.on b46, p6, ⟨⟨s1.on b26, s2.on b36, ⟨(fun e => by cases e), Nat.le_refl _⟩, ⟨(fun e => by cases e), Nat.le_refl _⟩, (show (-9223372036854775808 : Int) ≤ 0 by decide), (show (0 : Int) ≤ 9223372036854775807 by decide), (show (1 : Nat) ≤ 9223372036854775807 by decide), (show (1 : Nat) ≤ 9223372036854775807 by decide)⟩, (show ByteArray.size ⟨#[102]⟩ ≤ 9223372036854775807 by decide), (show ByteArray.size ⟨#[]⟩ ≤ 9223372036854775807 by decide), (show (-9223372036854775808 : Int) ≤ 6 by decide), (show (6 : Int) ≤ 9223372036854775807 by decide)⟩, ⟨⟨s4.on b56, s5.on b6, ⟨(fun e => by cases e), Nat.le_refl _⟩, ⟨(fun e => by cases e), Nat.le_refl _⟩, (show (-9223372036854775808 : Int) ≤ 0 by decide), (show (0 : Int) ≤ 9223372036854775807 by decide), (show (1 : Nat) ≤ 9223372036854775807 by decide), (show (1 : Nat) ≤ 9223372036854775807 by decide)⟩, (show ByteArray.size ⟨#[102]⟩ ≤ 9223372036854775807 by decide), (show ByteArray.size ⟨#[]⟩ ≤ 9223372036854775807 by decide), (show (-9223372036854775808 : Int) ≤ 6 by decide), (show (6 : Int) ≤ 9223372036854775807 by decide)⟩⟩

theorem row_four {w : World} {g : Nat} {y : Pm} (ox : (xP g).Ok w w.heap.size) (oy : y.Ok w w.heap.size) : Ps (w.alloc (.cells #[.int .i64 3, .string ⟨#[120]⟩, .string ⟨#[]⟩, .int .i64 0, .slice none 0 0, .slice none 0 0, .int .i64 6, .string ⟨#[102]⟩, .string ⟨#[]⟩, .int .i64 0, .slice (some ⟨g, 0, none⟩) 1 1, .slice (some ⟨g + 1, 0, none⟩) 1 1, .int .i64 y.kind, .string y.p, .string y.dst, .int .i64 y.at_, .slice y.a1 y.old.length y.c1, .slice y.a2 y.new.length y.c2, .int .i64 4, .string ⟨#[120]⟩, .string ⟨#[]⟩, .int .i64 0, .slice none 0 0, .slice none 0 0] 24)) (w.alloc (.cells #[.int .i64 3, .string ⟨#[120]⟩, .string ⟨#[]⟩, .int .i64 0, .slice none 0 0, .slice none 0 0, .int .i64 6, .string ⟨#[102]⟩, .string ⟨#[]⟩, .int .i64 0, .slice (some ⟨g, 0, none⟩) 1 1, .slice (some ⟨g + 1, 0, none⟩) 1 1, .int .i64 y.kind, .string y.p, .string y.dst, .int .i64 y.at_, .slice y.a1 y.old.length y.c1, .slice y.a2 y.new.length y.c2, .int .i64 4, .string ⟨#[120]⟩, .string ⟨#[]⟩, .int .i64 0, .slice none 0 0, .slice none 0 0] 24)).heap.size (some ⟨w.heap.size, 0, none⟩) [x3, xP g, y, x4] := by
  rw [World.size_alloc]
  exact ps_new (ps := [x3, xP g, y, x4]) fun z hz => by
    simp only [List.mem_cons, List.not_mem_nil, or_false] at hz
    rcases hz with rfl | rfl | rfl | rfl
    · exact (x34_ok w).1
    · exact ox
    · exact oy
    · exact (x34_ok w).2
theorem first_line {w : World} {A : Option Addr} {c : UInt8} (h : Strs w w.heap.size A (toBs [[c]])) : ∃ b off, A = some ⟨b, off, none⟩ ∧ w.cell? ⟨b, off, none⟩ = some (.string ⟨#[c]⟩) := by
  obtain ⟨b, off, e, _, hc⟩ := h (by simp [toBs])
  exact ⟨b, off, e, hc 0 (by simp [toBs])⟩

theorem p_six {w : World} {g : Nat} (h : PrimAt w (g + 1 + 1) (xP g)) : w.cell? ⟨g + 1 + 1, 0, none⟩ = some (.int .i64 6) ∧ w.cell? ⟨g + 1 + 1, 1, none⟩ = some (.string ⟨#[102]⟩) ∧ w.cell? ⟨g + 1 + 1, 2, none⟩ = some (.string ⟨#[]⟩) ∧ w.cell? ⟨g + 1 + 1, 3, none⟩ = some (.int .i64 0) ∧ w.cell? ⟨g + 1 + 1, 4, none⟩ = some (.slice (some ⟨g, 0, none⟩) 1 1) ∧ w.cell? ⟨g + 1 + 1, 5, none⟩ = some (.slice (some ⟨g + 1, 0, none⟩) 1 1) := ⟨h.c0, h.c1, h.c2, h.c3, h.c4, h.c5⟩
set_option maxHeartbeats 20000000 in
set_option maxRecDepth 100000 in
theorem fawake_any (w : World) (hT : Tabs w) : Calls Tryd.prog 6 #[] w fun e w' => e = .returned (.bool true) ∧ Below w.heap.size w w' := by
  obtain ⟨ha, hx, hy, ox, oy⟩ := aw9_made w
  have HA := Lib.hid ha
  have HX := Lib.hid hx
  have HY := Lib.hid hy
  have OX := Lib.hid ox
  have OY := Lib.hid oy
  have HT := Lib.hid (Tabs.on hT ha)
  clear ha hx hy ox oy hT
  have b0 := HX.out.c0
  have b1 := HX.out.c1
  have b2 := HX.out.c2
  have b3 := HX.out.c3
  have b4 := HX.out.c4
  have b5 := HX.out.c5
  have d0 := HY.out.c0
  have d1 := HY.out.c1
  have d2 := HY.out.c2
  have d3 := HY.out.c3
  have d4 := HY.out.c4
  have d5 := HY.out.c5
  go_enter Tryd.func6, Tryd.ntmps6
  go_wp2_with fail
  generalize ((((((w.alloc (.cells #[.string ⟨#[97]⟩] 9)).alloc (.cells #[.string ⟨#[98]⟩] 9)).alloc (.cells #[.int .i64 6, .string ⟨#[102]⟩, .string ⟨#[]⟩, .int .i64 0, .slice (some ⟨w.heap.size, 0, none⟩) 1 1, .slice (some ⟨w.heap.size + 1, 0, none⟩) 1 1] 24)).alloc (.cells #[.string ⟨#[98]⟩] 9)).alloc (.cells #[.string ⟨#[99]⟩] 9)).alloc (.cells #[.int .i64 6, .string ⟨#[102]⟩, .string ⟨#[]⟩, .int .i64 0, .slice (some ⟨w.heap.size + 1 + 1 + 1, 0, none⟩) 1 1, .slice (some ⟨w.heap.size + 1 + 1 + 1 + 1, 0, none⟩) 1 1] 24)) = wa at *
  refine (fHunks_any (xP w.heap.size) (xQ (w.heap.size + 1 + 1 + 1)) wa OX.out OY.out kP_fz.at kQ_fz.at HT.out).mono ?_
  rintro e w1 ⟨z, rfl, hz, hb⟩
  have hk : hunksP (xP w.heap.size).key (xQ (w.heap.size + 1 + 1 + 1)).key = some ⟨6, [102], [], 0, [[97]], [[99]]⟩ := kPQ
  have hz2 := hz.out.2
  rw [hk] at hz2
  rw [hk]
  have ho : z.old = [[97]] := congrArg Pk.old hz2
  have hn : z.new = [[99]] := congrArg Pk.new hz2
  have hal : Below w1.heap.size w1 (w1.alloc (.cells z.cells.toArray 24)) := (Below.refl _ _).alloc (Nat.le_refl _) _
  have hbl := hb.trans (hal.mono hb.size)
  have e1 : (w1.alloc (.cells z.cells.toArray 24)) = (w1.alloc (.cells #[.int .i64 z.kind, .string z.p, .string z.dst, .int .i64 z.at_, .slice z.a1 z.old.length z.c1, .slice z.a2 z.new.length z.c2] 24)) := rfl
  have HZ := Lib.hid (PrimAt.new_ w1 z)
  have OZ := Lib.hid (hz.out.1.1.on hal)
  rw [e1] at HZ OZ hbl
  have HO : Hid (z.old = [[97]] ∧ z.new = [[99]]) := ⟨ho, hn⟩
  replace HA := Lib.hid (HA.out.trans (hbl.mono HA.out.size))
  replace HX := Lib.hid (HX.out.on hbl)
  replace HY := Lib.hid (HY.out.on hbl)
  replace OX := Lib.hid (OX.out.on hbl)
  replace OY := Lib.hid (OY.out.on hbl)
  replace HT := Lib.hid (Tabs.on HT.out hbl)
  clear b0 b1 b2 b3 b4 b5 d0 d1 d2 d3 d4 d5 hz hk hz2 ho hn hal hb hbl e1
  go_wp2_with fail
  generalize (w1.alloc (.cells #[.int .i64 z.kind, .string z.p, .string z.dst, .int .i64 z.at_, .slice z.a1 z.old.length z.c1, .slice z.a2 z.new.length z.c2] 24)) = wb at *
  have HDR : Hid (Below wb.heap.size wb wb.drew) := (Below.refl _ _).drew
  refine wp_region_noPanic ?_
  refine wp_region_held_drew (S := (fun w' => w'.cell? ⟨w.heap.size + 1 + 1, 0, none⟩ = some (.int .i64 6) ∧ w'.cell? ⟨w.heap.size + 1 + 1, 1, none⟩ = some (.string ⟨#[102]⟩) ∧ w'.cell? ⟨w.heap.size + 1 + 1, 2, none⟩ = some (.string ⟨#[]⟩) ∧ w'.cell? ⟨w.heap.size + 1 + 1, 3, none⟩ = some (.int .i64 0) ∧ w'.cell? ⟨w.heap.size + 1 + 1, 4, none⟩ = some (.slice (some ⟨w.heap.size, 0, none⟩) 1 1) ∧ w'.cell? ⟨w.heap.size + 1 + 1, 5, none⟩ = some (.slice (some ⟨w.heap.size + 1, 0, none⟩) 1 1))) (by kernel_rfl) (p_six (HX.out.on (HDR.out))) (fun hHeld => ?_)
  refine wpAnyH_take (i := 0) (oi := { dst := some 18, op := _, type := _, pos := _, after := _, guard := _ }) (v := .agg #[.int .i64 3, .string ⟨#[120]⟩, .string ⟨#[]⟩, .int .i64 0, .slice none 0 0, .slice none 0 0]) rfl (by kernel_rfl) (by kernel_rfl) (by kernel_rfl) (fun _ _ _ h => h) (Or.inl ⟨by rfl, fun w' hSw => ?_⟩) (by assumption) ?_
  · ((try dsimp only at hSw); go_simp)
  try simp only [Act.put, List.setIfInBounds_toArray, List.set_cons_zero, List.set_cons_succ]
  refine wpAnyH_take (i := 1) (oi := { dst := some 19, op := _, type := _, pos := _, after := _, guard := _ }) (v := .agg #[.int .i64 6, .string ⟨#[102]⟩, .string ⟨#[]⟩, .int .i64 0, .slice (some ⟨w.heap.size, 0, none⟩) 1 1, .slice (some ⟨w.heap.size + 1, 0, none⟩) 1 1]) rfl (by kernel_rfl) (by kernel_rfl) (by kernel_rfl) (fun _ _ _ h => h) (Or.inl ⟨by rfl, fun w' hSw => ?_⟩) (by assumption) ?_
  · ((try dsimp only at hSw); go_simp)
  try simp only [Act.put, List.setIfInBounds_toArray, List.set_cons_zero, List.set_cons_succ]
  refine wpAnyH_take (i := 2) (oi := { dst := some 20, op := _, type := _, pos := _, after := _, guard := _ }) (v := .agg #[.int .i64 6, .string ⟨#[102]⟩, .string ⟨#[]⟩, .int .i64 0, .slice (some ⟨w.heap.size, 0, none⟩) 1 1, .slice (some ⟨w.heap.size + 1, 0, none⟩) 1 1]) rfl (by kernel_rfl) (by kernel_rfl) (by kernel_rfl) (fun _ _ _ h => h) (Or.inl ⟨by rfl, fun w' hSw => ?_⟩) (by assumption) ?_
  · ((try dsimp only at hSw); go_simp)
  try simp only [Act.put, List.setIfInBounds_toArray, List.set_cons_zero, List.set_cons_succ]
  refine wpAnyH_take (i := 4) (oi := { dst := some 22, op := _, type := _, pos := _, after := _, guard := _ }) (v := .agg #[.int .i64 4, .string ⟨#[120]⟩, .string ⟨#[]⟩, .int .i64 0, .slice none 0 0, .slice none 0 0]) rfl (by kernel_rfl) (by kernel_rfl) (by kernel_rfl) (fun _ _ _ h => h) (Or.inl ⟨by rfl, fun w' hSw => ?_⟩) (by assumption) ?_
  · ((try dsimp only at hSw); go_simp)
  try simp only [Act.put, List.setIfInBounds_toArray, List.set_cons_zero, List.set_cons_succ]
  refine wpAnyH_ready (rs := [3]) (by kernel_rfl) (by simp) ?_
  refine AllReadyH.cons rfl (fun K hK => ?_) AllReadyH.nil
  go_simp
  go_at_call 16
  refine (pinvert_any (xP w.heap.size) _ (OX.out.on HDR.out) (by show (1 : Nat) ≤ 1000000; decide) (by show (1 : Nat) ≤ 1000000; decide) kP_ck).mono ?_
  rintro e w7 ⟨y, rfl, hy, hb7⟩
  have X7 := Lib.hid (HDR.out.trans (hb7.mono HDR.out.size))
  refine hK.out _ _ (p_six (HX.out.on (X7.out))) (fun hHeld3 => ?_)
  clear hK K hHeld
  try simp only [Act.put, List.setIfInBounds_toArray, List.set_cons_zero, List.set_cons_succ]
  have b8 : Below w7.heap.size w7 (w7.alloc (.cells #[.int .i64 3, .string ⟨#[120]⟩, .string ⟨#[]⟩, .int .i64 0, .slice none 0 0, .slice none 0 0, .int .i64 6, .string ⟨#[102]⟩, .string ⟨#[]⟩, .int .i64 0, .slice (some ⟨w.heap.size, 0, none⟩) 1 1, .slice (some ⟨w.heap.size + 1, 0, none⟩) 1 1, .int .i64 y.kind, .string y.p, .string y.dst, .int .i64 y.at_, .slice y.a1 y.old.length y.c1, .slice y.a2 y.new.length y.c2, .int .i64 4, .string ⟨#[120]⟩, .string ⟨#[]⟩, .int .i64 0, .slice none 0 0, .slice none 0 0] 24)) := (Below.refl _ _).alloc (Nat.le_refl _) _
  have X8 := Lib.hid (X7.out.trans (b8.mono X7.out.size))
  have hp8 := row_four (OX.out.on X7.out) hy.out.1.1
  refine wpAnyH_ready (rs := [5]) (by kernel_rfl) (by simp) ?_
  refine AllReadyH.cons rfl (fun K hK => ?_) AllReadyH.nil
  go_simp
  refine hK.out _ _ (p_six (HX.out.on (X8.out))) (fun hHeld5 => ?_)
  clear hK K hHeld3
  try simp only [Act.put, List.setIfInBounds_toArray, List.set_cons_zero, List.set_cons_succ]
  refine wpAnyH_ready (rs := [6]) (by kernel_rfl) (by simp) ?_
  refine AllReadyH.cons rfl (fun K hK => ?_) AllReadyH.nil
  go_simp
  go_at_call 14
  refine (fall_any (some ⟨w7.heap.size, 0, none⟩) [x3, (xP w.heap.size), y, x4] 4 _ hp8 (fun v hv => by
    simp only [List.mem_cons, List.not_mem_nil, or_false] at hv
    rcases hv with rfl | rfl | rfl | rfl
    · exact kX3_fz
    · exact kP_fz
    · rw [hy.out.2]; exact kI_fz
    · exact kX4_fz) (by simp) (Tabs.on HT.out X8.out)).mono ?_
  rintro e w9 ⟨A9, n9, c9, qs, rfl, hq, hb9⟩
  have X9 := Lib.hid (X8.out.trans (hb9.mono X8.out.size))
  have hn9 : n9 = 0 := by
    obtain ⟨hq1, _, _, _, hq2⟩ := hq.out
    have e4 : pkeys [x3, (xP w.heap.size), y, x4] = [kX3, kP, invP kP, kX4] := by
      show [kX3, kP, y.key, kX4] = _
      rw [hy.out.2]
      rfl
    rw [e4, kAll] at hq2
    rw [hq1, ← pkeys_len, hq2]
    rfl
  subst hn9
  refine hK.out _ _ (p_six (HX.out.on (X9.out))) (fun hHeld6 => ?_)
  clear hK K hHeld5
  try simp only [Act.put, List.setIfInBounds_toArray, List.set_cons_zero, List.set_cons_succ]
  refine wpAnyH_take (i := 7) (oi := { dst := some 5, op := _, type := _, pos := _, after := _, guard := _ }) (v := .slice A9 0 c9) rfl (by kernel_rfl) (by kernel_rfl) (by kernel_rfl) (fun _ _ _ h => h) (Or.inl ⟨by rfl, fun w' hSw => ?_⟩) (by assumption) ?_
  · ((try dsimp only at hSw); go_simp)
  try simp only [Act.put, List.setIfInBounds_toArray, List.set_cons_zero, List.set_cons_succ]
  refine wpAnyH_done (by kernel_rfl) ?_ _
  refine NoPanic.normal ?_
  replace HA := Lib.hid (HA.out.trans (X9.out.mono HA.out.size))
  replace HX := Lib.hid (HX.out.on X9.out)
  replace HY := Lib.hid (HY.out.on X9.out)
  replace HZ := Lib.hid (HZ.out.on X9.out)
  replace OX := Lib.hid (OX.out.on X9.out)
  replace OY := Lib.hid (OY.out.on X9.out)
  replace OZ := Lib.hid (OZ.out.on X9.out)
  replace HT := Lib.hid (Tabs.on HT.out X9.out)
  have so : Strs w9 w9.heap.size z.a1 (toBs z.old) := OZ.out.h.old
  have sn : Strs w9 w9.heap.size z.a2 (toBs z.new) := OZ.out.h.new
  rw [HO.out.1] at so
  rw [HO.out.2] at sn
  have z4 := HZ.out.c4
  have z5 := HZ.out.c5
  obtain ⟨ob, oo, ea, oc⟩ := first_line so
  obtain ⟨nb, no, eb, nc⟩ := first_line sn
  rw [ea, HO.out.1] at z4
  rw [eb, HO.out.2] at z5
  simp only [List.length_singleton] at z4 z5
  replace oc : w9.cell? ⟨ob, oo, none⟩ = some (.string ⟨#[97]⟩) := oc
  replace nc : w9.cell? ⟨nb, no, none⟩ = some (.string ⟨#[99]⟩) := nc
  clear so sn ea eb X7 X8 X9 hHeld6 hq hy hp8 b8 hb9 hb7 HDR OZ HO HZ
  have b0 := HX.out.c0
  have b1 := HX.out.c1
  have b2 := HX.out.c2
  have b3 := HX.out.c3
  have b4 := HX.out.c4
  have b5 := HX.out.c5
  have d0 := HY.out.c0
  have d1 := HY.out.c1
  have d2 := HY.out.c2
  have d3 := HY.out.c3
  have d4 := HY.out.c4
  have d5 := HY.out.c5
  go_wp2_with fail
  refine (fTouch_any (xP w.heap.size) (xQ (w.heap.size + 1 + 1 + 1)) _ OX.out OY.out kP_fz.at kQ_fz.at HT.out true kPQ_touch).mono ?_
  rintro e w10 ⟨rfl, hb⟩
  replace HA := Lib.hid (HA.out.trans (hb.mono HA.out.size))
  clear b0 b1 b2 b3 b4 b5 d0 d1 d2 d3 d4 d5 hb OX OY HT HX HY oc nc z4 z5
  go_wp2
  go_ret
  exact ⟨rfl, HA.out⟩
end Go.Proofs.YtempamboacbgiaaDoor
namespace Go.Proofs.YtempamboacbgiaaDoor
open Go.RowKit
set_option linter.unusedVariables false

theorem light3_facts {ls : List (List UInt8)} (h : light3B (toBs ls) = true) : LightK ls := by
  refine ⟨by have := light3B_len h; rwa [toBs_len] at this, fun x hx => ?_⟩
  unfold light3B at h
  rw [Bool.and_eq_true, List.all_eq_true] at h
  have := h.1 (toB x) (List.mem_map.2 ⟨x, hx, rfl⟩)
  rw [decide_eq_true_eq, toB_size] at this
  exact this
def light7One (x : Pm) : Bool := decide (x.p.size ≤ 300) && decide (x.dst.size ≤ 300) && light3B (toBs x.old) && light3B (toBs x.new)
def light7B (l : List Pm) : Bool := l.all light7One && decide (l.length ≤ 40)
theorem light7_no {l : List Pm} {k : Nat} (hk : k < l.length) (h : light7One l[k] = false) : light7B l = false := by
  have : l.all light7One = false := by
    rw [List.all_eq_false]
    exact ⟨l[k], List.getElem_mem _, by rw [h]; simp⟩
  simp [light7B, this]
theorem light7_yes {l : List Pm} (h : ∀ j (hj : j < l.length), light7One l[j] = true) : light7B l = decide (l.length ≤ 40) := by
  have : l.all light7One = true := by
    rw [List.all_eq_true]
    intro s hs
    obtain ⟨j, hj, rfl⟩ := List.getElem_of_mem hs
    exact h j hj
  simp [light7B, this]
theorem light7_facts {l : List Pm} (h : light7B l = true) : l.length ≤ 40 ∧ ∀ x ∈ l, light7One x = true := by
  unfold light7B at h
  rw [Bool.and_eq_true, List.all_eq_true] at h
  exact ⟨by simpa using h.2, h.1⟩
theorem light7_light {x : Pm} (h : light7One x = true) : x.Light := by
  unfold light7One at h
  simp only [Bool.and_eq_true, decide_eq_true_eq] at h
  exact ⟨h.1.1.1, h.1.1.2, light3_facts h.1.2, light3_facts h.2⟩
set_option maxHeartbeats 4000000 in
set_option maxRecDepth 100000 in
theorem light7_any (A : Option Addr) (l : List Pm) (cap : Nat) (w : World) (hk : Ps w w.heap.size A l) (hn : l.length ≤ 9223372036854775807) :
    Calls Tryd.prog 15 #[.slice A l.length cap] w fun e w' => e = .returned (.bool (light7B l)) ∧ w = w' := by
  have HK := Lib.hid hk
  clear hk
  go_enter Tryd.func15, Tryd.ntmps15
  go_wp2
  go_loop [3] (fun i => ∃ k : Nat, k ≤ l.length ∧ i = .int .i64 (k : Int) ∧ Hid (∀ j (hj : j < l.length), j < k → light7One l[j] = true)) (fun i => l.length - (intOf i).toNat)
  case atStart => exact ⟨0, Nat.zero_le _, rfl, fun j _ h => absurd h (by omega)⟩
  case round =>
    obtain ⟨k, hk, rfl, hall⟩ := hrel
    by_cases hlt : k < l.length
    · obtain ⟨b, off, rfl, _, h1, h2, h3, h4, h5, h6⟩ := HK.out.get hlt
      have ok := HK.out.ok l[k] (List.getElem_mem _)
      have c1 := light3_any l[k].a1 (toBs l[k].old) l[k].c1 w ok.h.old (by rw [toBs_len]; exact ok.h.n1)
      have c2 := light3_any l[k].a2 (toBs l[k].new) l[k].c2 w ok.h.new (by rw [toBs_len]; exact ok.h.n2)
      rw [toBs_len] at c1 c2
      have hno := Lib.hid (light7_no hlt)
      have hyes : Hid (light7One l[k] = true → ∀ j (hj : j < l.length), j < k + 1 → light7One l[j] = true) := by
        intro h j hj hjk
        by_cases he : j = k
        · subst he; exact h
        · exact hall.out j hj (by omega)
      have hone : Hid (light7One l[k] = (decide (l[k].p.size ≤ 300) && decide (l[k].dst.size ≤ 300) && light3B (toBs l[k].old) && light3B (toBs l[k].new))) := rfl
      generalize light3B (toBs l[k].old) = d1 at *
      generalize light3B (toBs l[k].new) = d2 at *
      generalize l[k].p = p at *
      generalize l[k].dst = q at *
      have C1 := Lib.hid c1
      have C2 := Lib.hid c2
      clear c1 c2 ok hall
      generalize l[k].old.length = m1 at *
      generalize l[k].new.length = m2 at *
      by_cases hp : 300 < p.size
      · have hfin := Lib.hid (hno.out (by rw [hone.out, decide_eq_false (by omega)]; rfl))
        clear C1 C2
        clear hno hyes hone
        go_wp2
        go_ret
        rw [hfin.out]
        exact ⟨rfl, rfl⟩
      · have hp2 : p.size ≤ 300 := by omega
        by_cases hq : 300 < q.size
        · have hfin := Lib.hid (hno.out (by rw [hone.out, decide_eq_true hp2, decide_eq_false (by omega)]; rfl))
          clear C1 C2
          clear hno hyes hone
          go_wp2
          go_ret
          rw [hfin.out]
          exact ⟨rfl, rfl⟩
        · have hq2 : q.size ≤ 300 := by omega
          cases d1
          · have hfin := Lib.hid (hno.out (by rw [hone.out, Bool.and_false]; rfl))
            clear hno hyes hone C2
            go_wp2_with fail
            refine C1.out.mono ?_
            rintro e w' ⟨rfl, rfl⟩
            go_wp2
            go_ret
            rw [hfin.out]
            exact ⟨rfl, rfl⟩
          · cases d2
            · have hfin := Lib.hid (hno.out (by rw [hone.out, Bool.and_false]))
              clear hno hyes hone
              go_wp2_with fail
              refine C1.out.mono ?_
              rintro e w' ⟨rfl, rfl⟩
              go_wp2_with fail
              refine C2.out.mono ?_
              rintro e w' ⟨rfl, rfl⟩
              go_wp2
              go_ret
              rw [hfin.out]
              exact ⟨rfl, rfl⟩
            · have hnew := Lib.hid (hyes.out (by rw [hone.out, decide_eq_true hp2, decide_eq_true hq2]; rfl))
              clear hno hyes hone
              go_wp2_with fail
              refine C1.out.mono ?_
              rintro e w' ⟨rfl, rfl⟩
              go_wp2_with fail
              refine C2.out.mono ?_
              rintro e w' ⟨rfl, rfl⟩
              go_wp2
              go_round
              case rel => exact ⟨k + 1, by omega, by go_num, hnew⟩
              case measure => simp [intOf]; omega
    · have hk2 : k = l.length := by omega
      subst hk2
      have hy := Lib.hid (light7_yes (fun j hj => hall.out j hj hj))
      clear hall
      go_wp2
      go_ret
      rw [hy.out]
      exact ⟨by simp; omega, rfl⟩
end Go.Proofs.YtempamboacbgiaaDoor
namespace Go.Proofs.YtempamboacbgiaaDoor
open Go.RowKit
set_option linter.unusedVariables false

/-- A step that is not far too long. -/
structure LtK (k : Pk) : Prop where
  p : k.path.length ≤ 300
  q : k.dst.length ≤ 300
  old : LightK k.old
  new : LightK k.new
theorem LtK.zero : LtK zeroP := ⟨Nat.zero_le _, Nat.zero_le _, ⟨Nat.zero_le _, fun x h => by cases h⟩, ⟨Nat.zero_le _, fun x h => by cases h⟩⟩
theorem light_lt {x : Pm} (h : x.Light) : LtK x.key := ⟨h.p, h.q, h.old, h.new⟩
/-- A step in a block of its own, its lines below. -/
def HeldP (w : World) (g : Nat) (x : Pm) : Prop := PrimAt w g x ∧ x.Ok w w.heap.size
theorem HeldP.on {w w' : World} {g : Nat} {x : Pm} (h : HeldP w g x) (hb : Below w.heap.size w w') : HeldP w' g x := ⟨h.1.on hb, h.2.on hb⟩
theorem row_two {w : World} {x y : Pm} (ox : x.Ok w w.heap.size) (oy : y.Ok w w.heap.size) : Ps (w.alloc (.cells #[.int .i64 x.kind, .string x.p, .string x.dst, .int .i64 x.at_, .slice x.a1 x.old.length x.c1, .slice x.a2 x.new.length x.c2, .int .i64 y.kind, .string y.p, .string y.dst, .int .i64 y.at_, .slice y.a1 y.old.length y.c1, .slice y.a2 y.new.length y.c2] 24)) (w.alloc (.cells #[.int .i64 x.kind, .string x.p, .string x.dst, .int .i64 x.at_, .slice x.a1 x.old.length x.c1, .slice x.a2 x.new.length x.c2, .int .i64 y.kind, .string y.p, .string y.dst, .int .i64 y.at_, .slice y.a1 y.old.length y.c1, .slice y.a2 y.new.length y.c2] 24)).heap.size (some ⟨w.heap.size, 0, none⟩) [x, y] := by
  rw [World.size_alloc]
  exact ps_new (ps := [x, y]) fun z hz => by
    simp only [List.mem_cons, List.not_mem_nil, or_false] at hz
    rcases hz with rfl | rfl
    · exact ox
    · exact oy
end Go.Proofs.YtempamboacbgiaaDoor
namespace Go.Proofs.YtempamboacbgiaaDoor
open Go.RowKit
set_option linter.unusedVariables false

def light9B (l : List Pm) : Bool := l.all (fun x => decide (x.at_ ≤ 1099511627776)) && light7B l
theorem light9_no {l : List Pm} {k : Nat} (hk : k < l.length) (h : 1099511627776 < l[k].at_) : light9B l = false := by
  have : l.all (fun x => decide (x.at_ ≤ 1099511627776)) = false := by
    rw [List.all_eq_false]
    exact ⟨l[k], List.getElem_mem _, by simp; omega⟩
  simp [light9B, this]
theorem light9_yes {l : List Pm} (h : ∀ j (hj : j < l.length), l[j].at_ ≤ 1099511627776) : light9B l = light7B l := by
  have : l.all (fun x => decide (x.at_ ≤ 1099511627776)) = true := by
    rw [List.all_eq_true]
    intro s hs
    obtain ⟨j, hj, rfl⟩ := List.getElem_of_mem hs
    exact decide_eq_true (h j hj)
  simp [light9B, this]
theorem light9_facts {l : List Pm} (h : light9B l = true) : l.length ≤ 40 ∧ ∀ x ∈ l, LtK x.key ∧ x.at_ ≤ 1099511627776 := by
  unfold light9B at h
  rw [Bool.and_eq_true, List.all_eq_true] at h
  obtain ⟨h1, h2⟩ := light7_facts h.2
  exact ⟨h1, fun x hx => ⟨light_lt (light7_light (h2 x hx)), of_decide_eq_true (h.1 x hx)⟩⟩
theorem LtK.fz {k : Pk} (h : LtK k) (h2 : k.at_ ≤ 1099511627776) : FzK k := ⟨h.p, h.q, h.old.mid, h.new.mid, h2⟩
set_option maxHeartbeats 4000000 in
set_option maxRecDepth 100000 in
theorem light9_any (A : Option Addr) (l : List Pm) (cap : Nat) (w : World) (hk : Ps w w.heap.size A l) (hn : l.length ≤ 9223372036854775807) :
    Calls Tryd.prog 5 #[.slice A l.length cap] w fun e w' => e = .returned (.bool (light9B l)) ∧ w = w' := by
  have HK := Lib.hid hk
  have C7 := Lib.hid (light7_any A l cap w hk hn)
  clear hk
  go_enter Tryd.func5, Tryd.ntmps5
  go_wp2
  go_loop [3] (fun i => ∃ k : Nat, k ≤ l.length ∧ i = .int .i64 (k : Int) ∧ Hid (∀ j (hj : j < l.length), j < k → l[j].at_ ≤ 1099511627776)) (fun i => l.length - (intOf i).toNat)
  case atStart => exact ⟨0, Nat.zero_le _, rfl, fun j _ h => absurd h (by omega)⟩
  case round =>
    obtain ⟨k, hk, rfl, hall⟩ := hrel
    by_cases hlt : k < l.length
    · obtain ⟨b, off, rfl, _, h1, h2, h3, h4, h5, h6⟩ := HK.out.get hlt
      have hno := Lib.hid (light9_no hlt)
      have hyes : Hid (l[k].at_ ≤ 1099511627776 → ∀ j (hj : j < l.length), j < k + 1 → l[j].at_ ≤ 1099511627776) := by
        intro h j hj hjk
        by_cases he : j = k
        · subst he; exact h
        · exact hall.out j hj (by omega)
      clear hall h1 h2 h3 h5 h6 C7
      generalize l[k].at_ = x at *
      by_cases hp : 1099511627776 < x
      · have hfin := Lib.hid (hno.out hp)
        clear hno hyes
        go_wp2
        go_ret
        rw [hfin.out]
        exact ⟨rfl, rfl⟩
      · have hnew := Lib.hid (hyes.out (by omega))
        clear hno hyes
        go_wp2
        go_round
        case rel => exact ⟨k + 1, by omega, by go_num, hnew⟩
        case measure => simp [intOf]; omega
    · have hk2 : k = l.length := by omega
      subst hk2
      have hy := Lib.hid (light9_yes (fun j hj => hall.out j hj hj))
      clear hall
      go_wp2_with fail
      refine C7.out.mono ?_
      rintro e w' ⟨rfl, rfl⟩
      go_wp2
      go_ret
      rw [hy.out]
      exact ⟨rfl, rfl⟩
end Go.Proofs.YtempamboacbgiaaDoor
