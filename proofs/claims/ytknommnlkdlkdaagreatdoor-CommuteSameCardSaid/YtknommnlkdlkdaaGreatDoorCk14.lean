/- Package prim's Check. Package commute's wrong, shift. -/
import Derived.Test.YtknommnlkdlkdaaGreatDoorCk12
import Derived.Test.YtknommnlkdlkdaaGreatDoorCk13
import Derived.Test.YtknommnlkdlkdaaGreatDoorCk08
import Derived.WalkKit
namespace Go.Proofs.YtknommnlkdlkdaaGreatDoor
open Go.RowKit
set_option linter.unusedVariables false

theorem ckP_by (x : Pm) : ckP x.key = if formB x.kind x.dst x.at_ x.old.length x.new.length = false then 2 else if placeB x.kind x.p x.dst = false then 8 else if x.kind = 6 ∧ linedB x.at_ x.old x.new = false then 6 else 0 := by
  have hd : x.dst.data.toList = [] ↔ x.dst = ⟨#[]⟩ := ⟨fun e => by rw [← toB_of x.dst, e]; rfl, fun e => by rw [e]⟩
  have hpq : x.p.data.toList = x.dst.data.toList ↔ x.p = x.dst := ⟨bytes_inj, fun e => by rw [e]⟩
  have f1 : (x.kind < 1 ∨ 6 < x.kind ∨ (x.kind ≠ 5 ∧ x.dst.data.toList ≠ []) ∨ (x.kind ≠ 6 ∧ (x.at_ ≠ 0 ∨ 0 < x.old.length + x.new.length))) ↔ formB x.kind x.dst x.at_ x.old.length x.new.length = false := by
    unfold formB
    rw [decide_eq_false_iff_not]
    constructor
    · rintro (h | h | ⟨h, h'⟩ | ⟨h, h'⟩) ⟨⟨k1, k6⟩, h5, h6⟩
      · omega
      · omega
      · exact h' (hd.2 (h5 h))
      · have := h6 h; omega
    · intro h
      by_cases c1 : x.kind < 1
      · exact .inl c1
      by_cases c2 : 6 < x.kind
      · exact .inr (.inl c2)
      by_cases c3 : x.kind ≠ 5 ∧ x.dst.data.toList ≠ []
      · exact .inr (.inr (.inl c3))
      refine .inr (.inr (.inr ?_))
      refine Classical.byContradiction fun c4 => h ⟨⟨by omega, by omega⟩, fun e => hd.1 (Classical.byContradiction fun g => c3 ⟨e, g⟩), fun e => ?_⟩
      have : ¬ (x.at_ ≠ 0 ∨ 0 < x.old.length + x.new.length) := fun g => c4 ⟨e, g⟩
      omega
  have f2 : (names nameP x.p.data.toList = [] ∨ (x.kind = 5 ∧ (names nameP x.dst.data.toList = [] ∨ x.p.data.toList = x.dst.data.toList))) ↔ placeB x.kind x.p x.dst = false := by
    unfold placeB
    rw [decide_eq_false_iff_not]
    constructor
    · rintro (h | ⟨h, h' | h'⟩) ⟨g1, g2⟩
      · exact g1 h
      · exact (g2 h).1 h'
      · exact (g2 h).2 (hpq.1 h')
    · intro h
      by_cases c1 : names nameP x.p.data.toList = []
      · exact .inl c1
      refine .inr (Classical.byContradiction fun c2 => h ⟨c1, fun e => ⟨fun g => c2 ⟨e, .inl g⟩, fun g => c2 ⟨e, .inr (hpq.2 g)⟩⟩⟩)
  have f3 : (x.kind = 6 ∧ (x.at_ < 0 ∨ x.old.length + x.new.length = 0 ∨ checkN (toBs x.old) ≠ 0 ∨ checkN (toBs x.new) ≠ 0)) ↔ (x.kind = 6 ∧ linedB x.at_ x.old x.new = false) := by
    refine and_congr Iff.rfl ?_
    unfold linedB
    rw [decide_eq_false_iff_not]
    constructor
    · rintro (h | h | h | h) ⟨g1, g2, g3, g4⟩
      · omega
      · exact g2 ⟨by omega, by omega⟩
      · exact h g3
      · exact h g4
    · intro h
      by_cases c1 : x.at_ < 0
      · exact .inl c1
      by_cases c2 : x.old.length + x.new.length = 0
      · exact .inr (.inl c2)
      by_cases c3 : checkN (toBs x.old) ≠ 0
      · exact .inr (.inr (.inl c3))
      refine .inr (.inr (.inr fun c4 => h ⟨by omega, fun e => c2 (by omega), Classical.not_not.1 c3, c4⟩))
  unfold ckP
  exact ite_congr (propext f1) (fun _ => rfl) (fun _ => ite_congr (propext f2) (fun _ => rfl) (fun _ => ite_congr (propext f3) (fun _ => rfl) fun _ => rfl))
set_option maxHeartbeats 20000000 in
set_option maxRecDepth 100000 in
theorem pcheck_any (x : Pm) (w : World) (ok : x.Ok w w.heap.size) (hp : x.p.size ≤ 1000000) (hq : x.dst.size ≤ 1000000) (m1 : x.old.length ≤ 100000) (m2 : x.new.length ≤ 100000) (z1 : ∀ l ∈ x.old, l.length ≤ 100000) (z2 : ∀ l ∈ x.new, l.length ≤ 100000) (hT : Tabs w) :
    Calls Tryz.prog 27 #[x.val] w fun e w' => e = .returned (.int .i64 (ckP x.key)) ∧ Below w.heap.size w w' := by
  rw [ckP_by]
  obtain ⟨kind, p, q, at_, a1, c1, old, a2, c2, new⟩ := x
  unfold Pm.val
  simp only [] at hp hq m1 m2 z1 z2 ⊢
  have hal : Below w.heap.size w (w.alloc (.cells #[.int .i64 kind, .string p, .string q, .int .i64 at_, .slice a1 old.length c1, .slice a2 new.length c2] 25)) := (Below.refl _ _).alloc (Nat.le_refl _) _
  have HP : Hid (PAt (w.alloc (.cells #[.int .i64 kind, .string p, .string q, .int .i64 at_, .slice a1 old.length c1, .slice a2 new.length c2] 25)) w.heap.size kind p q at_ a1 old.length c1 a2 new.length c2) := PAt.new_ w kind p q at_ a1 old.length c1 a2 new.length c2
  have HA := Lib.hid hal
  clear hal
  have b0 := HP.out.k0
  have b1 := HP.out.k1
  have b2 := HP.out.k2
  have b3 := HP.out.k3
  have b4 := HP.out.k4
  have b5 := HP.out.k5
  have HO := Lib.hid (ok.on HA.out)
  have HT := Lib.hid (Tabs.on hT HA.out)
  have CF := Lib.hid (fun b hb W => formed_any kind p q at_ a1 old.length c1 a2 new.length c2 W b hb)
  have CP := Lib.hid (fun b hb W => placed_any kind p q at_ a1 old.length c1 a2 new.length c2 W hp hq b hb)
  have CL := Lib.hid (fun b hr W (hb : Below (w.alloc (.cells #[.int .i64 kind, .string p, .string q, .int .i64 at_, .slice a1 old.length c1, .slice a2 new.length c2] 25)).heap.size (w.alloc (.cells #[.int .i64 kind, .string p, .string q, .int .i64 at_, .slice a1 old.length c1, .slice a2 new.length c2] 25)) W) => lined_any kind p q at_ a1 c1 old a2 c2 new W (HO.out.h.on hb) m1 m2 z1 z2 (Tabs.on HT.out hb) b hr)
  clear ok hT z1 z2 hp hq
  cases hf : formB kind q at_ old.length new.length
  · have C1 := Lib.hid (CF.out _ hf)
    clear CF CP CL hf
    rw [if_pos rfl]
    go_enter Tryz.func27, Tryz.ntmps27
    go_wp2_with fail
    refine (C1.out _).mono ?_
    rintro e w1 ⟨rfl, hb⟩
    have HB1 := Lib.hid hb
    clear hb b0 b1 b2 b3 b4 b5
    have b0 := (HP.out.on HB1.out).k0
    have b1 := (HP.out.on HB1.out).k1
    have b2 := (HP.out.on HB1.out).k2
    have b3 := (HP.out.on HB1.out).k3
    have b4 := (HP.out.on HB1.out).k4
    have b5 := (HP.out.on HB1.out).k5
    go_wp2
    go_ret
    exact ⟨rfl, HA.out.trans (HB1.out.mono HA.out.size)⟩
  · have C1 := Lib.hid (CF.out _ hf)
    rw [if_neg (by simp)]
    cases hpl : placeB kind p q
    · have C2 := Lib.hid (CP.out _ hpl)
      clear CF CP CL hf hpl
      rw [if_pos rfl]
      go_enter Tryz.func27, Tryz.ntmps27
      go_wp2_with fail
      refine (C1.out _).mono ?_
      rintro e w1 ⟨rfl, hb⟩
      have HB1 := Lib.hid hb
      clear hb b0 b1 b2 b3 b4 b5
      have b0 := (HP.out.on HB1.out).k0
      have b1 := (HP.out.on HB1.out).k1
      have b2 := (HP.out.on HB1.out).k2
      have b3 := (HP.out.on HB1.out).k3
      have b4 := (HP.out.on HB1.out).k4
      have b5 := (HP.out.on HB1.out).k5
      go_wp2_with fail
      refine (C2.out _).mono ?_
      rintro e w2 ⟨rfl, hb⟩
      have HB2 := Lib.hid ((HB1.out).trans (hb.mono (HB1.out).size))
      clear hb b0 b1 b2 b3 b4 b5
      have b0 := (HP.out.on HB2.out).k0
      have b1 := (HP.out.on HB2.out).k1
      have b2 := (HP.out.on HB2.out).k2
      have b3 := (HP.out.on HB2.out).k3
      have b4 := (HP.out.on HB2.out).k4
      have b5 := (HP.out.on HB2.out).k5
      go_wp2
      go_ret
      exact ⟨rfl, HA.out.trans (HB2.out.mono HA.out.size)⟩
    · have C2 := Lib.hid (CP.out _ hpl)
      clear CF CP hf hpl
      rw [if_neg (by simp)]
      by_cases hk : kind = 6
      · subst hk
        cases hl : linedB at_ old new
        · have C3 := Lib.hid (CL.out _ hl)
          clear CL hl
          rw [if_pos ⟨rfl, rfl⟩]
          go_enter Tryz.func27, Tryz.ntmps27
          go_wp2_with fail
          refine (C1.out _).mono ?_
          rintro e w1 ⟨rfl, hb⟩
          have HB1 := Lib.hid hb
          clear hb b0 b1 b2 b3 b4 b5
          have b0 := (HP.out.on HB1.out).k0
          have b1 := (HP.out.on HB1.out).k1
          have b2 := (HP.out.on HB1.out).k2
          have b3 := (HP.out.on HB1.out).k3
          have b4 := (HP.out.on HB1.out).k4
          have b5 := (HP.out.on HB1.out).k5
          go_wp2_with fail
          refine (C2.out _).mono ?_
          rintro e w2 ⟨rfl, hb⟩
          have HB2 := Lib.hid ((HB1.out).trans (hb.mono (HB1.out).size))
          clear hb b0 b1 b2 b3 b4 b5
          have b0 := (HP.out.on HB2.out).k0
          have b1 := (HP.out.on HB2.out).k1
          have b2 := (HP.out.on HB2.out).k2
          have b3 := (HP.out.on HB2.out).k3
          have b4 := (HP.out.on HB2.out).k4
          have b5 := (HP.out.on HB2.out).k5
          go_wp2_with fail
          refine (C3.out _ HB2.out).mono ?_
          rintro e w3 ⟨rfl, hb⟩
          have HB3 := Lib.hid ((HB2.out).trans (hb.mono (HB2.out).size))
          clear hb b0 b1 b2 b3 b4 b5
          have b0 := (HP.out.on HB3.out).k0
          have b1 := (HP.out.on HB3.out).k1
          have b2 := (HP.out.on HB3.out).k2
          have b3 := (HP.out.on HB3.out).k3
          have b4 := (HP.out.on HB3.out).k4
          have b5 := (HP.out.on HB3.out).k5
          go_wp2
          go_ret
          exact ⟨rfl, HA.out.trans (HB3.out.mono HA.out.size)⟩
        · have C3 := Lib.hid (CL.out _ hl)
          clear CL hl
          rw [if_neg (by simp)]
          go_enter Tryz.func27, Tryz.ntmps27
          go_wp2_with fail
          refine (C1.out _).mono ?_
          rintro e w1 ⟨rfl, hb⟩
          have HB1 := Lib.hid hb
          clear hb b0 b1 b2 b3 b4 b5
          have b0 := (HP.out.on HB1.out).k0
          have b1 := (HP.out.on HB1.out).k1
          have b2 := (HP.out.on HB1.out).k2
          have b3 := (HP.out.on HB1.out).k3
          have b4 := (HP.out.on HB1.out).k4
          have b5 := (HP.out.on HB1.out).k5
          go_wp2_with fail
          refine (C2.out _).mono ?_
          rintro e w2 ⟨rfl, hb⟩
          have HB2 := Lib.hid ((HB1.out).trans (hb.mono (HB1.out).size))
          clear hb b0 b1 b2 b3 b4 b5
          have b0 := (HP.out.on HB2.out).k0
          have b1 := (HP.out.on HB2.out).k1
          have b2 := (HP.out.on HB2.out).k2
          have b3 := (HP.out.on HB2.out).k3
          have b4 := (HP.out.on HB2.out).k4
          have b5 := (HP.out.on HB2.out).k5
          go_wp2_with fail
          refine (C3.out _ HB2.out).mono ?_
          rintro e w3 ⟨rfl, hb⟩
          have HB3 := Lib.hid ((HB2.out).trans (hb.mono (HB2.out).size))
          clear hb b0 b1 b2 b3 b4 b5
          have b0 := (HP.out.on HB3.out).k0
          have b1 := (HP.out.on HB3.out).k1
          have b2 := (HP.out.on HB3.out).k2
          have b3 := (HP.out.on HB3.out).k3
          have b4 := (HP.out.on HB3.out).k4
          have b5 := (HP.out.on HB3.out).k5
          go_wp2
          go_ret
          exact ⟨rfl, HA.out.trans (HB3.out.mono HA.out.size)⟩
      · have hk2 : (kind == 6) = false := by simpa using hk
        rw [if_neg (fun h => hk h.1)]
        clear CL hk
        go_enter Tryz.func27, Tryz.ntmps27
        go_wp2_with fail
        refine (C1.out _).mono ?_
        rintro e w1 ⟨rfl, hb⟩
        have HB1 := Lib.hid hb
        clear hb b0 b1 b2 b3 b4 b5
        have b0 := (HP.out.on HB1.out).k0
        have b1 := (HP.out.on HB1.out).k1
        have b2 := (HP.out.on HB1.out).k2
        have b3 := (HP.out.on HB1.out).k3
        have b4 := (HP.out.on HB1.out).k4
        have b5 := (HP.out.on HB1.out).k5
        go_wp2_with fail
        refine (C2.out _).mono ?_
        rintro e w2 ⟨rfl, hb⟩
        have HB2 := Lib.hid ((HB1.out).trans (hb.mono (HB1.out).size))
        clear hb b0 b1 b2 b3 b4 b5
        have b0 := (HP.out.on HB2.out).k0
        have b1 := (HP.out.on HB2.out).k1
        have b2 := (HP.out.on HB2.out).k2
        have b3 := (HP.out.on HB2.out).k3
        have b4 := (HP.out.on HB2.out).k4
        have b5 := (HP.out.on HB2.out).k5
        go_wp2
        go_ret
        exact ⟨rfl, HA.out.trans (HB2.out.mono HA.out.size)⟩
end Go.Proofs.YtknommnlkdlkdaaGreatDoor
namespace Go.Proofs.YtknommnlkdlkdaaGreatDoor
open Go.RowKit
set_option linter.unusedVariables false

theorem or_err (b : Nat) (x y z : Int) (w : World) (h0 : w.cell? ⟨b, 0, none⟩ = some (.int .i64 x)) (h1 : w.cell? ⟨b, 1, none⟩ = some (.int .i64 y)) (hz : z = if x = 0 then y else x) :
    Calls Tryz.prog 40 #[.slice (some ⟨b, 0, none⟩) 2 2] w fun e w' => e = .returned (.int .i64 z) ∧ w' = w := by
  go_enter Tryz.func40, Tryz.ntmps40
  go_wp2
  go_loopw [8] (fun i wr => ∃ k : Nat, k ≤ 2 ∧ i = .int .i64 (k : Int) ∧ Hid ((1 ≤ k → x = 0) ∧ (2 ≤ k → y = 0)) ∧ wr = w) (fun i _ => 2 - (intOf i).toNat)
  case atStart => exact ⟨0, by omega, rfl, ⟨fun h => by omega, fun h => by omega⟩, rfl⟩
  case round =>
    obtain ⟨k, hk, rfl, hxy, rfl⟩ := hrel
    have hk3 : k = 0 ∨ k = 1 ∨ k = 2 := by omega
    rcases hk3 with rfl | rfl | rfl
    · by_cases hx : x = 0
      · subst hx
        clear hz h1 hxy
        go_wp2
        go_roundw
        case rel => exact ⟨1, by omega, by go_num, ⟨fun _ => by first | rfl | trivial, fun h => by omega⟩, by first | rfl | trivial⟩
        case measure => simp [intOf] <;> omega
      · have e : z = x := by rw [hz, if_neg hx]
        subst e
        have hb : (z == 0) = false := by simpa using hx
        have hb2 : (z != 0) = true := by simpa using hx
        clear hz h1 hxy
        go_wp2
        go_ret
        exact ⟨rfl, rfl⟩
    · have hx := hxy.out.1 (by omega)
      have e : z = y := by rw [hz, if_pos hx]
      subst e
      by_cases hy : z = 0
      · subst hy
        clear hz h0 hxy
        go_wp2
        go_roundw
        case rel => exact ⟨2, by omega, by go_num, ⟨fun _ => hx, fun h => by first | rfl | trivial⟩, by first | rfl | trivial⟩
        case measure => simp [intOf] <;> omega
      · have hb : (z == 0) = false := by simpa using hy
        have hb2 : (z != 0) = true := by simpa using hy
        clear hz h0 hxy
        go_wp2
        go_ret
        exact ⟨rfl, rfl⟩
    · have hx := hxy.out.1 (by omega)
      have hy := hxy.out.2 (by omega)
      have e : z = 0 := by rw [hz, if_pos hx, hy]
      subst e
      clear hz h0 h1 hxy
      go_wp2
      go_ret
      exact ⟨rfl, rfl⟩
/-- A step of which no machine has too much. -/
structure WdK (k : Pk) : Prop where
  p : k.path.length ≤ 1000000
  q : k.dst.length ≤ 1000000
  old : WideK k.old
  new : WideK k.new
theorem WdK.zero : WdK zeroP := ⟨Nat.zero_le _, Nat.zero_le _, ⟨Nat.zero_le _, fun x h => by cases h⟩, ⟨Nat.zero_le _, fun x h => by cases h⟩⟩
theorem check_w {x : Pm} {w : World} (ok : x.Ok w w.heap.size) (h : WdK x.key) (hT : Tabs w) : Calls Tryz.prog 27 #[x.val] w fun e w' => e = .returned (.int .i64 (ckP x.key)) ∧ Below w.heap.size w w' :=
  pcheck_any x w ok h.p h.q h.old.1 h.new.1 h.old.2 h.new.2 hT
/-- The error of the first of both steps that may not be. -/
def wrongP (p q : Pk) : Int := if ckP p = 0 then ckP q else ckP p

set_option maxHeartbeats 8000000 in
set_option maxRecDepth 100000 in
theorem cwrong_any (x y : Pm) (w : World) (ox : x.Ok w w.heap.size) (oy : y.Ok w w.heap.size) (hx : WdK x.key) (hy : WdK y.key) (hT : Tabs w) (r : Int) (hr : wrongP x.key y.key = r) :
    Calls Tryz.prog 21 #[x.val, y.val] w fun e w' => e = .returned (.int .i64 r) ∧ Below w.heap.size w w' := by
  have C1 := Lib.hid (fun W (hb : Below w.heap.size w W) => check_w (ox.on hb) hx (Tabs.on hT hb))
  have C2 := Lib.hid (fun W (hb : Below w.heap.size w W) => check_w (oy.on hb) hy (Tabs.on hT hb))
  have HR : Hid (r = if ckP x.key = 0 then ckP y.key else ckP x.key) := hr.symm
  clear hr ox oy hx hy hT
  generalize ckP x.key = n1 at *
  generalize ckP y.key = n2 at *
  obtain ⟨kind, p, q, at_, a1, c1, old, a2, c2, new⟩ := x
  obtain ⟨kind2, p2, q2, at2, a3, c3, old2, a4, c4, new2⟩ := y
  unfold Pm.val at C1 C2 ⊢
  simp only [] at C1 C2 ⊢
  obtain ⟨hal, hx, hy⟩ := box2 w ⟨kind, p, q, at_, a1, c1, old, a2, c2, new⟩ ⟨kind2, p2, q2, at2, a3, c3, old2, a4, c4, new2⟩
  have e0 : ((w.alloc (.cells (Pm.cells ⟨kind, p, q, at_, a1, c1, old, a2, c2, new⟩).toArray 25)).alloc (.cells (Pm.cells ⟨kind2, p2, q2, at2, a3, c3, old2, a4, c4, new2⟩).toArray 25)) = ((w.alloc (.cells #[.int .i64 kind, .string p, .string q, .int .i64 at_, .slice a1 old.length c1, .slice a2 new.length c2] 25)).alloc (.cells #[.int .i64 kind2, .string p2, .string q2, .int .i64 at2, .slice a3 old2.length c3, .slice a4 new2.length c4] 25)) := rfl
  rw [e0] at hal hx hy
  have HX := Lib.hid hx
  have HY := Lib.hid hy
  have HA := Lib.hid hal
  clear hal hx hy e0
  go_enter Tryz.func21, Tryz.ntmps21
  go_wp2_with fail
  generalize ((w.alloc (.cells #[.int .i64 kind, .string p, .string q, .int .i64 at_, .slice a1 old.length c1, .slice a2 new.length c2] 25)).alloc (.cells #[.int .i64 kind2, .string p2, .string q2, .int .i64 at2, .slice a3 old2.length c3, .slice a4 new2.length c4] 25)) = wa at *
  have HDR : Hid (Below wa.heap.size wa wa.drew) := (Below.refl _ _).drew
  have S0 := Lib.hid (six_six (HX.out.on HDR.out) (HY.out.on HDR.out))
  go_region_held3 (fun w' => w'.cell? ⟨w.heap.size, 0, none⟩ = some (.int .i64 kind) ∧ w'.cell? ⟨w.heap.size, 1, none⟩ = some (.string p) ∧ w'.cell? ⟨w.heap.size, 2, none⟩ = some (.string q) ∧ w'.cell? ⟨w.heap.size, 3, none⟩ = some (.int .i64 at_) ∧ w'.cell? ⟨w.heap.size, 4, none⟩ = some (.slice a1 old.length c1) ∧ w'.cell? ⟨w.heap.size, 5, none⟩ = some (.slice a2 new.length c2) ∧ w'.cell? ⟨w.heap.size + 1, 0, none⟩ = some (.int .i64 kind2) ∧ w'.cell? ⟨w.heap.size + 1, 1, none⟩ = some (.string p2) ∧ w'.cell? ⟨w.heap.size + 1, 2, none⟩ = some (.string q2) ∧ w'.cell? ⟨w.heap.size + 1, 3, none⟩ = some (.int .i64 at2) ∧ w'.cell? ⟨w.heap.size + 1, 4, none⟩ = some (.slice a3 old2.length c3) ∧ w'.cell? ⟨w.heap.size + 1, 5, none⟩ = some (.slice a4 new2.length c4)) (first
    | with_reducible exact S0.out
    | with_reducible exact S7.out
    | with_reducible exact S8.out
    | with_reducible exact S9.out _
    | (go_keep; done)) (first
    | (go_at_call 27; with_reducible refine (C1.out _ (HA.out.trans (HDR.out.mono HA.out.size))).mono ?_; rintro e w7 ⟨rfl, hb7⟩
       have X7 := Lib.hid (HDR.out.trans (hb7.mono HDR.out.size))
       have S7 := Lib.hid (six_six (HX.out.on X7.out) (HY.out.on X7.out)))
    | (go_at_call 27; with_reducible refine (C2.out _ (HA.out.trans (X7.out.mono HA.out.size))).mono ?_; rintro e w8 ⟨rfl, hb8⟩
       have X8 := Lib.hid (X7.out.trans (hb8.mono X7.out.size))
       have S8 := Lib.hid (six_six (HX.out.on X8.out) (HY.out.on X8.out))
       have S9 := Lib.hid (fun o => six_six (HX.out.on (X8.out.alloc X8.out.size o)) (HY.out.on (X8.out.alloc X8.out.size o))))
    | (go_at_call 40; refine (or_err w8.heap.size n1 n2 r (w8.alloc (.cells #[.int .i64 n1, .int .i64 n2] 32)) (World.cell?_alloc_new w8 #[.int .i64 n1, .int .i64 n2] 32 0) (World.cell?_alloc_new w8 #[.int .i64 n1, .int .i64 n2] 32 1) HR.out).mono ?_; rintro e w9 ⟨rfl, rfl⟩))
  have X9 := Lib.hid (HA.out.trans ((X8.out.alloc X8.out.size (.cells #[.int .i64 n1, .int .i64 n2] 32)).mono HA.out.size))
  clear S0 S7 S8 S9 hb7 hb8
  go_wp2
  go_ret
  exact ⟨rfl, X9.out⟩

/-- Two steps come back, and a third result. -/
def TwoLeft (w : World) (k1 k2 : Pk) (v : Value) (e : Ending) (w' : World) : Prop :=
  ∃ y z : Pm, e = .returned (.tuple #[.agg #[.int .i64 y.kind, .string y.p, .string y.dst, .int .i64 y.at_, .slice y.a1 y.old.length y.c1, .slice y.a2 y.new.length y.c2], .agg #[.int .i64 z.kind, .string z.p, .string z.dst, .int .i64 z.at_, .slice z.a1 z.old.length z.c1, .slice z.a2 z.new.length z.c2], v]) ∧
    Hid (y.Sep w' ∧ z.Sep w' ∧ y.key = k1 ∧ z.key = k2) ∧ Below w.heap.size w w'
theorem setPrim_size (w : World) (g : Nat) (x : Pm) : (setPrim w g x).heap.size = w.heap.size := by simp [setPrim, World.setCell]
/-- Two steps written into both results' cells, handed back. -/
theorem two_set {w w2 : World} {G H : Nat} {y0 z0 y z : Pm} {k1 k2 : Pk} (v : Value) (hb : Below w.heap.size w w2) (hG : w.heap.size ≤ G) (hH : w.heap.size ≤ H) (hne : G ≠ H) (hP : PrimAt w2 G y0) (hQ : PrimAt w2 H z0) (hy : y.Sep w2) (hz : z.Sep w2) (ey : y.key = k1) (ez : z.key = k2) :
    TwoLeft w k1 k2 v (.returned (.tuple #[.agg #[.int .i64 y.kind, .string y.p, .string y.dst, .int .i64 y.at_, .slice y.a1 y.old.length y.c1, .slice y.a2 y.new.length y.c2], .agg #[.int .i64 z.kind, .string z.p, .string z.dst, .int .i64 z.at_, .slice z.a1 z.old.length z.c1, .slice z.a2 z.new.length z.c2], v])) (setPrim (setPrim w2 G y) H z) ∧
    PrimAt (setPrim (setPrim w2 G y) H z) G y ∧ PrimAt (setPrim (setPrim w2 G y) H z) H z := by
  have g1 := setPrim_grown w2 G y
  have p1 := setPrim_at hP y
  have q1 := hQ.grown g1 (by simpa using hne)
  have g2 := setPrim_grown (setPrim w2 G y) H z
  have b1 := below_prim y hb hG hb.size
  have hs : w.heap.size ≤ (setPrim w2 G y).heap.size := by rw [setPrim_size]; exact hb.size
  refine ⟨⟨y, z, rfl, ⟨(hy.grown hP (by decide) g1).grown q1 (by decide) g2, (hz.grown hP (by decide) g1).grown q1 (by decide) g2, ey, ez⟩, below_prim z b1 hH hs⟩, p1.grown g2 (by simpa using Ne.symm hne), setPrim_at q1 z⟩
theorem prim_set6 {w : World} {g h : Nat} {x : Pm} {v0 v1 v2 v3 v4 v5 : Value} (k : PrimAt w g x) (hne : h ≠ g) : PrimAt ((((((w.setCell ⟨h, 0, none⟩ v0).setCell ⟨h, 1, none⟩ v1).setCell ⟨h, 2, none⟩ v2).setCell ⟨h, 3, none⟩ v3).setCell ⟨h, 4, none⟩ v4).setCell ⟨h, 5, none⟩ v5) g x :=
  k.grown (grown_on (grown_on (grown_on (grown_on (grown_on (grown_cell _ _ _ _) (grown_cell _ _ _ _)) (grown_cell _ _ _ _)) (grown_cell _ _ _ _)) (grown_cell _ _ _ _)) (grown_cell _ _ _ _)) (by simpa using hne)
/-- Both steps in parameters' cells, zero steps in both results'. -/
theorem box4 (w : World) (x y : Pm) : Below w.heap.size w ((((w.alloc (.cells x.cells.toArray 25)).alloc (.cells y.cells.toArray 25)).alloc (.cells (Pm.cells ⟨0, ⟨#[]⟩, ⟨#[]⟩, 0, none, 0, [], none, 0, []⟩).toArray 25)).alloc (.cells (Pm.cells ⟨0, ⟨#[]⟩, ⟨#[]⟩, 0, none, 0, [], none, 0, []⟩).toArray 25)) ∧
    PrimAt ((((w.alloc (.cells x.cells.toArray 25)).alloc (.cells y.cells.toArray 25)).alloc (.cells (Pm.cells ⟨0, ⟨#[]⟩, ⟨#[]⟩, 0, none, 0, [], none, 0, []⟩).toArray 25)).alloc (.cells (Pm.cells ⟨0, ⟨#[]⟩, ⟨#[]⟩, 0, none, 0, [], none, 0, []⟩).toArray 25)) w.heap.size x ∧
    PrimAt ((((w.alloc (.cells x.cells.toArray 25)).alloc (.cells y.cells.toArray 25)).alloc (.cells (Pm.cells ⟨0, ⟨#[]⟩, ⟨#[]⟩, 0, none, 0, [], none, 0, []⟩).toArray 25)).alloc (.cells (Pm.cells ⟨0, ⟨#[]⟩, ⟨#[]⟩, 0, none, 0, [], none, 0, []⟩).toArray 25)) (w.heap.size + 1) y ∧
    PrimAt ((((w.alloc (.cells x.cells.toArray 25)).alloc (.cells y.cells.toArray 25)).alloc (.cells (Pm.cells ⟨0, ⟨#[]⟩, ⟨#[]⟩, 0, none, 0, [], none, 0, []⟩).toArray 25)).alloc (.cells (Pm.cells ⟨0, ⟨#[]⟩, ⟨#[]⟩, 0, none, 0, [], none, 0, []⟩).toArray 25)) (w.heap.size + 1 + 1) ⟨0, ⟨#[]⟩, ⟨#[]⟩, 0, none, 0, [], none, 0, []⟩ ∧
    PrimAt ((((w.alloc (.cells x.cells.toArray 25)).alloc (.cells y.cells.toArray 25)).alloc (.cells (Pm.cells ⟨0, ⟨#[]⟩, ⟨#[]⟩, 0, none, 0, [], none, 0, []⟩).toArray 25)).alloc (.cells (Pm.cells ⟨0, ⟨#[]⟩, ⟨#[]⟩, 0, none, 0, [], none, 0, []⟩).toArray 25)) (w.heap.size + 1 + 1 + 1) ⟨0, ⟨#[]⟩, ⟨#[]⟩, 0, none, 0, [], none, 0, []⟩ := by
  obtain ⟨a1, a2, a3⟩ := box2 w x y
  have hz : ((w.alloc (.cells x.cells.toArray 25)).alloc (.cells y.cells.toArray 25)).heap.size = w.heap.size + 1 + 1 := by rw [World.size_alloc, World.size_alloc]
  generalize ((w.alloc (.cells x.cells.toArray 25)).alloc (.cells y.cells.toArray 25)) = w2 at *
  obtain ⟨b1, b2, b3⟩ := boxes w2 ⟨0, ⟨#[]⟩, ⟨#[]⟩, 0, none, 0, [], none, 0, []⟩
  rw [← hz]
  exact ⟨a1.trans (b1.mono a1.size), a2.on b1, a3.on b1, b2, b3⟩

end Go.Proofs.YtknommnlkdlkdaaGreatDoor
