/- The library's SortStableFunc of the statements' two patches, by package deps' order. -/
import Derived.Test.YtifkpelcdihdoaaGreatDoorProg
import Derived.WalkKit
import Derived.WalkSpells
import Derived.Handy
import Derived.Lib.Hide
import Derived.Shelf.Strings.BuilderK
import Derived.BigQuiet
import Derived.Deep.QuietTactic
import Derived.Lib.AtoiAllCases
import Derived.Lib.ItoaMem
import Derived.Test.YtifkpelcdihdoaaGreatDoorShelf
import Derived.Deep.RegionHeld3
import Derived.Deep.CutRange
import Derived.Lib.AppendIntMem
import Derived.BigRegion
import Derived.Deep.RegionWith
import Derived.Lib.QuietBelow
import Derived.Deep.MidRow
import Derived.StillTailTactics
import Derived.Test.YtifkpelcdihdoaaGreatDoorCk27
namespace Go.Proofs.YtifkpelcdihdoaaGreatDoor
open Go.RowKit
set_option linter.unusedVariables false
set_option pp.maxSteps 200

set_option maxHeartbeats 1000000 in
set_option maxRecDepth 100000 in
theorem dord1_any (a b : Ptm) (w : World) (r : Int) (hr : Lib.compareBytes a.name.data.toList b.name.data.toList = r) :
    Calls Tryz.prog 36 #[.agg #[.string a.name, .slice a.a1 a.deps.length a.c1, .slice a.a2 a.ops.length a.c2], .agg #[.string b.name, .slice b.a1 b.deps.length b.c1, .slice b.a2 b.ops.length b.c2]] w fun e w' => e = .returned (.int .i64 r) ∧ Below w.heap.size w w' := by
  obtain ⟨hb0, hx0⟩ := pat_box w a
  obtain ⟨hb1, hy1⟩ := pat_box (w.alloc (.cells #[.string a.name, .slice a.a1 a.deps.length a.c1, .slice a.a2 a.ops.length a.c2] 35)) b
  have hs : (w.alloc (.cells #[.string a.name, .slice a.a1 a.deps.length a.c1, .slice a.a2 a.ops.length a.c2] 35)).heap.size = w.heap.size + 1 := by simp
  have hx1 := hx0.on hb1
  have HB := Lib.hid (hb0.trans (hb1.mono hb0.size))
  have HX := Lib.hid hx1
  have HY := Lib.hid hy1
  rw [hs] at HY
  have C := Lib.hid (fun W => Tryz.strings_Compare a.name b.name W)
  rw [hr] at C
  clear hb0 hx0 hb1 hy1 hs hx1 hr
  go_enter Tryz.func36, Tryz.ntmps36
  go_upto_region 1 with (fail)
  generalize ((w.alloc (.cells #[.string a.name, .slice a.a1 a.deps.length a.c1, .slice a.a2 a.ops.length a.c2] 35)).alloc (.cells #[.string b.name, .slice b.a1 b.deps.length b.c1, .slice b.a2 b.ops.length b.c2] 35)) = wb at *
  have x0 := HX.out.c0
  have y0 := HY.out.c0
  go_wp2_with fail
  refine (C.out _).mono ?_
  rintro e w1 ⟨rfl, hw⟩
  subst hw
  go_wp2
  go_ret
  exact ⟨rfl, HB.out⟩
theorem step_load_patr {w : World} {ops : Array Oper} {o : Oper} {a : Act} {K : Act → World → Prop} {E : Prop} {Q : Exit → Act → World → Prop} (hw : Region.wanted o (yielded ops a.tmps) = true) (x : Operand) (ho : o.op = .load 35 x) (b off : Nat) (z : Ptm)
    (hx : a.eval x = .pointer (some ⟨b, off, none⟩)) (hz : w.rangeAt b off z.cells) (h : K (a.put o.dst (.agg #[.string z.name, .slice z.a1 z.deps.length z.c1, .slice z.a2 z.ops.length z.c2])) w) : if Region.wanted o (yielded ops a.tmps) = true then Oper.wp Tryz.prog o a w K Q else E := by
  rw [if_pos hw]
  exact wp_load_mid 35 x ho b off hx z.cells _ hz Tryz.underlying35 rfl (by kernel_rfl) h
theorem step_store_patr {w : World} {ops : Array Oper} {o : Oper} {a : Act} {K : Act → World → Prop} {E : Prop} {Q : Exit → Act → World → Prop} (hw : Region.wanted o (yielded ops a.tmps) = true) (x y : Operand) (ho : o.op = .store 35 x y) (g off : Nat) (z : Ptm)
    (hx : a.eval x = .pointer (some ⟨g, off, none⟩)) (hy : a.eval y = .agg #[.string z.name, .slice z.a1 z.deps.length z.c1, .slice z.a2 z.ops.length z.c2]) (hz : w.there g off 3) (h : K (a.put o.dst undef) (w.setCells g off z.cells)) : if Region.wanted o (yielded ops a.tmps) = true then Oper.wp Tryz.prog o a w K Q else E := by
  rw [if_pos hw]
  exact wp_store_mid 35 x y ho g off z.cells.toArray hx hy hz sized_pat3 (all_oneCell_toArray (patR.one z)) h
set_option maxHeartbeats 8000000 in
set_option maxRecDepth 100000 in
theorem pinsert_two (g cap : Nat) (x y : Ptm) (w : World) (hk : patR.Blk w g cap [x, y]) (r : Int) (hr : Lib.compareBytes y.name.data.toList x.name.data.toList = r) (hlt : r < 0) :
    Calls Tryz.prog 77 #[.slice (some ⟨g, 0, none⟩) 2 cap, .int .i64 0, .int .i64 2, .func (.func 36) #[] #[]] w fun e w' => e = .returned (.tuple #[]) ∧ patR.Blk w' g cap [y, x] ∧ w.grownBy w' (some g) := by
  have HK := Lib.hid hk
  have CO := Lib.hid (fun W => dord1_any y x W r hr)
  have IA0 := pat_indexAt (c := cap) (n := 2) (k := 0) (A := some ⟨g, 0, none⟩) rfl (by decide)
  have IA1 := pat_indexAt (c := cap) (n := 2) (k := 1) (A := some ⟨g, 0, none⟩) rfl (by decide)
  simp only [Nat.zero_mul, Nat.one_mul, Nat.zero_add, Nat.add_zero] at IA0 IA1
  have h0 := HK.out.cell (j := 0) (by simp) (r := 0) (u := .string x.name) rfl
  have h1 := HK.out.cell (j := 0) (by simp) (r := 1) (u := .slice x.a1 x.deps.length x.c1) rfl
  have h2 := HK.out.cell (j := 0) (by simp) (r := 2) (u := .slice x.a2 x.ops.length x.c2) rfl
  have h3 := HK.out.cell (j := 1) (by simp) (r := 0) (u := .string y.name) rfl
  have h4 := HK.out.cell (j := 1) (by simp) (r := 1) (u := .slice y.a1 y.deps.length y.c1) rfl
  have h5 := HK.out.cell (j := 1) (by simp) (r := 2) (u := .slice y.a2 y.ops.length y.c2) rfl
  have ek : patR.k = 3 := rfl
  simp only [ek, Nat.zero_mul, Nat.one_mul, Nat.zero_add, Nat.add_zero] at h0 h1 h2 h3 h4 h5
  have wz : IntKind.i64.wrap 0 = 0 := by decide
  clear hk hr ek
  go_enter Tryz.func77, Tryz.ntmps77
  go_wp2_with fail
  go_loopw [8] (fun iv wr => (iv = .int .i64 1 ∧ wr = w) ∨ (iv = .int .i64 2 ∧ Hid (patR.Blk wr g cap [y, x]) ∧ Hid (w.grownBy wr (some g)))) (fun iv _ => 2 - (intOf iv).toNat)
  case atStart => exact .inl ⟨rfl, rfl⟩
  case round =>
    rcases hrel with ⟨rfl, rfl⟩ | ⟨rfl, HKO, HGO⟩
    · go_wp2_with fail
      go_loopw [9] (fun jv wr2 => (jv = .int .i64 1 ∧ wr2 = wr) ∨ (jv = .int .i64 0 ∧ Hid (patR.Blk wr2 g cap [y, x]) ∧ Hid (wr.grownBy wr2 (some g)))) (fun jv _ => (intOf jv).toNat)
      case atStart => exact .inl ⟨rfl, rfl⟩
      case round =>
      rcases hrel with ⟨rfl, rfl⟩ | ⟨rfl, HKI, HGI⟩
      · -- @P1
        go_wp2_with fail
        refine wp_region_still_tail 14 (by kernel_rfl) (by kernel_rfl) ?_
        simp only [List.take_succ_cons, List.take_zero, List.drop_succ_cons, List.drop_zero]
        change wpStill _ _ wr.drew _ _ _
        have d0 : wr.drew.cell? ⟨g, 0, none⟩ = _ := h0
        have d1 : wr.drew.cell? ⟨g, 1, none⟩ = _ := h1
        have d2 : wr.drew.cell? ⟨g, 2, none⟩ = _ := h2
        have d3 : wr.drew.cell? ⟨g, 3, none⟩ = _ := h3
        have d4 : wr.drew.cell? ⟨g, 3 + 1, none⟩ = _ := h4
        have d5 : wr.drew.cell? ⟨g, 3 + 2, none⟩ = _ := h5
        repeat still_step
        refine wpStill_nil ?_
        change wpList _ _ _ _ _ wr.drew
        clear d0 d1 d2 d3 d4 d5
        go_wp2_with fail
        refine (CO.out _).mono ?_
        rintro e w1 ⟨rfl, hb1⟩
        have hb1 := below_dr hb1
        have hk1 := HK.out.on hb1
        have HG1 := Lib.hid (show wr.grownBy w1 (some g) from ⟨hb1.os, hb1.tape, hb1.output, hb1.size, fun i hi _ => hb1.block i hi⟩)
        have h0 := cell_on h0 hb1
        have h1 := cell_on h1 hb1
        have h2 := cell_on h2 hb1
        have h3 := cell_on h3 hb1
        have h4 := cell_on h4 hb1
        have h5 := cell_on h5 hb1
        have HK1 := Lib.hid hk1
        clear hb1 hk1 CO HK
  -- @P2
        go_upto_region 6 with (fail)
        have RX : Hid (w1.drew.rangeAt g 0 x.cells) := fun j v hv => by
          match j, hv with
          | 0, hv => cases hv; exact h0
          | 1, hv => cases hv; exact h1
          | 2, hv => cases hv; exact h2
        have RY : Hid (w1.drew.rangeAt g 3 y.cells) := fun j v hv => by
          match j, hv with
          | 0, hv => cases hv; exact h3
          | 1, hv => cases hv; exact h4
          | 2, hv => cases hv; exact h5
        have hbd : Below w1.heap.size w1 w1.drew := (Below.refl _ _).drew
        have HKD := Lib.hid (HK1.out.on hbd)
        have hcap : 2 ≤ cap := by have h := HK1.out.len; simpa using h
        have HT3 : Hid (w1.drew.there g 3 3) := fun j hj => ⟨HKD.out.some_ (i := 3 + j) (by show 3 + j < cap * 3; omega), HKD.out.fz _⟩
        have hk3 := HKD.out.put (i := 1) (by simp) x
        have HT0 : Hid ((w1.drew.setCells g 3 x.cells).there g 0 3) := fun j hj => ⟨Rk.Blk.some_ hk3 (i := 0 + j) (by show 0 + j < cap * 3; omega), Rk.Blk.fz hk3 _⟩
        have hk0 := Rk.Blk.put hk3 (i := 0) (by simp) y
        have HKE : Hid (patR.Blk ((w1.drew.setCells g 3 x.cells).setCells g 0 y.cells) g cap [y, x]) := hk0
        have HGE : Hid (wr.grownBy ((w1.drew.setCells g 3 x.cells).setCells g 0 y.cells) (some g)) := Rk.grown_both (Rk.grown_below HG1.out hbd) (Rk.grown_both (Rk.setCells_grown _ g 3 x.cells) (Rk.setCells_grown _ g 0 y.cells))
        clear hbd HKD hcap hk3 hk0 HK1 HG1 h0 h1 h2 h3 h4 h5
        refine wp_region_noPanic ?_
        refine wp_region_held_drew (S := fun _ => True) (by kernel_rfl) trivial (fun hHeld => ?_)
        have hT : True := trivial
        refine wpAnyH_take (i := 0) (oi := { dst := some 37, op := _, type := _, pos := _, after := _, guard := _ }) (v := .slice (some ⟨g, 0, none⟩) 2 cap) rfl (by kernel_rfl) (by kernel_rfl) (by kernel_rfl) (fun _ _ _ h => h) (Or.inl ⟨by rfl, fun w' hSw => ?_⟩) (by assumption) ?_
        · ((try dsimp only at hSw); go_simp)
        try simp only [Act.put, List.setIfInBounds_toArray, List.set_cons_zero, List.set_cons_succ]
        refine wpAnyH_take (i := 1) (oi := { dst := some 38, op := _, type := _, pos := _, after := _, guard := _ }) (v := .int .i64 1) rfl (by kernel_rfl) (by kernel_rfl) (by kernel_rfl) (fun _ _ _ h => h) (Or.inl ⟨by rfl, fun w' hSw => ?_⟩) (by assumption) ?_
        · ((try dsimp only at hSw); go_simp)
        try simp only [Act.put, List.setIfInBounds_toArray, List.set_cons_zero, List.set_cons_succ]
        refine wpAnyH_take (i := 2) (oi := { dst := some 39, op := _, type := _, pos := _, after := _, guard := _ }) (v := .slice (some ⟨g, 0, none⟩) 2 cap) rfl (by kernel_rfl) (by kernel_rfl) (by kernel_rfl) (fun _ _ _ h => h) (Or.inl ⟨by rfl, fun w' hSw => ?_⟩) (by assumption) ?_
        · ((try dsimp only at hSw); go_simp)
        try simp only [Act.put, List.setIfInBounds_toArray, List.set_cons_zero, List.set_cons_succ]
        refine wpAnyH_take (i := 3) (oi := { dst := some 40, op := _, type := _, pos := _, after := _, guard := _ }) (v := .int .i64 1) rfl (by kernel_rfl) (by kernel_rfl) (by kernel_rfl) (fun _ _ _ h => h) (Or.inl ⟨by rfl, fun w' hSw => ?_⟩) (by assumption) ?_
        · ((try dsimp only at hSw); go_simp)
        try simp only [Act.put, List.setIfInBounds_toArray, List.set_cons_zero, List.set_cons_succ]
        refine wpAnyH_take (i := 4) (oi := { dst := some 41, op := _, type := _, pos := _, after := _, guard := _ }) (v := .int .i64 0) rfl (by kernel_rfl) (by kernel_rfl) (by kernel_rfl) (fun _ _ _ h => h) (Or.inl ⟨by rfl, fun w' hSw => ?_⟩) (by assumption) ?_
        · ((try dsimp only at hSw); go_simp)
        try simp only [Act.put, List.setIfInBounds_toArray, List.set_cons_zero, List.set_cons_succ]
        refine wpAnyH_take (i := 5) (oi := { dst := some 42, op := _, type := _, pos := _, after := _, guard := _ }) (v := .slice (some ⟨g, 0, none⟩) 2 cap) rfl (by kernel_rfl) (by kernel_rfl) (by kernel_rfl) (fun _ _ _ h => h) (Or.inl ⟨by rfl, fun w' hSw => ?_⟩) (by assumption) ?_
        · ((try dsimp only at hSw); go_simp)
        try simp only [Act.put, List.setIfInBounds_toArray, List.set_cons_zero, List.set_cons_succ]
        refine wpAnyH_take (i := 6) (oi := { dst := some 43, op := _, type := _, pos := _, after := _, guard := _ }) (v := .int .i64 1) rfl (by kernel_rfl) (by kernel_rfl) (by kernel_rfl) (fun _ _ _ h => h) (Or.inl ⟨by rfl, fun w' hSw => ?_⟩) (by assumption) ?_
        · ((try dsimp only at hSw); go_simp)
        try simp only [Act.put, List.setIfInBounds_toArray, List.set_cons_zero, List.set_cons_succ]
        refine wpAnyH_take (i := 7) (oi := { dst := some 44, op := _, type := _, pos := _, after := _, guard := _ }) (v := .int .i64 0) rfl (by kernel_rfl) (by kernel_rfl) (by kernel_rfl) (fun _ _ _ h => h) (Or.inl ⟨by rfl, fun w' hSw => ?_⟩) (by assumption) ?_
        · ((try dsimp only at hSw); go_simp)
        try simp only [Act.put, List.setIfInBounds_toArray, List.set_cons_zero, List.set_cons_succ]
        refine wpAnyH_take (i := 8) (oi := { dst := some 45, op := _, type := _, pos := _, after := _, guard := _ }) (v := .pointer (some ⟨g, 0, none⟩)) rfl (by kernel_rfl) (by kernel_rfl) (by kernel_rfl) (fun _ _ _ h => h) (Or.inl ⟨by rfl, fun w' hSw => ?_⟩) (by assumption) ?_
        · ((try dsimp only at hSw); go_simp)
        try simp only [Act.put, List.setIfInBounds_toArray, List.set_cons_zero, List.set_cons_succ]
        refine wpAnyH_take (i := 10) (oi := { dst := some 47, op := _, type := _, pos := _, after := _, guard := _ }) (v := .slice (some ⟨g, 0, none⟩) 2 cap) rfl (by kernel_rfl) (by kernel_rfl) (by kernel_rfl) (fun _ _ _ h => h) (Or.inl ⟨by rfl, fun w' hSw => ?_⟩) (by assumption) ?_
        · ((try dsimp only at hSw); go_simp)
        try simp only [Act.put, List.setIfInBounds_toArray, List.set_cons_zero, List.set_cons_succ]
        refine wpAnyH_take (i := 11) (oi := { dst := some 48, op := _, type := _, pos := _, after := _, guard := _ }) (v := .int .i64 1) rfl (by kernel_rfl) (by kernel_rfl) (by kernel_rfl) (fun _ _ _ h => h) (Or.inl ⟨by rfl, fun w' hSw => ?_⟩) (by assumption) ?_
        · ((try dsimp only at hSw); go_simp)
        try simp only [Act.put, List.setIfInBounds_toArray, List.set_cons_zero, List.set_cons_succ]
        refine wpAnyH_take (i := 12) (oi := { dst := some 49, op := _, type := _, pos := _, after := _, guard := _ }) (v := .pointer (some ⟨g, 3, none⟩)) rfl (by kernel_rfl) (by kernel_rfl) (by kernel_rfl) (fun _ _ _ h => h) (Or.inl ⟨by rfl, fun w' hSw => ?_⟩) (by assumption) ?_
        · ((try dsimp only at hSw); go_simp)
        try simp only [Act.put, List.setIfInBounds_toArray, List.set_cons_zero, List.set_cons_succ]
        generalize hwD : w1.drew = wD at RX RY HT3 HT0 HKE HGE ⊢
        clear hwD
        refine wpAnyH_ready (rs := [9, 13]) (by kernel_rfl) (by simp) ?_
        refine AllReadyH.cons rfl (fun K hK => ?_) (AllReadyH.cons rfl (fun K hK => ?_) AllReadyH.nil)
        · refine step_load_patr (by rfl) (.tmp 45) rfl g 0 x rfl RX.out ?_
          refine hK.out _ _ trivial (fun hHeld => ?_)
          clear hK K
          try simp only [Act.put, List.setIfInBounds_toArray]
          refine wpAnyH_ready (rs := [13]) (by kernel_rfl) (by simp) ?_
          refine AllReadyH.cons rfl (fun K hK => ?_) AllReadyH.nil
          refine step_load_patr (by rfl) (.tmp 49) rfl g 3 y rfl RY.out ?_
          refine hK.out _ _ trivial (fun hHeld => ?_)
          clear hK K
          try simp only [Act.put]
          refine wpAnyH_take (i := 14) (oi := { dst := some 51, op := _, type := _, pos := _, after := _, guard := _ }) (v := .pointer (some ⟨g, 3, none⟩)) rfl (by kernel_rfl) (by kernel_rfl) (by kernel_rfl) (fun _ _ _ h => h) (Or.inl ⟨by rfl, fun w' hSw => ?_⟩) (by assumption) ?_
          · ((try dsimp only at hSw); go_simp)
          try simp only [Act.put]
          refine wpAnyH_ready (rs := [15]) (by kernel_rfl) (by simp) ?_
          refine AllReadyH.cons rfl (fun K hK => ?_) AllReadyH.nil
          (with_reducible refine step_store_patr ?_ (.tmp 51) (.tmp 46) ?_ g 3 x ?_ ?_ HT3.out ?_); rfl; rfl; rfl; rfl
          generalize hwF : wD.setCells g 3 x.cells = wF at HT0 HKE HGE ⊢
          clear hwF
          refine hK.out _ _ trivial (fun hHeld => ?_)
          clear hK K
          try simp only [Act.put]
          refine wpAnyH_take (i := 16) (oi := { dst := some 52, op := _, type := _, pos := _, after := _, guard := _ }) (v := .pointer (some ⟨g, 0, none⟩)) rfl (by kernel_rfl) (by kernel_rfl) (by kernel_rfl) (fun _ _ _ h => h) (Or.inl ⟨by rfl, fun w' hSw => ?_⟩) (by assumption) ?_
          · ((try dsimp only at hSw); go_simp)
          try simp only [Act.put]
          refine wpAnyH_ready (rs := [17]) (by kernel_rfl) (by simp) ?_
          refine AllReadyH.cons rfl (fun K hK => ?_) AllReadyH.nil
          (with_reducible refine step_store_patr ?_ (.tmp 52) (.tmp 50) ?_ g 0 y ?_ ?_ HT0.out ?_); rfl; rfl; rfl; rfl
          generalize hwE : wF.setCells g 0 y.cells = wE at HKE HGE ⊢
          clear hwE
          refine hK.out _ _ trivial (fun hHeld => ?_)
          clear hK K
          try simp only [Act.put]
          refine wpAnyH_done (by kernel_rfl) ?_ _
          refine NoPanic.normal ?_
          go_wp2
          go_roundw
          case rel => exact .inr ⟨by go_num, HKE, HGE⟩
          case measure => simp [intOf]
        · refine step_load_patr (by rfl) (.tmp 49) rfl g 3 y rfl RY.out ?_
          refine hK.out _ _ trivial (fun hHeld => ?_)
          clear hK K
          try simp only [Act.put, List.setIfInBounds_toArray]
          refine wpAnyH_ready (rs := [9]) (by kernel_rfl) (by simp) ?_
          refine AllReadyH.cons rfl (fun K hK => ?_) AllReadyH.nil
          refine step_load_patr (by rfl) (.tmp 45) rfl g 0 x rfl RX.out ?_
          refine hK.out _ _ trivial (fun hHeld => ?_)
          clear hK K
          try simp only [Act.put]
          refine wpAnyH_take (i := 14) (oi := { dst := some 51, op := _, type := _, pos := _, after := _, guard := _ }) (v := .pointer (some ⟨g, 3, none⟩)) rfl (by kernel_rfl) (by kernel_rfl) (by kernel_rfl) (fun _ _ _ h => h) (Or.inl ⟨by rfl, fun w' hSw => ?_⟩) (by assumption) ?_
          · ((try dsimp only at hSw); go_simp)
          try simp only [Act.put]
          refine wpAnyH_ready (rs := [15]) (by kernel_rfl) (by simp) ?_
          refine AllReadyH.cons rfl (fun K hK => ?_) AllReadyH.nil
          (with_reducible refine step_store_patr ?_ (.tmp 51) (.tmp 46) ?_ g 3 x ?_ ?_ HT3.out ?_); rfl; rfl; rfl; rfl
          generalize hwF : wD.setCells g 3 x.cells = wF at HT0 HKE HGE ⊢
          clear hwF
          refine hK.out _ _ trivial (fun hHeld => ?_)
          clear hK K
          try simp only [Act.put]
          refine wpAnyH_take (i := 16) (oi := { dst := some 52, op := _, type := _, pos := _, after := _, guard := _ }) (v := .pointer (some ⟨g, 0, none⟩)) rfl (by kernel_rfl) (by kernel_rfl) (by kernel_rfl) (fun _ _ _ h => h) (Or.inl ⟨by rfl, fun w' hSw => ?_⟩) (by assumption) ?_
          · ((try dsimp only at hSw); go_simp)
          try simp only [Act.put]
          refine wpAnyH_ready (rs := [17]) (by kernel_rfl) (by simp) ?_
          refine AllReadyH.cons rfl (fun K hK => ?_) AllReadyH.nil
          (with_reducible refine step_store_patr ?_ (.tmp 52) (.tmp 50) ?_ g 0 y ?_ ?_ HT0.out ?_); rfl; rfl; rfl; rfl
          generalize hwE : wF.setCells g 0 y.cells = wE at HKE HGE ⊢
          clear hwE
          refine hK.out _ _ trivial (fun hHeld => ?_)
          clear hK K
          try simp only [Act.put]
          refine wpAnyH_done (by kernel_rfl) ?_ _
          refine NoPanic.normal ?_
          go_wp2
          go_roundw
          case rel => exact .inr ⟨by go_num, HKE, HGE⟩
          case measure => simp [intOf]
      · -- @P3
        go_wp2_with fail
        clear h0 h1 h2 h3 h4 h5 IA0 IA1 wz
        go_quiet (fail)
        -- @P5
        go_wp2
        -- @P6
        go_roundw
        case rel => exact .inr ⟨by go_num, HKI.out.on (below_drewN (Below.refl _ _) _), Rk.grown_below HGI.out (below_drewN (Below.refl _ _) _)⟩
        case measure => simp [intOf]
    · -- @P4
      go_wp2
      go_end0
      exact ⟨rfl, HKO.out, HGO.out⟩
end Go.Proofs.YtifkpelcdihdoaaGreatDoor
