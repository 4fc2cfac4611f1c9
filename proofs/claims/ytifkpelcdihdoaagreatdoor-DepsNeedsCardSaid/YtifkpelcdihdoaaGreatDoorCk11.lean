/- A whole variable read in a region that is walked once, whatever its order: its value by a law, not cell by cell. Package op: Same, Check. Package op: Put. Patches, plainly and as they lie: how many bytes, ids and rows there may be. -/
import Derived.Lib.QuietBelow
import Derived.BigQuiet
import Derived.Deep.QuietTactic
import Derived.Handy
import Derived.Test.YtifkpelcdihdoaaGreatDoorProg
import Derived.WalkKit
import Derived.WalkSpells
import Derived.Lib.Hide
import Derived.Shelf.Strings.BuilderK
import Derived.Lib.AtoiAllCases
import Derived.Lib.ItoaMem
import Derived.Test.YtifkpelcdihdoaaGreatDoorShelf
import Derived.Deep.RegionHeld3
import Derived.Deep.CutRange
import Derived.Lib.AppendIntMem
import Derived.BigRegion
import Derived.Deep.RegionWith
import Derived.Deep.MidRow
import Derived.Test.YtifkpelcdihdoaaGreatDoorCk10
namespace Go.Proofs.YtifkpelcdihdoaaGreatDoor
open Go.RowKit
open Go.Sort
set_option linter.unusedVariables false

theorem quiet_load {P : Program} {C : World → Prop} {K : Act → Prop} {o : Oper} {a : Act} (ty : TypeId) (x : Operand) (ho : o.op = .load ty x) (p : Addr) (hx : a.eval x = .pointer (some p)) (v : Value)
    (hv : ∀ w, C w → (loadVar ty p).run P w = .ok v w) (hk : K (a.put o.dst v)) : o.quiet P a C K :=
  ⟨v, fun w hw => by
    unfold Oper.quietAt execOp
    simp only [ho, hx, Instr.loadAt, Instr.sureAddr, Sem.run_bind, Sem.run_pure, Result.andThen_ok, hv w hw]
    exact ⟨rfl, rfl⟩, hk⟩
/-- An operation that lies in an old block, read in the worlds of 'quiet below'. -/
theorem op_loaded {wb : World} {g : Nat} {x : Om} (h : OpAt wb g x) : ∀ W, (∃ p : Regrown, W = grow (redrawn wb p.d) p.os) → (loadVar 84 ⟨g, 0, none⟩).run Tryz.prog W = .ok (.agg #[.int .i64 x.kind, .string x.self.p, .int .i64 x.self.n, .string x.parent.p, .int .i64 x.parent.n, .string x.dst.p, .int .i64 x.dst.n, .string x.name, .string x.dname, .string x.left.p, .int .i64 x.left.n, .string x.right.p, .int .i64 x.right.n, .slice x.a1 x.dels.length x.c1, .int .i64 x.first, .slice x.a2 x.lines.length x.c2]) W := by
  rintro _ ⟨p, rfl⟩
  exact load_op (h.on (below_regrown wb p.d p.os))
end Go.Proofs.YtifkpelcdihdoaaGreatDoor
namespace Go.Proofs.YtifkpelcdihdoaaGreatDoor
open Go.RowKit
open Go.Sort
set_option linter.unusedVariables false

theorem str_beqd (a b : ByteArray) : (a.toList == b.toList) = decide (a = b) := by
  by_cases h : a = b
  · rw [decide_eq_true h, h]
    exact str_eqb _
  · rw [decide_eq_false h]
    exact str_ne h
theorem osame_parts (x y : Om) : decide (x.key = y.key) = (decide (x.kind = y.kind) && (decide (x.first = y.first) && ((decide (x.self = y.self) && (decide (x.parent = y.parent) && (decide (x.dst = y.dst) && (decide (x.left = y.left) && decide (x.right = y.right))))) && (decide (x.name = y.name) && (decide (x.dname = y.dname) && (decide (x.dels = y.dels) && decide (x.lines = y.lines))))))) := by
  rw [Bool.eq_iff_iff]
  simp only [Bool.and_eq_true, decide_eq_true_eq]
  constructor
  · intro h
    exact ⟨congrArg OpK.kind h, congrArg OpK.first h, ⟨Im.key_inj (congrArg OpK.self h), Im.key_inj (congrArg OpK.parent h), Im.key_inj (congrArg OpK.dst h), Im.key_inj (congrArg OpK.left h), Im.key_inj (congrArg OpK.right h)⟩, bytes_inj (congrArg OpK.name h), bytes_inj (congrArg OpK.dname h), ikeys_inj (congrArg OpK.dels h), congrArg OpK.lines h⟩
  · rintro ⟨h1, h2, ⟨a1, a2, a3, a4, a5⟩, h4, h5, h6, h7⟩
    unfold Om.key
    rw [h1, h2, a1, a2, a3, a4, a5, h4, h5, h6, h7]
set_option maxHeartbeats 8000000 in
set_option maxRecDepth 100000 in
theorem opsame_any (x y : Om) (w : World) (ox : x.Ok w w.heap.size) (oy : y.Ok w w.heap.size) (sx : x.Sz) (sy : y.Sz) :
    Calls Tryz.prog 122 #[.agg #[.int .i64 x.kind, .string x.self.p, .int .i64 x.self.n, .string x.parent.p, .int .i64 x.parent.n, .string x.dst.p, .int .i64 x.dst.n, .string x.name, .string x.dname, .string x.left.p, .int .i64 x.left.n, .string x.right.p, .int .i64 x.right.n, .slice x.a1 x.dels.length x.c1, .int .i64 x.first, .slice x.a2 x.lines.length x.c2], .agg #[.int .i64 y.kind, .string y.self.p, .int .i64 y.self.n, .string y.parent.p, .int .i64 y.parent.n, .string y.dst.p, .int .i64 y.dst.n, .string y.name, .string y.dname, .string y.left.p, .int .i64 y.left.n, .string y.right.p, .int .i64 y.right.n, .slice y.a1 y.dels.length y.c1, .int .i64 y.first, .slice y.a2 y.lines.length y.c2]] w fun e w' => e = .returned (.bool (decide (x.key = y.key))) ∧ Below w.heap.size w w' := by
  obtain ⟨hb, hx, hy⟩ := op_box2 w x y
  have HX := Lib.hid hx
  have HY := Lib.hid hy
  have HF := Lib.hid hb
  have OX := Lib.hid (ox.on hb)
  have OY := Lib.hid (oy.on hb)
  clear hb hx hy ox oy
  go_enter Tryz.func122, Tryz.ntmps122
  go_upto_region 1 with (fail)
  generalize ((w.alloc (.cells #[.int .i64 x.kind, .string x.self.p, .int .i64 x.self.n, .string x.parent.p, .int .i64 x.parent.n, .string x.dst.p, .int .i64 x.dst.n, .string x.name, .string x.dname, .string x.left.p, .int .i64 x.left.n, .string x.right.p, .int .i64 x.right.n, .slice x.a1 x.dels.length x.c1, .int .i64 x.first, .slice x.a2 x.lines.length x.c2] 84)).alloc (.cells #[.int .i64 y.kind, .string y.self.p, .int .i64 y.self.n, .string y.parent.p, .int .i64 y.parent.n, .string y.dst.p, .int .i64 y.dst.n, .string y.name, .string y.dname, .string y.left.p, .int .i64 y.left.n, .string y.right.p, .int .i64 y.right.n, .slice y.a1 y.dels.length y.c1, .int .i64 y.first, .slice y.a2 y.lines.length y.c2] 84)) = wb at *
  cases h1 : (decide (x.kind = y.kind))
  · have HV : Hid (decide (x.key = y.key) = false) := by show _ = _; rw [osame_parts, h1]; simp
    have q1 : (x.kind == y.kind) = false := by simpa using h1
    have x_kind := fun d os => cell_regrown (op_cells HX.out).kind d os
    have x_first := fun d os => cell_regrown (op_cells HX.out).first d os
    have x_name := fun d os => cell_regrown (op_cells HX.out).name d os
    have x_dname := fun d os => cell_regrown (op_cells HX.out).dname d os
    have x_dels := fun d os => cell_regrown (op_cells HX.out).dels d os
    have x_lines := fun d os => cell_regrown (op_cells HX.out).lines d os
    have y_kind := fun d os => cell_regrown (op_cells HY.out).kind d os
    have y_first := fun d os => cell_regrown (op_cells HY.out).first d os
    have y_name := fun d os => cell_regrown (op_cells HY.out).name d os
    have y_dname := fun d os => cell_regrown (op_cells HY.out).dname d os
    have y_dels := fun d os => cell_regrown (op_cells HY.out).dels d os
    have y_lines := fun d os => cell_regrown (op_cells HY.out).lines d os
    have L1 := op_loaded HX.out
    have L2 := op_loaded HY.out
    refine wp_region_quiet_below (by kernel_rfl) (by kernel_rfl) ?_
    repeat (first | go_big_quiet_skip | (go_big_quiet_want; first | (refine quiet_load 84 _ rfl ⟨w.heap.size, 0, none⟩ rfl _ L1 ?_; simp only [Act.put, List.setIfInBounds_toArray, List.set_cons_succ, List.set_cons_zero]; go_big_quiet_on) | (refine quiet_load 84 _ rfl ⟨w.heap.size + 1, 0, none⟩ rfl _ L2 ?_; simp only [Act.put, List.setIfInBounds_toArray, List.set_cons_succ, List.set_cons_zero]; go_big_quiet_on) | (go_big_quiet_op; first | go_big_quiet_on | go_big_quiet_call (first | fail))))
    refine wpQuiet_nil ?_
    intro _ hw'
    obtain ⟨⟨dq, osq⟩, hw''⟩ := hw'
    subst hw''
    have HBR := Lib.hid (below_regrown wb dq osq)
    generalize grow (redrawn wb dq) osq = w1 at *
    have HF2 := Lib.hid (HF.out.trans (HBR.out.mono HF.out.size))
    clear HBR
    go_wp2
    go_ret
    rw [HV.out]
    exact ⟨rfl, HF2.out⟩
  · cases h2 : (decide (x.first = y.first))
    · have HV : Hid (decide (x.key = y.key) = false) := by show _ = _; rw [osame_parts, h1, h2]; simp
      have q1 : (x.kind == y.kind) = true := by simpa using h1
      have q2 : (x.first == y.first) = false := by simpa using h2
      have x_kind := fun d os => cell_regrown (op_cells HX.out).kind d os
      have x_first := fun d os => cell_regrown (op_cells HX.out).first d os
      have x_name := fun d os => cell_regrown (op_cells HX.out).name d os
      have x_dname := fun d os => cell_regrown (op_cells HX.out).dname d os
      have x_dels := fun d os => cell_regrown (op_cells HX.out).dels d os
      have x_lines := fun d os => cell_regrown (op_cells HX.out).lines d os
      have y_kind := fun d os => cell_regrown (op_cells HY.out).kind d os
      have y_first := fun d os => cell_regrown (op_cells HY.out).first d os
      have y_name := fun d os => cell_regrown (op_cells HY.out).name d os
      have y_dname := fun d os => cell_regrown (op_cells HY.out).dname d os
      have y_dels := fun d os => cell_regrown (op_cells HY.out).dels d os
      have y_lines := fun d os => cell_regrown (op_cells HY.out).lines d os
      have L1 := op_loaded HX.out
      have L2 := op_loaded HY.out
      refine wp_region_quiet_below (by kernel_rfl) (by kernel_rfl) ?_
      repeat (first | go_big_quiet_skip | (go_big_quiet_want; first | (refine quiet_load 84 _ rfl ⟨w.heap.size, 0, none⟩ rfl _ L1 ?_; simp only [Act.put, List.setIfInBounds_toArray, List.set_cons_succ, List.set_cons_zero]; go_big_quiet_on) | (refine quiet_load 84 _ rfl ⟨w.heap.size + 1, 0, none⟩ rfl _ L2 ?_; simp only [Act.put, List.setIfInBounds_toArray, List.set_cons_succ, List.set_cons_zero]; go_big_quiet_on) | (go_big_quiet_op; first | go_big_quiet_on | go_big_quiet_call (first | fail))))
      refine wpQuiet_nil ?_
      intro _ hw'
      obtain ⟨⟨dq, osq⟩, hw''⟩ := hw'
      subst hw''
      have HBR := Lib.hid (below_regrown wb dq osq)
      generalize grow (redrawn wb dq) osq = w1 at *
      have HF2 := Lib.hid (HF.out.trans (HBR.out.mono HF.out.size))
      clear HBR
      go_wp2
      go_ret
      rw [HV.out]
      exact ⟨rfl, HF2.out⟩
    · cases h3 : (decide (x.self = y.self) && (decide (x.parent = y.parent) && (decide (x.dst = y.dst) && (decide (x.left = y.left) && decide (x.right = y.right)))))
      · have HV : Hid (decide (x.key = y.key) = false) := by show _ = _; rw [osame_parts, h1, h2, h3]; simp
        have q1 : (x.kind == y.kind) = true := by simpa using h1
        have q2 : (x.first == y.first) = true := by simpa using h2
        have q3 : ∀ W, (binOp .eql 149 (.agg (five x.self x.parent x.dst x.left x.right)) (.agg (five y.self y.parent y.dst y.left y.right))).run Tryz.prog W = .ok (.bool false) W := fun W => by rw [eql_ids5, h3]
        have x_kind := fun d os => cell_regrown (op_cells HX.out).kind d os
        have x_first := fun d os => cell_regrown (op_cells HX.out).first d os
        have x_name := fun d os => cell_regrown (op_cells HX.out).name d os
        have x_dname := fun d os => cell_regrown (op_cells HX.out).dname d os
        have x_dels := fun d os => cell_regrown (op_cells HX.out).dels d os
        have x_lines := fun d os => cell_regrown (op_cells HX.out).lines d os
        have y_kind := fun d os => cell_regrown (op_cells HY.out).kind d os
        have y_first := fun d os => cell_regrown (op_cells HY.out).first d os
        have y_name := fun d os => cell_regrown (op_cells HY.out).name d os
        have y_dname := fun d os => cell_regrown (op_cells HY.out).dname d os
        have y_dels := fun d os => cell_regrown (op_cells HY.out).dels d os
        have y_lines := fun d os => cell_regrown (op_cells HY.out).lines d os
        have L1 := op_loaded HX.out
        have L2 := op_loaded HY.out
        have n3_0 := q_of (fun W (hW : Below wb.heap.size wb W) => opids_any x W)
        have n3_1 := q_of (fun W (hW : Below wb.heap.size wb W) => opids_any y W)
        refine wp_region_quiet_below (by kernel_rfl) (by kernel_rfl) ?_
        repeat (first | go_big_quiet_skip | (go_big_quiet_want; first | (refine quiet_load 84 _ rfl ⟨w.heap.size, 0, none⟩ rfl _ L1 ?_; simp only [Act.put, List.setIfInBounds_toArray, List.set_cons_succ, List.set_cons_zero]; go_big_quiet_on) | (refine quiet_load 84 _ rfl ⟨w.heap.size + 1, 0, none⟩ rfl _ L2 ?_; simp only [Act.put, List.setIfInBounds_toArray, List.set_cons_succ, List.set_cons_zero]; go_big_quiet_on) | (go_big_quiet_op; first | go_big_quiet_on | go_big_quiet_call (first | with_reducible exact n3_0 _ _ | with_reducible exact n3_1 _ _))))
        refine wpQuiet_nil ?_
        intro _ hw'
        obtain ⟨⟨dq, osq⟩, hw''⟩ := hw'
        subst hw''
        have HBR := Lib.hid (below_regrown wb dq osq)
        generalize grow (redrawn wb dq) osq = w1 at *
        have HF2 := Lib.hid (HF.out.trans (HBR.out.mono HF.out.size))
        clear HBR
        go_wp2
        go_ret
        rw [HV.out]
        exact ⟨rfl, HF2.out⟩
      · cases h4 : (decide (x.name = y.name))
        · have HV : Hid (decide (x.key = y.key) = false) := by show _ = _; rw [osame_parts, h1, h2, h3, h4]; simp
          have q1 : (x.kind == y.kind) = true := by simpa using h1
          have q2 : (x.first == y.first) = true := by simpa using h2
          have q3 : ∀ W, (binOp .eql 149 (.agg (five x.self x.parent x.dst x.left x.right)) (.agg (five y.self y.parent y.dst y.left y.right))).run Tryz.prog W = .ok (.bool true) W := fun W => by rw [eql_ids5, h3]
          have q4 : (x.name.toList == y.name.toList) = false := by rw [← h4]; exact str_beqd _ _
          have x_kind := fun d os => cell_regrown (op_cells HX.out).kind d os
          have x_first := fun d os => cell_regrown (op_cells HX.out).first d os
          have x_name := fun d os => cell_regrown (op_cells HX.out).name d os
          have x_dname := fun d os => cell_regrown (op_cells HX.out).dname d os
          have x_dels := fun d os => cell_regrown (op_cells HX.out).dels d os
          have x_lines := fun d os => cell_regrown (op_cells HX.out).lines d os
          have y_kind := fun d os => cell_regrown (op_cells HY.out).kind d os
          have y_first := fun d os => cell_regrown (op_cells HY.out).first d os
          have y_name := fun d os => cell_regrown (op_cells HY.out).name d os
          have y_dname := fun d os => cell_regrown (op_cells HY.out).dname d os
          have y_dels := fun d os => cell_regrown (op_cells HY.out).dels d os
          have y_lines := fun d os => cell_regrown (op_cells HY.out).lines d os
          have L1 := op_loaded HX.out
          have L2 := op_loaded HY.out
          have n4_0 := q_of (fun W (hW : Below wb.heap.size wb W) => opids_any x W)
          have n4_1 := q_of (fun W (hW : Below wb.heap.size wb W) => opids_any y W)
          refine wp_region_quiet_below (by kernel_rfl) (by kernel_rfl) ?_
          repeat (first | go_big_quiet_skip | (go_big_quiet_want; first | (refine quiet_load 84 _ rfl ⟨w.heap.size, 0, none⟩ rfl _ L1 ?_; simp only [Act.put, List.setIfInBounds_toArray, List.set_cons_succ, List.set_cons_zero]; go_big_quiet_on) | (refine quiet_load 84 _ rfl ⟨w.heap.size + 1, 0, none⟩ rfl _ L2 ?_; simp only [Act.put, List.setIfInBounds_toArray, List.set_cons_succ, List.set_cons_zero]; go_big_quiet_on) | (go_big_quiet_op; first | go_big_quiet_on | go_big_quiet_call (first | with_reducible exact n4_0 _ _ | with_reducible exact n4_1 _ _))))
          refine wpQuiet_nil ?_
          intro _ hw'
          obtain ⟨⟨dq, osq⟩, hw''⟩ := hw'
          subst hw''
          have HBR := Lib.hid (below_regrown wb dq osq)
          generalize grow (redrawn wb dq) osq = w1 at *
          have HF2 := Lib.hid (HF.out.trans (HBR.out.mono HF.out.size))
          clear HBR
          go_wp2
          go_ret
          rw [HV.out]
          exact ⟨rfl, HF2.out⟩
        · cases h5 : (decide (x.dname = y.dname))
          · have HV : Hid (decide (x.key = y.key) = false) := by show _ = _; rw [osame_parts, h1, h2, h3, h4, h5]; simp
            have q1 : (x.kind == y.kind) = true := by simpa using h1
            have q2 : (x.first == y.first) = true := by simpa using h2
            have q3 : ∀ W, (binOp .eql 149 (.agg (five x.self x.parent x.dst x.left x.right)) (.agg (five y.self y.parent y.dst y.left y.right))).run Tryz.prog W = .ok (.bool true) W := fun W => by rw [eql_ids5, h3]
            have q4 : (x.name.toList == y.name.toList) = true := by rw [← h4]; exact str_beqd _ _
            have q5 : (x.dname.toList == y.dname.toList) = false := by rw [← h5]; exact str_beqd _ _
            have x_kind := fun d os => cell_regrown (op_cells HX.out).kind d os
            have x_first := fun d os => cell_regrown (op_cells HX.out).first d os
            have x_name := fun d os => cell_regrown (op_cells HX.out).name d os
            have x_dname := fun d os => cell_regrown (op_cells HX.out).dname d os
            have x_dels := fun d os => cell_regrown (op_cells HX.out).dels d os
            have x_lines := fun d os => cell_regrown (op_cells HX.out).lines d os
            have y_kind := fun d os => cell_regrown (op_cells HY.out).kind d os
            have y_first := fun d os => cell_regrown (op_cells HY.out).first d os
            have y_name := fun d os => cell_regrown (op_cells HY.out).name d os
            have y_dname := fun d os => cell_regrown (op_cells HY.out).dname d os
            have y_dels := fun d os => cell_regrown (op_cells HY.out).dels d os
            have y_lines := fun d os => cell_regrown (op_cells HY.out).lines d os
            have L1 := op_loaded HX.out
            have L2 := op_loaded HY.out
            have n5_0 := q_of (fun W (hW : Below wb.heap.size wb W) => opids_any x W)
            have n5_1 := q_of (fun W (hW : Below wb.heap.size wb W) => opids_any y W)
            refine wp_region_quiet_below (by kernel_rfl) (by kernel_rfl) ?_
            repeat (first | go_big_quiet_skip | (go_big_quiet_want; first | (refine quiet_load 84 _ rfl ⟨w.heap.size, 0, none⟩ rfl _ L1 ?_; simp only [Act.put, List.setIfInBounds_toArray, List.set_cons_succ, List.set_cons_zero]; go_big_quiet_on) | (refine quiet_load 84 _ rfl ⟨w.heap.size + 1, 0, none⟩ rfl _ L2 ?_; simp only [Act.put, List.setIfInBounds_toArray, List.set_cons_succ, List.set_cons_zero]; go_big_quiet_on) | (go_big_quiet_op; first | go_big_quiet_on | go_big_quiet_call (first | with_reducible exact n5_0 _ _ | with_reducible exact n5_1 _ _))))
            refine wpQuiet_nil ?_
            intro _ hw'
            obtain ⟨⟨dq, osq⟩, hw''⟩ := hw'
            subst hw''
            have HBR := Lib.hid (below_regrown wb dq osq)
            generalize grow (redrawn wb dq) osq = w1 at *
            have HF2 := Lib.hid (HF.out.trans (HBR.out.mono HF.out.size))
            clear HBR
            go_wp2
            go_ret
            rw [HV.out]
            exact ⟨rfl, HF2.out⟩
          · cases h6 : (decide (x.dels = y.dels))
            · have HV : Hid (decide (x.key = y.key) = false) := by show _ = _; rw [osame_parts, h1, h2, h3, h4, h5, h6]; simp
              have q1 : (x.kind == y.kind) = true := by simpa using h1
              have q2 : (x.first == y.first) = true := by simpa using h2
              have q3 : ∀ W, (binOp .eql 149 (.agg (five x.self x.parent x.dst x.left x.right)) (.agg (five y.self y.parent y.dst y.left y.right))).run Tryz.prog W = .ok (.bool true) W := fun W => by rw [eql_ids5, h3]
              have q4 : (x.name.toList == y.name.toList) = true := by rw [← h4]; exact str_beqd _ _
              have q5 : (x.dname.toList == y.dname.toList) = true := by rw [← h5]; exact str_beqd _ _
              have x_kind := fun d os => cell_regrown (op_cells HX.out).kind d os
              have x_first := fun d os => cell_regrown (op_cells HX.out).first d os
              have x_name := fun d os => cell_regrown (op_cells HX.out).name d os
              have x_dname := fun d os => cell_regrown (op_cells HX.out).dname d os
              have x_dels := fun d os => cell_regrown (op_cells HX.out).dels d os
              have x_lines := fun d os => cell_regrown (op_cells HX.out).lines d os
              have y_kind := fun d os => cell_regrown (op_cells HY.out).kind d os
              have y_first := fun d os => cell_regrown (op_cells HY.out).first d os
              have y_name := fun d os => cell_regrown (op_cells HY.out).name d os
              have y_dname := fun d os => cell_regrown (op_cells HY.out).dname d os
              have y_dels := fun d os => cell_regrown (op_cells HY.out).dels d os
              have y_lines := fun d os => cell_regrown (op_cells HY.out).lines d os
              have L1 := op_loaded HX.out
              have L2 := op_loaded HY.out
              have n6_0 := q_of (fun W (hW : Below wb.heap.size wb W) => opids_any x W)
              have n6_1 := q_of (fun W (hW : Below wb.heap.size wb W) => opids_any y W)
              have n6_2 := q_of (fun W (hW : Below wb.heap.size wb W) => opeqidk_any x.a1 y.a1 x.dels y.dels x.c1 y.c1 W (OX.out.on hW).dels (OY.out.on hW).dels (by have := sx.few; omega) (by have := sy.few; omega) false h6)
              refine wp_region_quiet_below (by kernel_rfl) (by kernel_rfl) ?_
              repeat (first | go_big_quiet_skip | (go_big_quiet_want; first | (refine quiet_load 84 _ rfl ⟨w.heap.size, 0, none⟩ rfl _ L1 ?_; simp only [Act.put, List.setIfInBounds_toArray, List.set_cons_succ, List.set_cons_zero]; go_big_quiet_on) | (refine quiet_load 84 _ rfl ⟨w.heap.size + 1, 0, none⟩ rfl _ L2 ?_; simp only [Act.put, List.setIfInBounds_toArray, List.set_cons_succ, List.set_cons_zero]; go_big_quiet_on) | (go_big_quiet_op; first | go_big_quiet_on | go_big_quiet_call (first | with_reducible exact n6_0 _ _ | with_reducible exact n6_1 _ _ | with_reducible exact n6_2 _ _))))
              refine wpQuiet_nil ?_
              intro _ hw'
              obtain ⟨⟨dq, osq⟩, hw''⟩ := hw'
              subst hw''
              have HBR := Lib.hid (below_regrown wb dq osq)
              generalize grow (redrawn wb dq) osq = w1 at *
              have HF2 := Lib.hid (HF.out.trans (HBR.out.mono HF.out.size))
              clear HBR
              go_wp2
              go_ret
              rw [HV.out]
              exact ⟨rfl, HF2.out⟩
            · cases h7 : (decide (x.lines = y.lines))
              · have HV : Hid (decide (x.key = y.key) = false) := by show _ = _; rw [osame_parts, h1, h2, h3, h4, h5, h6, h7]; simp
                have q1 : (x.kind == y.kind) = true := by simpa using h1
                have q2 : (x.first == y.first) = true := by simpa using h2
                have q3 : ∀ W, (binOp .eql 149 (.agg (five x.self x.parent x.dst x.left x.right)) (.agg (five y.self y.parent y.dst y.left y.right))).run Tryz.prog W = .ok (.bool true) W := fun W => by rw [eql_ids5, h3]
                have q4 : (x.name.toList == y.name.toList) = true := by rw [← h4]; exact str_beqd _ _
                have q5 : (x.dname.toList == y.dname.toList) = true := by rw [← h5]; exact str_beqd _ _
                have x_kind := fun d os => cell_regrown (op_cells HX.out).kind d os
                have x_first := fun d os => cell_regrown (op_cells HX.out).first d os
                have x_name := fun d os => cell_regrown (op_cells HX.out).name d os
                have x_dname := fun d os => cell_regrown (op_cells HX.out).dname d os
                have x_dels := fun d os => cell_regrown (op_cells HX.out).dels d os
                have x_lines := fun d os => cell_regrown (op_cells HX.out).lines d os
                have y_kind := fun d os => cell_regrown (op_cells HY.out).kind d os
                have y_first := fun d os => cell_regrown (op_cells HY.out).first d os
                have y_name := fun d os => cell_regrown (op_cells HY.out).name d os
                have y_dname := fun d os => cell_regrown (op_cells HY.out).dname d os
                have y_dels := fun d os => cell_regrown (op_cells HY.out).dels d os
                have y_lines := fun d os => cell_regrown (op_cells HY.out).lines d os
                have L1 := op_loaded HX.out
                have L2 := op_loaded HY.out
                have n7_0 := q_of (fun W (hW : Below wb.heap.size wb W) => opids_any x W)
                have n7_1 := q_of (fun W (hW : Below wb.heap.size wb W) => opids_any y W)
                have n7_2 := q_of (fun W (hW : Below wb.heap.size wb W) => opeqidk_any x.a1 y.a1 x.dels y.dels x.c1 y.c1 W (OX.out.on hW).dels (OY.out.on hW).dels (by have := sx.few; omega) (by have := sy.few; omega) true h6)
                have n7_3 := q_of (fun W (hW : Below wb.heap.size wb W) => oplsame_any x.a2 y.a2 x.lines y.lines x.c2 y.c2 W (OX.out.on hW).lines (OY.out.on hW).lines sx.rows sy.rows false h7)
                refine wp_region_quiet_below (by kernel_rfl) (by kernel_rfl) ?_
                repeat (first | go_big_quiet_skip | (go_big_quiet_want; first | (refine quiet_load 84 _ rfl ⟨w.heap.size, 0, none⟩ rfl _ L1 ?_; simp only [Act.put, List.setIfInBounds_toArray, List.set_cons_succ, List.set_cons_zero]; go_big_quiet_on) | (refine quiet_load 84 _ rfl ⟨w.heap.size + 1, 0, none⟩ rfl _ L2 ?_; simp only [Act.put, List.setIfInBounds_toArray, List.set_cons_succ, List.set_cons_zero]; go_big_quiet_on) | (go_big_quiet_op; first | go_big_quiet_on | go_big_quiet_call (first | with_reducible exact n7_0 _ _ | with_reducible exact n7_1 _ _ | with_reducible exact n7_2 _ _ | with_reducible exact n7_3 _ _))))
                refine wpQuiet_nil ?_
                intro _ hw'
                obtain ⟨⟨dq, osq⟩, hw''⟩ := hw'
                subst hw''
                have HBR := Lib.hid (below_regrown wb dq osq)
                generalize grow (redrawn wb dq) osq = w1 at *
                have HF2 := Lib.hid (HF.out.trans (HBR.out.mono HF.out.size))
                clear HBR
                go_wp2
                go_ret
                rw [HV.out]
                exact ⟨rfl, HF2.out⟩
              · have HV : Hid (decide (x.key = y.key) = true) := by show _ = _; rw [osame_parts, h1, h2, h3, h4, h5, h6, h7]; simp
                have q1 : (x.kind == y.kind) = true := by simpa using h1
                have q2 : (x.first == y.first) = true := by simpa using h2
                have q3 : ∀ W, (binOp .eql 149 (.agg (five x.self x.parent x.dst x.left x.right)) (.agg (five y.self y.parent y.dst y.left y.right))).run Tryz.prog W = .ok (.bool true) W := fun W => by rw [eql_ids5, h3]
                have q4 : (x.name.toList == y.name.toList) = true := by rw [← h4]; exact str_beqd _ _
                have q5 : (x.dname.toList == y.dname.toList) = true := by rw [← h5]; exact str_beqd _ _
                have x_kind := fun d os => cell_regrown (op_cells HX.out).kind d os
                have x_first := fun d os => cell_regrown (op_cells HX.out).first d os
                have x_name := fun d os => cell_regrown (op_cells HX.out).name d os
                have x_dname := fun d os => cell_regrown (op_cells HX.out).dname d os
                have x_dels := fun d os => cell_regrown (op_cells HX.out).dels d os
                have x_lines := fun d os => cell_regrown (op_cells HX.out).lines d os
                have y_kind := fun d os => cell_regrown (op_cells HY.out).kind d os
                have y_first := fun d os => cell_regrown (op_cells HY.out).first d os
                have y_name := fun d os => cell_regrown (op_cells HY.out).name d os
                have y_dname := fun d os => cell_regrown (op_cells HY.out).dname d os
                have y_dels := fun d os => cell_regrown (op_cells HY.out).dels d os
                have y_lines := fun d os => cell_regrown (op_cells HY.out).lines d os
                have L1 := op_loaded HX.out
                have L2 := op_loaded HY.out
                have n8_0 := q_of (fun W (hW : Below wb.heap.size wb W) => opids_any x W)
                have n8_1 := q_of (fun W (hW : Below wb.heap.size wb W) => opids_any y W)
                have n8_2 := q_of (fun W (hW : Below wb.heap.size wb W) => opeqidk_any x.a1 y.a1 x.dels y.dels x.c1 y.c1 W (OX.out.on hW).dels (OY.out.on hW).dels (by have := sx.few; omega) (by have := sy.few; omega) true h6)
                have n8_3 := q_of (fun W (hW : Below wb.heap.size wb W) => oplsame_any x.a2 y.a2 x.lines y.lines x.c2 y.c2 W (OX.out.on hW).lines (OY.out.on hW).lines sx.rows sy.rows true h7)
                refine wp_region_quiet_below (by kernel_rfl) (by kernel_rfl) ?_
                repeat (first | go_big_quiet_skip | (go_big_quiet_want; first | (refine quiet_load 84 _ rfl ⟨w.heap.size, 0, none⟩ rfl _ L1 ?_; simp only [Act.put, List.setIfInBounds_toArray, List.set_cons_succ, List.set_cons_zero]; go_big_quiet_on) | (refine quiet_load 84 _ rfl ⟨w.heap.size + 1, 0, none⟩ rfl _ L2 ?_; simp only [Act.put, List.setIfInBounds_toArray, List.set_cons_succ, List.set_cons_zero]; go_big_quiet_on) | (go_big_quiet_op; first | go_big_quiet_on | go_big_quiet_call (first | with_reducible exact n8_0 _ _ | with_reducible exact n8_1 _ _ | with_reducible exact n8_2 _ _ | with_reducible exact n8_3 _ _))))
                refine wpQuiet_nil ?_
                intro _ hw'
                obtain ⟨⟨dq, osq⟩, hw''⟩ := hw'
                subst hw''
                have HBR := Lib.hid (below_regrown wb dq osq)
                generalize grow (redrawn wb dq) osq = w1 at *
                have HF2 := Lib.hid (HF.out.trans (HBR.out.mono HF.out.size))
                clear HBR
                go_wp2
                go_ret
                rw [HV.out]
                exact ⟨rfl, HF2.out⟩
theorem opsamek_any (x y : Om) (w : World) (ox : x.Ok w w.heap.size) (oy : y.Ok w w.heap.size) (sx : x.Sz) (sy : y.Sz) (r : Bool) (hr : decide (x.key = y.key) = r) :
    Calls Tryz.prog 122 #[.agg #[.int .i64 x.kind, .string x.self.p, .int .i64 x.self.n, .string x.parent.p, .int .i64 x.parent.n, .string x.dst.p, .int .i64 x.dst.n, .string x.name, .string x.dname, .string x.left.p, .int .i64 x.left.n, .string x.right.p, .int .i64 x.right.n, .slice x.a1 x.dels.length x.c1, .int .i64 x.first, .slice x.a2 x.lines.length x.c2], y.val] w fun e w' => e = .returned (.bool r) ∧ Below w.heap.size w w' := by
  subst hr
  exact opsame_any x y w ox oy sx sy
set_option maxHeartbeats 8000000 in
set_option maxRecDepth 100000 in
theorem opcheck_any (x : Om) (w : World) (ox : x.Ok w w.heap.size) (sx : x.Sz) (hT : Tabs w) :
    Calls Tryz.prog 100 #[.agg #[.int .i64 x.kind, .string x.self.p, .int .i64 x.self.n, .string x.parent.p, .int .i64 x.parent.n, .string x.dst.p, .int .i64 x.dst.n, .string x.name, .string x.dname, .string x.left.p, .int .i64 x.left.n, .string x.right.p, .int .i64 x.right.n, .slice x.a1 x.dels.length x.c1, .int .i64 x.first, .slice x.a2 x.lines.length x.c2]] w fun e w' => e = .returned (.int .i64 (if mayO x.key = true then 0 else 2)) ∧ Below w.heap.size w w' := by
  obtain ⟨hb, hx⟩ := op_box w x
  have HX := Lib.hid hx
  have HF := Lib.hid hb
  have OX := Lib.hid (ox.on hb)
  have HT := Lib.hid (Tabs.on hT hb)
  clear hb hx ox hT
  obtain ⟨rv, hrv⟩ : ∃ r : Int, (if mayO x.key = true then 0 else 2) = r := ⟨_, rfl⟩
  rw [hrv]
  have HRV := Lib.hid hrv
  clear hrv
  go_enter Tryz.func100, Tryz.ntmps100
  go_upto_region 1 with (fail)
  generalize (w.alloc (.cells #[.int .i64 x.kind, .string x.self.p, .int .i64 x.self.n, .string x.parent.p, .int .i64 x.parent.n, .string x.dst.p, .int .i64 x.dst.n, .string x.name, .string x.dname, .string x.left.p, .int .i64 x.left.n, .string x.right.p, .int .i64 x.right.n, .slice x.a1 x.dels.length x.c1, .int .i64 x.first, .slice x.a2 x.lines.length x.c2] 84)) = wb at *
  cases h1 : decide (x.key = ownedO x.key)
  · have HV : Hid (mayO x.key = false) := by show _ = _; rw [may_parts, h1]; rfl
    have L1 := op_loaded HX.out
    have n9_0 := q_of (fun W (hW : Below wb.heap.size wb W) => opowned_any x W)
    have n9_1 := q_of (fun W (hW : Below wb.heap.size wb W) => opsamek_any x (ownedM x) W (OX.out.on hW) (ownedM_ok (OX.out.on hW)) sx (ownedM_sz sx) false (by rw [ownedM_key]; exact h1))
    refine wp_region_quiet_below (by kernel_rfl) (by kernel_rfl) ?_
    repeat (first | go_big_quiet_skip | (go_big_quiet_want; first | (refine quiet_load 84 _ rfl ⟨w.heap.size, 0, none⟩ rfl _ L1 ?_; simp only [Act.put, List.setIfInBounds_toArray, List.set_cons_succ, List.set_cons_zero]; go_big_quiet_on) | (go_big_quiet_op; first | go_big_quiet_on | go_big_quiet_call (first | with_reducible exact n9_0 _ _ | with_reducible exact n9_1 _ _))))
    refine wpQuiet_nil ?_
    intro _ hw'
    obtain ⟨⟨dq, osq⟩, hw''⟩ := hw'
    subst hw''
    have HBR := Lib.hid (below_regrown wb dq osq)
    generalize grow (redrawn wb dq) osq = w1 at *
    have HF2 := Lib.hid (HF.out.trans (HBR.out.mono HF.out.size))
    clear HBR
    go_wp2
    go_ret
    rw [← HRV.out, HV.out]
    exact ⟨rfl, HF2.out⟩
  · cases h2 : formedO x.key
    · have HV : Hid (mayO x.key = false) := by show _ = _; rw [may_parts, h1, h2]; rfl
      have L1 := op_loaded HX.out
      have n10_0 := q_of (fun W (hW : Below wb.heap.size wb W) => opowned_any x W)
      have n10_1 := q_of (fun W (hW : Below wb.heap.size wb W) => opsamek_any x (ownedM x) W (OX.out.on hW) (ownedM_ok (OX.out.on hW)) sx (ownedM_sz sx) true (by rw [ownedM_key]; exact h1))
      have n10_2 := q_of (fun W (hW : Below wb.heap.size wb W) => opformed_any x W (OX.out.on hW) sx (Tabs.on HT.out hW) false h2)
      refine wp_region_quiet_below (by kernel_rfl) (by kernel_rfl) ?_
      repeat (first | go_big_quiet_skip | (go_big_quiet_want; first | (refine quiet_load 84 _ rfl ⟨w.heap.size, 0, none⟩ rfl _ L1 ?_; simp only [Act.put, List.setIfInBounds_toArray, List.set_cons_succ, List.set_cons_zero]; go_big_quiet_on) | (go_big_quiet_op; first | go_big_quiet_on | go_big_quiet_call (first | with_reducible exact n10_0 _ _ | with_reducible exact n10_1 _ _ | with_reducible exact n10_2 _ _))))
      refine wpQuiet_nil ?_
      intro _ hw'
      obtain ⟨⟨dq, osq⟩, hw''⟩ := hw'
      subst hw''
      have HBR := Lib.hid (below_regrown wb dq osq)
      generalize grow (redrawn wb dq) osq = w1 at *
      have HF2 := Lib.hid (HF.out.trans (HBR.out.mono HF.out.size))
      clear HBR
      go_wp2
      go_ret
      rw [← HRV.out, HV.out]
      exact ⟨rfl, HF2.out⟩
    · have HV : Hid (mayO x.key = true) := by show _ = _; rw [may_parts, h1, h2]; rfl
      have L1 := op_loaded HX.out
      have n11_0 := q_of (fun W (hW : Below wb.heap.size wb W) => opowned_any x W)
      have n11_1 := q_of (fun W (hW : Below wb.heap.size wb W) => opsamek_any x (ownedM x) W (OX.out.on hW) (ownedM_ok (OX.out.on hW)) sx (ownedM_sz sx) true (by rw [ownedM_key]; exact h1))
      have n11_2 := q_of (fun W (hW : Below wb.heap.size wb W) => opformed_any x W (OX.out.on hW) sx (Tabs.on HT.out hW) true h2)
      refine wp_region_quiet_below (by kernel_rfl) (by kernel_rfl) ?_
      repeat (first | go_big_quiet_skip | (go_big_quiet_want; first | (refine quiet_load 84 _ rfl ⟨w.heap.size, 0, none⟩ rfl _ L1 ?_; simp only [Act.put, List.setIfInBounds_toArray, List.set_cons_succ, List.set_cons_zero]; go_big_quiet_on) | (go_big_quiet_op; first | go_big_quiet_on | go_big_quiet_call (first | with_reducible exact n11_0 _ _ | with_reducible exact n11_1 _ _ | with_reducible exact n11_2 _ _))))
      refine wpQuiet_nil ?_
      intro _ hw'
      obtain ⟨⟨dq, osq⟩, hw''⟩ := hw'
      subst hw''
      have HBR := Lib.hid (below_regrown wb dq osq)
      generalize grow (redrawn wb dq) osq = w1 at *
      have HF2 := Lib.hid (HF.out.trans (HBR.out.mono HF.out.size))
      clear HBR
      go_wp2
      go_ret
      rw [← HRV.out, HV.out]
      exact ⟨rfl, HF2.out⟩
end Go.Proofs.YtifkpelcdihdoaaGreatDoor
namespace Go.Proofs.YtifkpelcdihdoaaGreatDoor
open Go.RowKit
open Go.Sort
set_option linter.unusedVariables false

theorem bytes_len (b : ByteArray) : b.data.toList.length = b.size := by simp
set_option maxHeartbeats 8000000 in
set_option maxRecDepth 100000 in
theorem opcheckr_any (x : Om) (w : World) (ox : x.Ok w w.heap.size) (sx : x.Sz) (hT : Tabs w) (r : Int) (hr : (if mayO x.key = true then 0 else 2) = r) :
    Calls Tryz.prog 100 #[.agg #[.int .i64 x.kind, .string x.self.p, .int .i64 x.self.n, .string x.parent.p, .int .i64 x.parent.n, .string x.dst.p, .int .i64 x.dst.n, .string x.name, .string x.dname, .string x.left.p, .int .i64 x.left.n, .string x.right.p, .int .i64 x.right.n, .slice x.a1 x.dels.length x.c1, .int .i64 x.first, .slice x.a2 x.lines.length x.c2]] w fun e w' => e = .returned (.int .i64 r) ∧ Below w.heap.size w w' := by
  subst hr
  exact opcheck_any x w ox sx hT
end Go.Proofs.YtifkpelcdihdoaaGreatDoor
namespace Go.Proofs.YtifkpelcdihdoaaGreatDoor
open Go.RowKit
set_option linter.unusedVariables false

theorem comes_few (p : List UInt8) (o : OpK) : (comesO p o).length ≤ 1 + o.lines.length := by
  unfold comesO
  split
  · simp
  · split
    · unfold rowI
      split
      · simp
      · simp
    · simp
theorem made_lines (p : List UInt8) : ∀ l : List OpK, (∀ o ∈ l, o.lines.length ≤ 60) → (madeP p l).length ≤ 61 * l.length
  | [], _ => by simp [madeP]
  | o :: l, h => by
    have h1 := made_lines p l fun q hq => h q (List.mem_cons_of_mem _ hq)
    have h2 := comes_few p o
    have h3 := h o (by simp)
    have e : madeP p (o :: l) = comesO p o ++ madeP p l := by simp [madeP]
    rw [e, List.length_append, List.length_cons]
    omega
theorem lt_sz {o : Om} (h : o.Lt) (k : o.In) : o.Sz := by
  have hl := light3B_len h.lines
  rw [toBs_len] at hl
  have ha := h.lines
  unfold light3B at ha
  simp only [Bool.and_eq_true, List.all_eq_true, decide_eq_true_eq] at ha
  exact ⟨by have := h.self; omega, by have := h.parent; omega, by have := h.dst; omega, by have := h.left; omega, by have := h.right; omega, by have := h.name; omega, by have := h.dname; omega, by have := h.few; omega, fun i hi => by have := h.dels i hi; omega, by omega, fun l hl => by
    have h1 := ha.1 (toB l) (List.mem_map.2 ⟨l, hl, rfl⟩)
    rw [toB_size] at h1
    omega⟩
theorem lt_lines {o : Om} (h : o.Lt) : o.lines.length ≤ 60 := by
  have hl := light3B_len h.lines
  rwa [toBs_len] at hl
/-- A light patch keeps to the reference's bounds. -/
theorem light_fit {x : Ptm} (h : x.Lt) (k : x.In) : x.Sz ∧ (madeP x.name.data.toList (okeys x.ops)).length ≤ 900000 ∧ OpsFew x.ops := by
  have h1 := h.name
  have h2 := h.few
  have h3 := h.many
  refine ⟨⟨by omega, by omega, fun d hd => by have := h.deps d hd; omega, by omega, fun o ho => lt_sz (h.ops o ho) (k.ops o ho)⟩, ?_, fun o ho => by have h4 := lt_sz (h.ops o ho) (k.ops o ho); exact ⟨h4.few, h4.rows⟩⟩
  have h5 := made_lines x.name.data.toList (okeys x.ops) (fun o ho => by
    obtain ⟨y, hy, rfl⟩ := List.mem_map.1 ho
    exact lt_lines (h.ops y hy))
  rw [okeys_len] at h5
  omega
end Go.Proofs.YtifkpelcdihdoaaGreatDoor
