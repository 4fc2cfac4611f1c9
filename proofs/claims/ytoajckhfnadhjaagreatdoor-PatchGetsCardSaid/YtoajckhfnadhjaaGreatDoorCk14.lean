/- A whole variable read in a region that is walked once, whatever its order: its value by a law, not cell by cell. Package op: Same, Check. code.Text. -/
import Derived.Lib.QuietBelow
import Derived.BigQuiet
import Derived.Deep.QuietTactic
import Derived.Handy
import Derived.Test.YtoajckhfnadhjaaGreatDoorCk13
namespace Go.Proofs.YtoajckhfnadhjaaGreatDoor
open Go.RowKit
open Go.Sort
set_option linter.unusedVariables false

theorem quiet_load {P : Program} {C : World → Prop} {K : Act → Prop} {o : Oper} {a : Act} (ty : TypeId) (x : Operand) (ho : o.op = .load ty x) (p : Addr) (hx : a.eval x = .pointer (some p)) (v : Value)
    (hv : ∀ w, C w → (loadVar ty p).run P w = .ok v w) (hk : K (a.put o.dst v)) : o.quiet P a C K :=
  ⟨v, fun w hw => by
    unfold Oper.quietAt execOp
    simp only [ho, hx, Instr.loadAt, Instr.sureAddr, Sem.run_bind, Sem.run_pure, Result.andThen_ok, hv w hw]
    exact ⟨rfl, rfl⟩, hk⟩
/-- An operation that lies in an old block, read in the worlds of 'quiet below'. -/
theorem op_loaded {wb : World} {g : Nat} {x : Om} (h : OpAt wb g x) : ∀ W, (∃ p : Regrown, W = grow (redrawn wb p.d) p.os) → (loadVar 42 ⟨g, 0, none⟩).run Tryz.prog W = .ok (.agg #[.int .i64 x.kind, .string x.self.p, .int .i64 x.self.n, .string x.parent.p, .int .i64 x.parent.n, .string x.dst.p, .int .i64 x.dst.n, .string x.name, .string x.dname, .string x.left.p, .int .i64 x.left.n, .string x.right.p, .int .i64 x.right.n, .slice x.a1 x.dels.length x.c1, .int .i64 x.first, .slice x.a2 x.lines.length x.c2]) W := by
  rintro _ ⟨p, rfl⟩
  exact load_op (h.on (below_regrown wb p.d p.os))
end Go.Proofs.YtoajckhfnadhjaaGreatDoor
namespace Go.Proofs.YtoajckhfnadhjaaGreatDoor
open Go.RowKit
open Go.Sort
set_option linter.unusedVariables false

theorem str_beqd (a b : ByteArray) : (a.toList == b.toList) = decide (a = b) := by
  by_cases h : a = b
  · rw [decide_eq_true h, h]
    exact str_eqb _
  · rw [decide_eq_false h]
    exact str_ne h
theorem osame_parts (x y : Om) : decide (x.key = y.key) = (decide (x.kind = y.kind) && (decide (x.first = y.first) && ((decide (x.self = y.self) && (decide (x.parent = y.parent) && (decide (x.dst = y.dst) && (decide (x.left = y.left) && decide (x.right = y.right))))) && (decide (x.name = y.name) && (decide (x.dname = y.dname) && (decide (x.dels = y.dels) && decide (x.lines = y.lines))))))) := by
  rw [Bool.eq_iff_iff]
  simp only [Bool.and_eq_true, decide_eq_true_eq]
  constructor
  · intro h
    exact ⟨congrArg OpK.kind h, congrArg OpK.first h, ⟨Im.key_inj (congrArg OpK.self h), Im.key_inj (congrArg OpK.parent h), Im.key_inj (congrArg OpK.dst h), Im.key_inj (congrArg OpK.left h), Im.key_inj (congrArg OpK.right h)⟩, bytes_inj (congrArg OpK.name h), bytes_inj (congrArg OpK.dname h), ikeys_inj (congrArg OpK.dels h), congrArg OpK.lines h⟩
  · rintro ⟨h1, h2, ⟨a1, a2, a3, a4, a5⟩, h4, h5, h6, h7⟩
    unfold Om.key
    rw [h1, h2, a1, a2, a3, a4, a5, h4, h5, h6, h7]
set_option maxHeartbeats 8000000 in
set_option maxRecDepth 100000 in
theorem opsame_any (x y : Om) (w : World) (ox : x.Ok w w.heap.size) (oy : y.Ok w w.heap.size) (sx : x.Sz) (sy : y.Sz) :
    Calls Tryz.prog 34 #[.agg #[.int .i64 x.kind, .string x.self.p, .int .i64 x.self.n, .string x.parent.p, .int .i64 x.parent.n, .string x.dst.p, .int .i64 x.dst.n, .string x.name, .string x.dname, .string x.left.p, .int .i64 x.left.n, .string x.right.p, .int .i64 x.right.n, .slice x.a1 x.dels.length x.c1, .int .i64 x.first, .slice x.a2 x.lines.length x.c2], .agg #[.int .i64 y.kind, .string y.self.p, .int .i64 y.self.n, .string y.parent.p, .int .i64 y.parent.n, .string y.dst.p, .int .i64 y.dst.n, .string y.name, .string y.dname, .string y.left.p, .int .i64 y.left.n, .string y.right.p, .int .i64 y.right.n, .slice y.a1 y.dels.length y.c1, .int .i64 y.first, .slice y.a2 y.lines.length y.c2]] w fun e w' => e = .returned (.bool (decide (x.key = y.key))) ∧ Below w.heap.size w w' := by
  obtain ⟨hb, hx, hy⟩ := op_box2 w x y
  have HX := Lib.hid hx
  have HY := Lib.hid hy
  have HF := Lib.hid hb
  have OX := Lib.hid (ox.on hb)
  have OY := Lib.hid (oy.on hb)
  clear hb hx hy ox oy
  go_enter Tryz.func34, Tryz.ntmps34
  go_upto_region 1 with (fail)
  generalize ((w.alloc (.cells #[.int .i64 x.kind, .string x.self.p, .int .i64 x.self.n, .string x.parent.p, .int .i64 x.parent.n, .string x.dst.p, .int .i64 x.dst.n, .string x.name, .string x.dname, .string x.left.p, .int .i64 x.left.n, .string x.right.p, .int .i64 x.right.n, .slice x.a1 x.dels.length x.c1, .int .i64 x.first, .slice x.a2 x.lines.length x.c2] 42)).alloc (.cells #[.int .i64 y.kind, .string y.self.p, .int .i64 y.self.n, .string y.parent.p, .int .i64 y.parent.n, .string y.dst.p, .int .i64 y.dst.n, .string y.name, .string y.dname, .string y.left.p, .int .i64 y.left.n, .string y.right.p, .int .i64 y.right.n, .slice y.a1 y.dels.length y.c1, .int .i64 y.first, .slice y.a2 y.lines.length y.c2] 42)) = wb at *
  cases h1 : (decide (x.kind = y.kind))
  · have HV : Hid (decide (x.key = y.key) = false) := by show _ = _; rw [osame_parts, h1]; simp
    have q1 : (x.kind == y.kind) = false := by simpa using h1
    have x_kind := fun d os => cell_regrown (op_cells HX.out).kind d os
    have x_first := fun d os => cell_regrown (op_cells HX.out).first d os
    have x_name := fun d os => cell_regrown (op_cells HX.out).name d os
    have x_dname := fun d os => cell_regrown (op_cells HX.out).dname d os
    have x_dels := fun d os => cell_regrown (op_cells HX.out).dels d os
    have x_lines := fun d os => cell_regrown (op_cells HX.out).lines d os
    have y_kind := fun d os => cell_regrown (op_cells HY.out).kind d os
    have y_first := fun d os => cell_regrown (op_cells HY.out).first d os
    have y_name := fun d os => cell_regrown (op_cells HY.out).name d os
    have y_dname := fun d os => cell_regrown (op_cells HY.out).dname d os
    have y_dels := fun d os => cell_regrown (op_cells HY.out).dels d os
    have y_lines := fun d os => cell_regrown (op_cells HY.out).lines d os
    have L1 := op_loaded HX.out
    have L2 := op_loaded HY.out
    refine wp_region_quiet_below (by kernel_rfl) (by kernel_rfl) ?_
    repeat (first | go_big_quiet_skip | (go_big_quiet_want; first | (refine quiet_load 42 _ rfl ⟨w.heap.size, 0, none⟩ rfl _ L1 ?_; simp only [Act.put, List.setIfInBounds_toArray, List.set_cons_succ, List.set_cons_zero]; go_big_quiet_on) | (refine quiet_load 42 _ rfl ⟨w.heap.size + 1, 0, none⟩ rfl _ L2 ?_; simp only [Act.put, List.setIfInBounds_toArray, List.set_cons_succ, List.set_cons_zero]; go_big_quiet_on) | (go_big_quiet_op; first | go_big_quiet_on | go_big_quiet_call (first | fail))))
    refine wpQuiet_nil ?_
    intro _ hw'
    obtain ⟨⟨dq, osq⟩, hw''⟩ := hw'
    subst hw''
    have HBR := Lib.hid (below_regrown wb dq osq)
    generalize grow (redrawn wb dq) osq = w1 at *
    have HF2 := Lib.hid (HF.out.trans (HBR.out.mono HF.out.size))
    clear HBR
    go_wp2
    go_ret
    rw [HV.out]
    exact ⟨rfl, HF2.out⟩
  · cases h2 : (decide (x.first = y.first))
    · have HV : Hid (decide (x.key = y.key) = false) := by show _ = _; rw [osame_parts, h1, h2]; simp
      have q1 : (x.kind == y.kind) = true := by simpa using h1
      have q2 : (x.first == y.first) = false := by simpa using h2
      have x_kind := fun d os => cell_regrown (op_cells HX.out).kind d os
      have x_first := fun d os => cell_regrown (op_cells HX.out).first d os
      have x_name := fun d os => cell_regrown (op_cells HX.out).name d os
      have x_dname := fun d os => cell_regrown (op_cells HX.out).dname d os
      have x_dels := fun d os => cell_regrown (op_cells HX.out).dels d os
      have x_lines := fun d os => cell_regrown (op_cells HX.out).lines d os
      have y_kind := fun d os => cell_regrown (op_cells HY.out).kind d os
      have y_first := fun d os => cell_regrown (op_cells HY.out).first d os
      have y_name := fun d os => cell_regrown (op_cells HY.out).name d os
      have y_dname := fun d os => cell_regrown (op_cells HY.out).dname d os
      have y_dels := fun d os => cell_regrown (op_cells HY.out).dels d os
      have y_lines := fun d os => cell_regrown (op_cells HY.out).lines d os
      have L1 := op_loaded HX.out
      have L2 := op_loaded HY.out
      refine wp_region_quiet_below (by kernel_rfl) (by kernel_rfl) ?_
      repeat (first | go_big_quiet_skip | (go_big_quiet_want; first | (refine quiet_load 42 _ rfl ⟨w.heap.size, 0, none⟩ rfl _ L1 ?_; simp only [Act.put, List.setIfInBounds_toArray, List.set_cons_succ, List.set_cons_zero]; go_big_quiet_on) | (refine quiet_load 42 _ rfl ⟨w.heap.size + 1, 0, none⟩ rfl _ L2 ?_; simp only [Act.put, List.setIfInBounds_toArray, List.set_cons_succ, List.set_cons_zero]; go_big_quiet_on) | (go_big_quiet_op; first | go_big_quiet_on | go_big_quiet_call (first | fail))))
      refine wpQuiet_nil ?_
      intro _ hw'
      obtain ⟨⟨dq, osq⟩, hw''⟩ := hw'
      subst hw''
      have HBR := Lib.hid (below_regrown wb dq osq)
      generalize grow (redrawn wb dq) osq = w1 at *
      have HF2 := Lib.hid (HF.out.trans (HBR.out.mono HF.out.size))
      clear HBR
      go_wp2
      go_ret
      rw [HV.out]
      exact ⟨rfl, HF2.out⟩
    · cases h3 : (decide (x.self = y.self) && (decide (x.parent = y.parent) && (decide (x.dst = y.dst) && (decide (x.left = y.left) && decide (x.right = y.right)))))
      · have HV : Hid (decide (x.key = y.key) = false) := by show _ = _; rw [osame_parts, h1, h2, h3]; simp
        have q1 : (x.kind == y.kind) = true := by simpa using h1
        have q2 : (x.first == y.first) = true := by simpa using h2
        have q3 : ∀ W, (binOp .eql 85 (.agg (five x.self x.parent x.dst x.left x.right)) (.agg (five y.self y.parent y.dst y.left y.right))).run Tryz.prog W = .ok (.bool false) W := fun W => by rw [eql_ids5, h3]
        have x_kind := fun d os => cell_regrown (op_cells HX.out).kind d os
        have x_first := fun d os => cell_regrown (op_cells HX.out).first d os
        have x_name := fun d os => cell_regrown (op_cells HX.out).name d os
        have x_dname := fun d os => cell_regrown (op_cells HX.out).dname d os
        have x_dels := fun d os => cell_regrown (op_cells HX.out).dels d os
        have x_lines := fun d os => cell_regrown (op_cells HX.out).lines d os
        have y_kind := fun d os => cell_regrown (op_cells HY.out).kind d os
        have y_first := fun d os => cell_regrown (op_cells HY.out).first d os
        have y_name := fun d os => cell_regrown (op_cells HY.out).name d os
        have y_dname := fun d os => cell_regrown (op_cells HY.out).dname d os
        have y_dels := fun d os => cell_regrown (op_cells HY.out).dels d os
        have y_lines := fun d os => cell_regrown (op_cells HY.out).lines d os
        have L1 := op_loaded HX.out
        have L2 := op_loaded HY.out
        have n3_0 := q_of (fun W (hW : Below wb.heap.size wb W) => opids_any x W)
        have n3_1 := q_of (fun W (hW : Below wb.heap.size wb W) => opids_any y W)
        refine wp_region_quiet_below (by kernel_rfl) (by kernel_rfl) ?_
        repeat (first | go_big_quiet_skip | (go_big_quiet_want; first | (refine quiet_load 42 _ rfl ⟨w.heap.size, 0, none⟩ rfl _ L1 ?_; simp only [Act.put, List.setIfInBounds_toArray, List.set_cons_succ, List.set_cons_zero]; go_big_quiet_on) | (refine quiet_load 42 _ rfl ⟨w.heap.size + 1, 0, none⟩ rfl _ L2 ?_; simp only [Act.put, List.setIfInBounds_toArray, List.set_cons_succ, List.set_cons_zero]; go_big_quiet_on) | (go_big_quiet_op; first | go_big_quiet_on | go_big_quiet_call (first | with_reducible exact n3_0 _ _ | with_reducible exact n3_1 _ _))))
        refine wpQuiet_nil ?_
        intro _ hw'
        obtain ⟨⟨dq, osq⟩, hw''⟩ := hw'
        subst hw''
        have HBR := Lib.hid (below_regrown wb dq osq)
        generalize grow (redrawn wb dq) osq = w1 at *
        have HF2 := Lib.hid (HF.out.trans (HBR.out.mono HF.out.size))
        clear HBR
        go_wp2
        go_ret
        rw [HV.out]
        exact ⟨rfl, HF2.out⟩
      · cases h4 : (decide (x.name = y.name))
        · have HV : Hid (decide (x.key = y.key) = false) := by show _ = _; rw [osame_parts, h1, h2, h3, h4]; simp
          have q1 : (x.kind == y.kind) = true := by simpa using h1
          have q2 : (x.first == y.first) = true := by simpa using h2
          have q3 : ∀ W, (binOp .eql 85 (.agg (five x.self x.parent x.dst x.left x.right)) (.agg (five y.self y.parent y.dst y.left y.right))).run Tryz.prog W = .ok (.bool true) W := fun W => by rw [eql_ids5, h3]
          have q4 : (x.name.toList == y.name.toList) = false := by rw [← h4]; exact str_beqd _ _
          have x_kind := fun d os => cell_regrown (op_cells HX.out).kind d os
          have x_first := fun d os => cell_regrown (op_cells HX.out).first d os
          have x_name := fun d os => cell_regrown (op_cells HX.out).name d os
          have x_dname := fun d os => cell_regrown (op_cells HX.out).dname d os
          have x_dels := fun d os => cell_regrown (op_cells HX.out).dels d os
          have x_lines := fun d os => cell_regrown (op_cells HX.out).lines d os
          have y_kind := fun d os => cell_regrown (op_cells HY.out).kind d os
          have y_first := fun d os => cell_regrown (op_cells HY.out).first d os
          have y_name := fun d os => cell_regrown (op_cells HY.out).name d os
          have y_dname := fun d os => cell_regrown (op_cells HY.out).dname d os
          have y_dels := fun d os => cell_regrown (op_cells HY.out).dels d os
          have y_lines := fun d os => cell_regrown (op_cells HY.out).lines d os
          have L1 := op_loaded HX.out
          have L2 := op_loaded HY.out
          have n4_0 := q_of (fun W (hW : Below wb.heap.size wb W) => opids_any x W)
          have n4_1 := q_of (fun W (hW : Below wb.heap.size wb W) => opids_any y W)
          refine wp_region_quiet_below (by kernel_rfl) (by kernel_rfl) ?_
          repeat (first | go_big_quiet_skip | (go_big_quiet_want; first | (refine quiet_load 42 _ rfl ⟨w.heap.size, 0, none⟩ rfl _ L1 ?_; simp only [Act.put, List.setIfInBounds_toArray, List.set_cons_succ, List.set_cons_zero]; go_big_quiet_on) | (refine quiet_load 42 _ rfl ⟨w.heap.size + 1, 0, none⟩ rfl _ L2 ?_; simp only [Act.put, List.setIfInBounds_toArray, List.set_cons_succ, List.set_cons_zero]; go_big_quiet_on) | (go_big_quiet_op; first | go_big_quiet_on | go_big_quiet_call (first | with_reducible exact n4_0 _ _ | with_reducible exact n4_1 _ _))))
          refine wpQuiet_nil ?_
          intro _ hw'
          obtain ⟨⟨dq, osq⟩, hw''⟩ := hw'
          subst hw''
          have HBR := Lib.hid (below_regrown wb dq osq)
          generalize grow (redrawn wb dq) osq = w1 at *
          have HF2 := Lib.hid (HF.out.trans (HBR.out.mono HF.out.size))
          clear HBR
          go_wp2
          go_ret
          rw [HV.out]
          exact ⟨rfl, HF2.out⟩
        · cases h5 : (decide (x.dname = y.dname))
          · have HV : Hid (decide (x.key = y.key) = false) := by show _ = _; rw [osame_parts, h1, h2, h3, h4, h5]; simp
            have q1 : (x.kind == y.kind) = true := by simpa using h1
            have q2 : (x.first == y.first) = true := by simpa using h2
            have q3 : ∀ W, (binOp .eql 85 (.agg (five x.self x.parent x.dst x.left x.right)) (.agg (five y.self y.parent y.dst y.left y.right))).run Tryz.prog W = .ok (.bool true) W := fun W => by rw [eql_ids5, h3]
            have q4 : (x.name.toList == y.name.toList) = true := by rw [← h4]; exact str_beqd _ _
            have q5 : (x.dname.toList == y.dname.toList) = false := by rw [← h5]; exact str_beqd _ _
            have x_kind := fun d os => cell_regrown (op_cells HX.out).kind d os
            have x_first := fun d os => cell_regrown (op_cells HX.out).first d os
            have x_name := fun d os => cell_regrown (op_cells HX.out).name d os
            have x_dname := fun d os => cell_regrown (op_cells HX.out).dname d os
            have x_dels := fun d os => cell_regrown (op_cells HX.out).dels d os
            have x_lines := fun d os => cell_regrown (op_cells HX.out).lines d os
            have y_kind := fun d os => cell_regrown (op_cells HY.out).kind d os
            have y_first := fun d os => cell_regrown (op_cells HY.out).first d os
            have y_name := fun d os => cell_regrown (op_cells HY.out).name d os
            have y_dname := fun d os => cell_regrown (op_cells HY.out).dname d os
            have y_dels := fun d os => cell_regrown (op_cells HY.out).dels d os
            have y_lines := fun d os => cell_regrown (op_cells HY.out).lines d os
            have L1 := op_loaded HX.out
            have L2 := op_loaded HY.out
            have n5_0 := q_of (fun W (hW : Below wb.heap.size wb W) => opids_any x W)
            have n5_1 := q_of (fun W (hW : Below wb.heap.size wb W) => opids_any y W)
            refine wp_region_quiet_below (by kernel_rfl) (by kernel_rfl) ?_
            repeat (first | go_big_quiet_skip | (go_big_quiet_want; first | (refine quiet_load 42 _ rfl ⟨w.heap.size, 0, none⟩ rfl _ L1 ?_; simp only [Act.put, List.setIfInBounds_toArray, List.set_cons_succ, List.set_cons_zero]; go_big_quiet_on) | (refine quiet_load 42 _ rfl ⟨w.heap.size + 1, 0, none⟩ rfl _ L2 ?_; simp only [Act.put, List.setIfInBounds_toArray, List.set_cons_succ, List.set_cons_zero]; go_big_quiet_on) | (go_big_quiet_op; first | go_big_quiet_on | go_big_quiet_call (first | with_reducible exact n5_0 _ _ | with_reducible exact n5_1 _ _))))
            refine wpQuiet_nil ?_
            intro _ hw'
            obtain ⟨⟨dq, osq⟩, hw''⟩ := hw'
            subst hw''
            have HBR := Lib.hid (below_regrown wb dq osq)
            generalize grow (redrawn wb dq) osq = w1 at *
            have HF2 := Lib.hid (HF.out.trans (HBR.out.mono HF.out.size))
            clear HBR
            go_wp2
            go_ret
            rw [HV.out]
            exact ⟨rfl, HF2.out⟩
          · cases h6 : (decide (x.dels = y.dels))
            · have HV : Hid (decide (x.key = y.key) = false) := by show _ = _; rw [osame_parts, h1, h2, h3, h4, h5, h6]; simp
              have q1 : (x.kind == y.kind) = true := by simpa using h1
              have q2 : (x.first == y.first) = true := by simpa using h2
              have q3 : ∀ W, (binOp .eql 85 (.agg (five x.self x.parent x.dst x.left x.right)) (.agg (five y.self y.parent y.dst y.left y.right))).run Tryz.prog W = .ok (.bool true) W := fun W => by rw [eql_ids5, h3]
              have q4 : (x.name.toList == y.name.toList) = true := by rw [← h4]; exact str_beqd _ _
              have q5 : (x.dname.toList == y.dname.toList) = true := by rw [← h5]; exact str_beqd _ _
              have x_kind := fun d os => cell_regrown (op_cells HX.out).kind d os
              have x_first := fun d os => cell_regrown (op_cells HX.out).first d os
              have x_name := fun d os => cell_regrown (op_cells HX.out).name d os
              have x_dname := fun d os => cell_regrown (op_cells HX.out).dname d os
              have x_dels := fun d os => cell_regrown (op_cells HX.out).dels d os
              have x_lines := fun d os => cell_regrown (op_cells HX.out).lines d os
              have y_kind := fun d os => cell_regrown (op_cells HY.out).kind d os
              have y_first := fun d os => cell_regrown (op_cells HY.out).first d os
              have y_name := fun d os => cell_regrown (op_cells HY.out).name d os
              have y_dname := fun d os => cell_regrown (op_cells HY.out).dname d os
              have y_dels := fun d os => cell_regrown (op_cells HY.out).dels d os
              have y_lines := fun d os => cell_regrown (op_cells HY.out).lines d os
              have L1 := op_loaded HX.out
              have L2 := op_loaded HY.out
              have n6_0 := q_of (fun W (hW : Below wb.heap.size wb W) => opids_any x W)
              have n6_1 := q_of (fun W (hW : Below wb.heap.size wb W) => opids_any y W)
              have n6_2 := q_of (fun W (hW : Below wb.heap.size wb W) => opeqidk_any x.a1 y.a1 x.dels y.dels x.c1 y.c1 W (OX.out.on hW).dels (OY.out.on hW).dels (by have := sx.few; omega) (by have := sy.few; omega) false h6)
              refine wp_region_quiet_below (by kernel_rfl) (by kernel_rfl) ?_
              repeat (first | go_big_quiet_skip | (go_big_quiet_want; first | (refine quiet_load 42 _ rfl ⟨w.heap.size, 0, none⟩ rfl _ L1 ?_; simp only [Act.put, List.setIfInBounds_toArray, List.set_cons_succ, List.set_cons_zero]; go_big_quiet_on) | (refine quiet_load 42 _ rfl ⟨w.heap.size + 1, 0, none⟩ rfl _ L2 ?_; simp only [Act.put, List.setIfInBounds_toArray, List.set_cons_succ, List.set_cons_zero]; go_big_quiet_on) | (go_big_quiet_op; first | go_big_quiet_on | go_big_quiet_call (first | with_reducible exact n6_0 _ _ | with_reducible exact n6_1 _ _ | with_reducible exact n6_2 _ _))))
              refine wpQuiet_nil ?_
              intro _ hw'
              obtain ⟨⟨dq, osq⟩, hw''⟩ := hw'
              subst hw''
              have HBR := Lib.hid (below_regrown wb dq osq)
              generalize grow (redrawn wb dq) osq = w1 at *
              have HF2 := Lib.hid (HF.out.trans (HBR.out.mono HF.out.size))
              clear HBR
              go_wp2
              go_ret
              rw [HV.out]
              exact ⟨rfl, HF2.out⟩
            · cases h7 : (decide (x.lines = y.lines))
              · have HV : Hid (decide (x.key = y.key) = false) := by show _ = _; rw [osame_parts, h1, h2, h3, h4, h5, h6, h7]; simp
                have q1 : (x.kind == y.kind) = true := by simpa using h1
                have q2 : (x.first == y.first) = true := by simpa using h2
                have q3 : ∀ W, (binOp .eql 85 (.agg (five x.self x.parent x.dst x.left x.right)) (.agg (five y.self y.parent y.dst y.left y.right))).run Tryz.prog W = .ok (.bool true) W := fun W => by rw [eql_ids5, h3]
                have q4 : (x.name.toList == y.name.toList) = true := by rw [← h4]; exact str_beqd _ _
                have q5 : (x.dname.toList == y.dname.toList) = true := by rw [← h5]; exact str_beqd _ _
                have x_kind := fun d os => cell_regrown (op_cells HX.out).kind d os
                have x_first := fun d os => cell_regrown (op_cells HX.out).first d os
                have x_name := fun d os => cell_regrown (op_cells HX.out).name d os
                have x_dname := fun d os => cell_regrown (op_cells HX.out).dname d os
                have x_dels := fun d os => cell_regrown (op_cells HX.out).dels d os
                have x_lines := fun d os => cell_regrown (op_cells HX.out).lines d os
                have y_kind := fun d os => cell_regrown (op_cells HY.out).kind d os
                have y_first := fun d os => cell_regrown (op_cells HY.out).first d os
                have y_name := fun d os => cell_regrown (op_cells HY.out).name d os
                have y_dname := fun d os => cell_regrown (op_cells HY.out).dname d os
                have y_dels := fun d os => cell_regrown (op_cells HY.out).dels d os
                have y_lines := fun d os => cell_regrown (op_cells HY.out).lines d os
                have L1 := op_loaded HX.out
                have L2 := op_loaded HY.out
                have n7_0 := q_of (fun W (hW : Below wb.heap.size wb W) => opids_any x W)
                have n7_1 := q_of (fun W (hW : Below wb.heap.size wb W) => opids_any y W)
                have n7_2 := q_of (fun W (hW : Below wb.heap.size wb W) => opeqidk_any x.a1 y.a1 x.dels y.dels x.c1 y.c1 W (OX.out.on hW).dels (OY.out.on hW).dels (by have := sx.few; omega) (by have := sy.few; omega) true h6)
                have n7_3 := q_of (fun W (hW : Below wb.heap.size wb W) => oplsame_any x.a2 y.a2 x.lines y.lines x.c2 y.c2 W (OX.out.on hW).lines (OY.out.on hW).lines sx.rows sy.rows false h7)
                refine wp_region_quiet_below (by kernel_rfl) (by kernel_rfl) ?_
                repeat (first | go_big_quiet_skip | (go_big_quiet_want; first | (refine quiet_load 42 _ rfl ⟨w.heap.size, 0, none⟩ rfl _ L1 ?_; simp only [Act.put, List.setIfInBounds_toArray, List.set_cons_succ, List.set_cons_zero]; go_big_quiet_on) | (refine quiet_load 42 _ rfl ⟨w.heap.size + 1, 0, none⟩ rfl _ L2 ?_; simp only [Act.put, List.setIfInBounds_toArray, List.set_cons_succ, List.set_cons_zero]; go_big_quiet_on) | (go_big_quiet_op; first | go_big_quiet_on | go_big_quiet_call (first | with_reducible exact n7_0 _ _ | with_reducible exact n7_1 _ _ | with_reducible exact n7_2 _ _ | with_reducible exact n7_3 _ _))))
                refine wpQuiet_nil ?_
                intro _ hw'
                obtain ⟨⟨dq, osq⟩, hw''⟩ := hw'
                subst hw''
                have HBR := Lib.hid (below_regrown wb dq osq)
                generalize grow (redrawn wb dq) osq = w1 at *
                have HF2 := Lib.hid (HF.out.trans (HBR.out.mono HF.out.size))
                clear HBR
                go_wp2
                go_ret
                rw [HV.out]
                exact ⟨rfl, HF2.out⟩
              · have HV : Hid (decide (x.key = y.key) = true) := by show _ = _; rw [osame_parts, h1, h2, h3, h4, h5, h6, h7]; simp
                have q1 : (x.kind == y.kind) = true := by simpa using h1
                have q2 : (x.first == y.first) = true := by simpa using h2
                have q3 : ∀ W, (binOp .eql 85 (.agg (five x.self x.parent x.dst x.left x.right)) (.agg (five y.self y.parent y.dst y.left y.right))).run Tryz.prog W = .ok (.bool true) W := fun W => by rw [eql_ids5, h3]
                have q4 : (x.name.toList == y.name.toList) = true := by rw [← h4]; exact str_beqd _ _
                have q5 : (x.dname.toList == y.dname.toList) = true := by rw [← h5]; exact str_beqd _ _
                have x_kind := fun d os => cell_regrown (op_cells HX.out).kind d os
                have x_first := fun d os => cell_regrown (op_cells HX.out).first d os
                have x_name := fun d os => cell_regrown (op_cells HX.out).name d os
                have x_dname := fun d os => cell_regrown (op_cells HX.out).dname d os
                have x_dels := fun d os => cell_regrown (op_cells HX.out).dels d os
                have x_lines := fun d os => cell_regrown (op_cells HX.out).lines d os
                have y_kind := fun d os => cell_regrown (op_cells HY.out).kind d os
                have y_first := fun d os => cell_regrown (op_cells HY.out).first d os
                have y_name := fun d os => cell_regrown (op_cells HY.out).name d os
                have y_dname := fun d os => cell_regrown (op_cells HY.out).dname d os
                have y_dels := fun d os => cell_regrown (op_cells HY.out).dels d os
                have y_lines := fun d os => cell_regrown (op_cells HY.out).lines d os
                have L1 := op_loaded HX.out
                have L2 := op_loaded HY.out
                have n8_0 := q_of (fun W (hW : Below wb.heap.size wb W) => opids_any x W)
                have n8_1 := q_of (fun W (hW : Below wb.heap.size wb W) => opids_any y W)
                have n8_2 := q_of (fun W (hW : Below wb.heap.size wb W) => opeqidk_any x.a1 y.a1 x.dels y.dels x.c1 y.c1 W (OX.out.on hW).dels (OY.out.on hW).dels (by have := sx.few; omega) (by have := sy.few; omega) true h6)
                have n8_3 := q_of (fun W (hW : Below wb.heap.size wb W) => oplsame_any x.a2 y.a2 x.lines y.lines x.c2 y.c2 W (OX.out.on hW).lines (OY.out.on hW).lines sx.rows sy.rows true h7)
                refine wp_region_quiet_below (by kernel_rfl) (by kernel_rfl) ?_
                repeat (first | go_big_quiet_skip | (go_big_quiet_want; first | (refine quiet_load 42 _ rfl ⟨w.heap.size, 0, none⟩ rfl _ L1 ?_; simp only [Act.put, List.setIfInBounds_toArray, List.set_cons_succ, List.set_cons_zero]; go_big_quiet_on) | (refine quiet_load 42 _ rfl ⟨w.heap.size + 1, 0, none⟩ rfl _ L2 ?_; simp only [Act.put, List.setIfInBounds_toArray, List.set_cons_succ, List.set_cons_zero]; go_big_quiet_on) | (go_big_quiet_op; first | go_big_quiet_on | go_big_quiet_call (first | with_reducible exact n8_0 _ _ | with_reducible exact n8_1 _ _ | with_reducible exact n8_2 _ _ | with_reducible exact n8_3 _ _))))
                refine wpQuiet_nil ?_
                intro _ hw'
                obtain ⟨⟨dq, osq⟩, hw''⟩ := hw'
                subst hw''
                have HBR := Lib.hid (below_regrown wb dq osq)
                generalize grow (redrawn wb dq) osq = w1 at *
                have HF2 := Lib.hid (HF.out.trans (HBR.out.mono HF.out.size))
                clear HBR
                go_wp2
                go_ret
                rw [HV.out]
                exact ⟨rfl, HF2.out⟩
theorem opsamek_any (x y : Om) (w : World) (ox : x.Ok w w.heap.size) (oy : y.Ok w w.heap.size) (sx : x.Sz) (sy : y.Sz) (r : Bool) (hr : decide (x.key = y.key) = r) :
    Calls Tryz.prog 34 #[.agg #[.int .i64 x.kind, .string x.self.p, .int .i64 x.self.n, .string x.parent.p, .int .i64 x.parent.n, .string x.dst.p, .int .i64 x.dst.n, .string x.name, .string x.dname, .string x.left.p, .int .i64 x.left.n, .string x.right.p, .int .i64 x.right.n, .slice x.a1 x.dels.length x.c1, .int .i64 x.first, .slice x.a2 x.lines.length x.c2], y.val] w fun e w' => e = .returned (.bool r) ∧ Below w.heap.size w w' := by
  subst hr
  exact opsame_any x y w ox oy sx sy
set_option maxHeartbeats 8000000 in
set_option maxRecDepth 100000 in
theorem opcheck_any (x : Om) (w : World) (ox : x.Ok w w.heap.size) (sx : x.Sz) (hT : Tabs w) :
    Calls Tryz.prog 83 #[.agg #[.int .i64 x.kind, .string x.self.p, .int .i64 x.self.n, .string x.parent.p, .int .i64 x.parent.n, .string x.dst.p, .int .i64 x.dst.n, .string x.name, .string x.dname, .string x.left.p, .int .i64 x.left.n, .string x.right.p, .int .i64 x.right.n, .slice x.a1 x.dels.length x.c1, .int .i64 x.first, .slice x.a2 x.lines.length x.c2]] w fun e w' => e = .returned (.int .i64 (if mayO x.key = true then 0 else 2)) ∧ Below w.heap.size w w' := by
  obtain ⟨hb, hx⟩ := op_box w x
  have HX := Lib.hid hx
  have HF := Lib.hid hb
  have OX := Lib.hid (ox.on hb)
  have HT := Lib.hid (Tabs.on hT hb)
  clear hb hx ox hT
  obtain ⟨rv, hrv⟩ : ∃ r : Int, (if mayO x.key = true then 0 else 2) = r := ⟨_, rfl⟩
  rw [hrv]
  have HRV := Lib.hid hrv
  clear hrv
  go_enter Tryz.func83, Tryz.ntmps83
  go_upto_region 1 with (fail)
  generalize (w.alloc (.cells #[.int .i64 x.kind, .string x.self.p, .int .i64 x.self.n, .string x.parent.p, .int .i64 x.parent.n, .string x.dst.p, .int .i64 x.dst.n, .string x.name, .string x.dname, .string x.left.p, .int .i64 x.left.n, .string x.right.p, .int .i64 x.right.n, .slice x.a1 x.dels.length x.c1, .int .i64 x.first, .slice x.a2 x.lines.length x.c2] 42)) = wb at *
  cases h1 : decide (x.key = ownedO x.key)
  · have HV : Hid (mayO x.key = false) := by show _ = _; rw [may_parts, h1]; rfl
    have L1 := op_loaded HX.out
    have n9_0 := q_of (fun W (hW : Below wb.heap.size wb W) => opowned_any x W)
    have n9_1 := q_of (fun W (hW : Below wb.heap.size wb W) => opsamek_any x (ownedM x) W (OX.out.on hW) (ownedM_ok (OX.out.on hW)) sx (ownedM_sz sx) false (by rw [ownedM_key]; exact h1))
    refine wp_region_quiet_below (by kernel_rfl) (by kernel_rfl) ?_
    repeat (first | go_big_quiet_skip | (go_big_quiet_want; first | (refine quiet_load 42 _ rfl ⟨w.heap.size, 0, none⟩ rfl _ L1 ?_; simp only [Act.put, List.setIfInBounds_toArray, List.set_cons_succ, List.set_cons_zero]; go_big_quiet_on) | (go_big_quiet_op; first | go_big_quiet_on | go_big_quiet_call (first | with_reducible exact n9_0 _ _ | with_reducible exact n9_1 _ _))))
    refine wpQuiet_nil ?_
    intro _ hw'
    obtain ⟨⟨dq, osq⟩, hw''⟩ := hw'
    subst hw''
    have HBR := Lib.hid (below_regrown wb dq osq)
    generalize grow (redrawn wb dq) osq = w1 at *
    have HF2 := Lib.hid (HF.out.trans (HBR.out.mono HF.out.size))
    clear HBR
    go_wp2
    go_ret
    rw [← HRV.out, HV.out]
    exact ⟨rfl, HF2.out⟩
  · cases h2 : formedO x.key
    · have HV : Hid (mayO x.key = false) := by show _ = _; rw [may_parts, h1, h2]; rfl
      have L1 := op_loaded HX.out
      have n10_0 := q_of (fun W (hW : Below wb.heap.size wb W) => opowned_any x W)
      have n10_1 := q_of (fun W (hW : Below wb.heap.size wb W) => opsamek_any x (ownedM x) W (OX.out.on hW) (ownedM_ok (OX.out.on hW)) sx (ownedM_sz sx) true (by rw [ownedM_key]; exact h1))
      have n10_2 := q_of (fun W (hW : Below wb.heap.size wb W) => opformed_any x W (OX.out.on hW) sx (Tabs.on HT.out hW) false h2)
      refine wp_region_quiet_below (by kernel_rfl) (by kernel_rfl) ?_
      repeat (first | go_big_quiet_skip | (go_big_quiet_want; first | (refine quiet_load 42 _ rfl ⟨w.heap.size, 0, none⟩ rfl _ L1 ?_; simp only [Act.put, List.setIfInBounds_toArray, List.set_cons_succ, List.set_cons_zero]; go_big_quiet_on) | (go_big_quiet_op; first | go_big_quiet_on | go_big_quiet_call (first | with_reducible exact n10_0 _ _ | with_reducible exact n10_1 _ _ | with_reducible exact n10_2 _ _))))
      refine wpQuiet_nil ?_
      intro _ hw'
      obtain ⟨⟨dq, osq⟩, hw''⟩ := hw'
      subst hw''
      have HBR := Lib.hid (below_regrown wb dq osq)
      generalize grow (redrawn wb dq) osq = w1 at *
      have HF2 := Lib.hid (HF.out.trans (HBR.out.mono HF.out.size))
      clear HBR
      go_wp2
      go_ret
      rw [← HRV.out, HV.out]
      exact ⟨rfl, HF2.out⟩
    · have HV : Hid (mayO x.key = true) := by show _ = _; rw [may_parts, h1, h2]; rfl
      have L1 := op_loaded HX.out
      have n11_0 := q_of (fun W (hW : Below wb.heap.size wb W) => opowned_any x W)
      have n11_1 := q_of (fun W (hW : Below wb.heap.size wb W) => opsamek_any x (ownedM x) W (OX.out.on hW) (ownedM_ok (OX.out.on hW)) sx (ownedM_sz sx) true (by rw [ownedM_key]; exact h1))
      have n11_2 := q_of (fun W (hW : Below wb.heap.size wb W) => opformed_any x W (OX.out.on hW) sx (Tabs.on HT.out hW) true h2)
      refine wp_region_quiet_below (by kernel_rfl) (by kernel_rfl) ?_
      repeat (first | go_big_quiet_skip | (go_big_quiet_want; first | (refine quiet_load 42 _ rfl ⟨w.heap.size, 0, none⟩ rfl _ L1 ?_; simp only [Act.put, List.setIfInBounds_toArray, List.set_cons_succ, List.set_cons_zero]; go_big_quiet_on) | (go_big_quiet_op; first | go_big_quiet_on | go_big_quiet_call (first | with_reducible exact n11_0 _ _ | with_reducible exact n11_1 _ _ | with_reducible exact n11_2 _ _))))
      refine wpQuiet_nil ?_
      intro _ hw'
      obtain ⟨⟨dq, osq⟩, hw''⟩ := hw'
      subst hw''
      have HBR := Lib.hid (below_regrown wb dq osq)
      generalize grow (redrawn wb dq) osq = w1 at *
      have HF2 := Lib.hid (HF.out.trans (HBR.out.mono HF.out.size))
      clear HBR
      go_wp2
      go_ret
      rw [← HRV.out, HV.out]
      exact ⟨rfl, HF2.out⟩
end Go.Proofs.YtoajckhfnadhjaaGreatDoor
namespace Go.Proofs.YtoajckhfnadhjaaGreatDoor
open Go.RowKit
set_option linter.unusedVariables false

set_option maxRecDepth 100000 in
theorem text_any (s : ByteArray) (w : World) (hs : s.size ≤ 140737488351232) :
    Calls Tryz.prog 24 #[.string s] w fun e w' => e = .returned (.string ⟨(textB s.data.toList).toArray⟩) ∧ Below w.heap.size w w' := by
  have hl := numB_len s.size
  go_enter Tryz.func24, Tryz.ntmps24
  go_wp2_with (go_at_call 59; refine (size_any _ _ (by omega) (by omega)).mono ?_; rintro e w1 ⟨rfl, hb1⟩)
  refine (layer_any ⟨(numB s.size).toArray⟩ _ (by rw [size_mk]; omega)).mono ?_
  rintro e w2 ⟨rfl, hh, hb2⟩
  have hsz1 := hb1.size
  have hsz2 := hb2.size
  have hh2 : Hid (Holds w1.heap.size w1.heap.size (numB s.size) (w2.alloc (.cells #[.string s] 9))) := hh.below ((Below.refl _ _).alloc (Nat.le_refl _) _)
  have hr := strRow_new1 w2 s
  have hlen : (numB s.size).length + (flat [s]).length ≤ 140737488355328 := by simp [flat]; omega
  clear hh
  go_wp2_with (go_at_call 87; refine (lay_any w1.heap.size w1.heap.size (numB s.size) _ [s] 1 _ hh2.out hr hlen (by simp) (by simp; omega)).mono ?_)
  rintro e w3 ⟨rfl, hh3, hb3, ho3⟩
  go_wp2
  go_ret
  refine ⟨by simp [textB, flat], ?_⟩
  exact hb1.trans (((hb2.alloc (by omega) _).trans hb3).mono hsz1)
end Go.Proofs.YtoajckhfnadhjaaGreatDoor
