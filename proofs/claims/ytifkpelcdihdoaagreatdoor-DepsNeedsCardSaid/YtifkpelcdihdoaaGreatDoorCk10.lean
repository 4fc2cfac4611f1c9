/- Package op: what a hunk stands between, what is formed. -/
import Derived.BigQuiet
import Derived.Deep.QuietTactic
import Derived.Handy
import Derived.Deep.CutRange
import Derived.Test.YtifkpelcdihdoaaGreatDoorCk07
import Derived.Test.YtifkpelcdihdoaaGreatDoorCk09
namespace Go.Proofs.YtifkpelcdihdoaaGreatDoor
open Go.RowKit
open Go.Sort
set_option linter.unusedVariables false

theorem begin_iff (x : Im) (n : Int) : decide (x = ⟨⟨#[]⟩, n⟩) = decide (x.key = ([], n)) := decide_eq_decide.2 ⟨fun h => by rw [h]; rfl, fun h => Im.key_inj h⟩
theorem span_parts (o : OpK) : spannedO o = (((decide (o.left = ([], 1)) || madeI o.left) && (decide (o.right = ([], 2)) || madeI o.right)) && (o.dels.all madeI && decide ((setI (o.left :: o.right :: o.dels)).length = (o.left :: o.right :: o.dels).length))) := by
  unfold spannedO
  rw [Bool.and_assoc]
theorem made_all {l : List Im} (h : ∀ j (hj : j < l.length), madeI l[j].key = true) : (ikeys l).all madeI = true := by
  rw [List.all_eq_true]
  intro k hk
  obtain ⟨i, hi, rfl⟩ := List.mem_map.1 hk
  obtain ⟨j, hj, rfl⟩ := List.getElem_of_mem hi
  exact h j hj
theorem made_not {l : List Im} {j : Nat} (hj : j < l.length) (h : madeI l[j].key = false) : (ikeys l).all madeI = false := by
  rw [List.all_eq_false]
  exact ⟨l[j].key, List.mem_map.2 ⟨_, List.getElem_mem hj, rfl⟩, by rw [h]; simp⟩
def lrd (x : Om) : List Im := [x.left, x.right] ++ x.dels
theorem lrd_keys (x : Om) : ikeys (lrd x) = x.left.key :: x.right.key :: ikeys x.dels := rfl
theorem lrd_len (x : Om) : (lrd x).length = x.dels.length + 2 := by simp [lrd]
set_option maxHeartbeats 8000000 in
set_option maxRecDepth 100000 in
theorem opspanned_any (x : Om) (w : World) (ox : x.Ok w w.heap.size) (sx : x.Sz) (hf : x.dels.length ≤ 2000) (r : Bool) (hr : spannedO x.key = r) :
    Calls Tryz.prog 150 #[.agg #[.int .i64 x.kind, .string x.self.p, .int .i64 x.self.n, .string x.parent.p, .int .i64 x.parent.n, .string x.dst.p, .int .i64 x.dst.n, .string x.name, .string x.dname, .string x.left.p, .int .i64 x.left.n, .string x.right.p, .int .i64 x.right.n, .slice x.a1 x.dels.length x.c1, .int .i64 x.first, .slice x.a2 x.lines.length x.c2]] w fun e w' => e = .returned (.bool r) ∧ Below w.heap.size w w' := by
  subst hr
  obtain ⟨hb, hx⟩ := op_box w x
  have HX := Lib.hid hx
  have HF := Lib.hid hb
  have OX := Lib.hid (ox.on hb)
  clear hb hx ox
  go_enter Tryz.func150, Tryz.ntmps150
  go_upto_region 1 with (fail)
  generalize (w.alloc (.cells #[.int .i64 x.kind, .string x.self.p, .int .i64 x.self.n, .string x.parent.p, .int .i64 x.parent.n, .string x.dst.p, .int .i64 x.dst.n, .string x.name, .string x.dname, .string x.left.p, .int .i64 x.left.n, .string x.right.p, .int .i64 x.right.n, .slice x.a1 x.dels.length x.c1, .int .i64 x.first, .slice x.a2 x.lines.length x.c2] 84)) = wb at *
  go_cut [27] from 6 to 52 (fun t wx => ∃ tb : Bool, t = .bool tb ∧ Hid (tb = !((decide (x.key.left = ([], 1)) || madeI x.key.left) && (decide (x.key.right = ([], 2)) || madeI x.key.right))) ∧ Hid (Below wb.heap.size wb wx))
  case first =>
    cases h1 : decide (x.key.left = ([], 1)) <;> cases h2 : madeI x.key.left <;> cases h3 : decide (x.key.right = ([], 2)) <;> cases h4 : madeI x.key.right
    · have Eleft : ∀ W, (binOp .neq 81 (.agg #[.string x.left.p, .int .i64 x.left.n]) (.agg #[.string ⟨#[]⟩, .int .i64 1])).run Tryz.prog W = .ok (.bool true) W := fun W => (neq_id x.left ⟨⟨#[]⟩, 1⟩ W).trans (by rw [show decide (x.left = ⟨⟨#[]⟩, 1⟩) = false from (begin_iff x.left 1).trans h1]; rfl)
      have x_leftp := fun d os => cell_regrown (op_cells HX.out).leftp d os
      have x_leftn := fun d os => cell_regrown (op_cells HX.out).leftn d os
      have x_rightp := fun d os => cell_regrown (op_cells HX.out).rightp d os
      have x_rightn := fun d os => cell_regrown (op_cells HX.out).rightn d os
      have n1_0 := q_of (fun W (hW : Below wb.heap.size wb W) => opbegin_any W)
      have n1_1 := q_of (fun W (hW : Below wb.heap.size wb W) => opmade_any x.left W sx.left false h2)
      refine wp_region_quiet_below (by kernel_rfl) (by kernel_rfl) ?_
      repeat (go_big_quiet_step (first | with_reducible exact n1_0 _ _ | with_reducible exact n1_1 _ _))
      refine wpQuiet_nil ?_
      intro _ hw'
      obtain ⟨⟨dq, osq⟩, hw''⟩ := hw'
      subst hw''
      have HBR := Lib.hid (below_regrown wb dq osq)
      generalize grow (redrawn wb dq) osq = w1 at *
      have HG2 := Lib.hid HBR.out
      clear HBR
      go_wp2_with fail
      go_meet
      case rel => exact ⟨true, rfl, (by show _ = _; simp [h1, h2, h3, h4]), HG2.out⟩
    · have Eleft : ∀ W, (binOp .neq 81 (.agg #[.string x.left.p, .int .i64 x.left.n]) (.agg #[.string ⟨#[]⟩, .int .i64 1])).run Tryz.prog W = .ok (.bool true) W := fun W => (neq_id x.left ⟨⟨#[]⟩, 1⟩ W).trans (by rw [show decide (x.left = ⟨⟨#[]⟩, 1⟩) = false from (begin_iff x.left 1).trans h1]; rfl)
      have x_leftp := fun d os => cell_regrown (op_cells HX.out).leftp d os
      have x_leftn := fun d os => cell_regrown (op_cells HX.out).leftn d os
      have x_rightp := fun d os => cell_regrown (op_cells HX.out).rightp d os
      have x_rightn := fun d os => cell_regrown (op_cells HX.out).rightn d os
      have n2_0 := q_of (fun W (hW : Below wb.heap.size wb W) => opbegin_any W)
      have n2_1 := q_of (fun W (hW : Below wb.heap.size wb W) => opmade_any x.left W sx.left false h2)
      refine wp_region_quiet_below (by kernel_rfl) (by kernel_rfl) ?_
      repeat (go_big_quiet_step (first | with_reducible exact n2_0 _ _ | with_reducible exact n2_1 _ _))
      refine wpQuiet_nil ?_
      intro _ hw'
      obtain ⟨⟨dq, osq⟩, hw''⟩ := hw'
      subst hw''
      have HBR := Lib.hid (below_regrown wb dq osq)
      generalize grow (redrawn wb dq) osq = w1 at *
      have HG2 := Lib.hid HBR.out
      clear HBR
      go_wp2_with fail
      go_meet
      case rel => exact ⟨true, rfl, (by show _ = _; simp [h1, h2, h3, h4]), HG2.out⟩
    · have Eleft : ∀ W, (binOp .neq 81 (.agg #[.string x.left.p, .int .i64 x.left.n]) (.agg #[.string ⟨#[]⟩, .int .i64 1])).run Tryz.prog W = .ok (.bool true) W := fun W => (neq_id x.left ⟨⟨#[]⟩, 1⟩ W).trans (by rw [show decide (x.left = ⟨⟨#[]⟩, 1⟩) = false from (begin_iff x.left 1).trans h1]; rfl)
      have x_leftp := fun d os => cell_regrown (op_cells HX.out).leftp d os
      have x_leftn := fun d os => cell_regrown (op_cells HX.out).leftn d os
      have x_rightp := fun d os => cell_regrown (op_cells HX.out).rightp d os
      have x_rightn := fun d os => cell_regrown (op_cells HX.out).rightn d os
      have n3_0 := q_of (fun W (hW : Below wb.heap.size wb W) => opbegin_any W)
      have n3_1 := q_of (fun W (hW : Below wb.heap.size wb W) => opmade_any x.left W sx.left false h2)
      refine wp_region_quiet_below (by kernel_rfl) (by kernel_rfl) ?_
      repeat (go_big_quiet_step (first | with_reducible exact n3_0 _ _ | with_reducible exact n3_1 _ _))
      refine wpQuiet_nil ?_
      intro _ hw'
      obtain ⟨⟨dq, osq⟩, hw''⟩ := hw'
      subst hw''
      have HBR := Lib.hid (below_regrown wb dq osq)
      generalize grow (redrawn wb dq) osq = w1 at *
      have HG2 := Lib.hid HBR.out
      clear HBR
      go_wp2_with fail
      go_meet
      case rel => exact ⟨true, rfl, (by show _ = _; simp [h1, h2, h3, h4]), HG2.out⟩
    · have Eleft : ∀ W, (binOp .neq 81 (.agg #[.string x.left.p, .int .i64 x.left.n]) (.agg #[.string ⟨#[]⟩, .int .i64 1])).run Tryz.prog W = .ok (.bool true) W := fun W => (neq_id x.left ⟨⟨#[]⟩, 1⟩ W).trans (by rw [show decide (x.left = ⟨⟨#[]⟩, 1⟩) = false from (begin_iff x.left 1).trans h1]; rfl)
      have x_leftp := fun d os => cell_regrown (op_cells HX.out).leftp d os
      have x_leftn := fun d os => cell_regrown (op_cells HX.out).leftn d os
      have x_rightp := fun d os => cell_regrown (op_cells HX.out).rightp d os
      have x_rightn := fun d os => cell_regrown (op_cells HX.out).rightn d os
      have n4_0 := q_of (fun W (hW : Below wb.heap.size wb W) => opbegin_any W)
      have n4_1 := q_of (fun W (hW : Below wb.heap.size wb W) => opmade_any x.left W sx.left false h2)
      refine wp_region_quiet_below (by kernel_rfl) (by kernel_rfl) ?_
      repeat (go_big_quiet_step (first | with_reducible exact n4_0 _ _ | with_reducible exact n4_1 _ _))
      refine wpQuiet_nil ?_
      intro _ hw'
      obtain ⟨⟨dq, osq⟩, hw''⟩ := hw'
      subst hw''
      have HBR := Lib.hid (below_regrown wb dq osq)
      generalize grow (redrawn wb dq) osq = w1 at *
      have HG2 := Lib.hid HBR.out
      clear HBR
      go_wp2_with fail
      go_meet
      case rel => exact ⟨true, rfl, (by show _ = _; simp [h1, h2, h3, h4]), HG2.out⟩
    · have Eleft : ∀ W, (binOp .neq 81 (.agg #[.string x.left.p, .int .i64 x.left.n]) (.agg #[.string ⟨#[]⟩, .int .i64 1])).run Tryz.prog W = .ok (.bool true) W := fun W => (neq_id x.left ⟨⟨#[]⟩, 1⟩ W).trans (by rw [show decide (x.left = ⟨⟨#[]⟩, 1⟩) = false from (begin_iff x.left 1).trans h1]; rfl)
      have Eright : ∀ W, (binOp .neq 81 (.agg #[.string x.right.p, .int .i64 x.right.n]) (.agg #[.string ⟨#[]⟩, .int .i64 2])).run Tryz.prog W = .ok (.bool true) W := fun W => (neq_id x.right ⟨⟨#[]⟩, 2⟩ W).trans (by rw [show decide (x.right = ⟨⟨#[]⟩, 2⟩) = false from (begin_iff x.right 2).trans h3]; rfl)
      have x_leftp := fun d os => cell_regrown (op_cells HX.out).leftp d os
      have x_leftn := fun d os => cell_regrown (op_cells HX.out).leftn d os
      have x_rightp := fun d os => cell_regrown (op_cells HX.out).rightp d os
      have x_rightn := fun d os => cell_regrown (op_cells HX.out).rightn d os
      have n5_0 := q_of (fun W (hW : Below wb.heap.size wb W) => opbegin_any W)
      have n5_1 := q_of (fun W (hW : Below wb.heap.size wb W) => opmade_any x.left W sx.left true h2)
      have n5_2 := q_of (fun W (hW : Below wb.heap.size wb W) => opend_any W)
      have n5_3 := q_of (fun W (hW : Below wb.heap.size wb W) => opmade_any x.right W sx.right false h4)
      refine wp_region_quiet_below (by kernel_rfl) (by kernel_rfl) ?_
      repeat (go_big_quiet_step (first | with_reducible exact n5_0 _ _ | with_reducible exact n5_1 _ _ | with_reducible exact n5_2 _ _ | with_reducible exact n5_3 _ _))
      refine wpQuiet_nil ?_
      intro _ hw'
      obtain ⟨⟨dq, osq⟩, hw''⟩ := hw'
      subst hw''
      have HBR := Lib.hid (below_regrown wb dq osq)
      generalize grow (redrawn wb dq) osq = w1 at *
      have HG2 := Lib.hid HBR.out
      clear HBR
      go_wp2_with fail
      go_meet
      case rel => exact ⟨true, rfl, (by show _ = _; simp [h1, h2, h3, h4]), HG2.out⟩
    · have Eleft : ∀ W, (binOp .neq 81 (.agg #[.string x.left.p, .int .i64 x.left.n]) (.agg #[.string ⟨#[]⟩, .int .i64 1])).run Tryz.prog W = .ok (.bool true) W := fun W => (neq_id x.left ⟨⟨#[]⟩, 1⟩ W).trans (by rw [show decide (x.left = ⟨⟨#[]⟩, 1⟩) = false from (begin_iff x.left 1).trans h1]; rfl)
      have Eright : ∀ W, (binOp .neq 81 (.agg #[.string x.right.p, .int .i64 x.right.n]) (.agg #[.string ⟨#[]⟩, .int .i64 2])).run Tryz.prog W = .ok (.bool true) W := fun W => (neq_id x.right ⟨⟨#[]⟩, 2⟩ W).trans (by rw [show decide (x.right = ⟨⟨#[]⟩, 2⟩) = false from (begin_iff x.right 2).trans h3]; rfl)
      have x_leftp := fun d os => cell_regrown (op_cells HX.out).leftp d os
      have x_leftn := fun d os => cell_regrown (op_cells HX.out).leftn d os
      have x_rightp := fun d os => cell_regrown (op_cells HX.out).rightp d os
      have x_rightn := fun d os => cell_regrown (op_cells HX.out).rightn d os
      have n6_0 := q_of (fun W (hW : Below wb.heap.size wb W) => opbegin_any W)
      have n6_1 := q_of (fun W (hW : Below wb.heap.size wb W) => opmade_any x.left W sx.left true h2)
      have n6_2 := q_of (fun W (hW : Below wb.heap.size wb W) => opend_any W)
      have n6_3 := q_of (fun W (hW : Below wb.heap.size wb W) => opmade_any x.right W sx.right true h4)
      refine wp_region_quiet_below (by kernel_rfl) (by kernel_rfl) ?_
      repeat (go_big_quiet_step (first | with_reducible exact n6_0 _ _ | with_reducible exact n6_1 _ _ | with_reducible exact n6_2 _ _ | with_reducible exact n6_3 _ _))
      refine wpQuiet_nil ?_
      intro _ hw'
      obtain ⟨⟨dq, osq⟩, hw''⟩ := hw'
      subst hw''
      have HBR := Lib.hid (below_regrown wb dq osq)
      generalize grow (redrawn wb dq) osq = w1 at *
      have HG2 := Lib.hid HBR.out
      clear HBR
      go_wp2_with fail
      go_meet
      case rel => exact ⟨false, rfl, (by show _ = _; simp [h1, h2, h3, h4]), HG2.out⟩
    · have Eleft : ∀ W, (binOp .neq 81 (.agg #[.string x.left.p, .int .i64 x.left.n]) (.agg #[.string ⟨#[]⟩, .int .i64 1])).run Tryz.prog W = .ok (.bool true) W := fun W => (neq_id x.left ⟨⟨#[]⟩, 1⟩ W).trans (by rw [show decide (x.left = ⟨⟨#[]⟩, 1⟩) = false from (begin_iff x.left 1).trans h1]; rfl)
      have Eright : ∀ W, (binOp .neq 81 (.agg #[.string x.right.p, .int .i64 x.right.n]) (.agg #[.string ⟨#[]⟩, .int .i64 2])).run Tryz.prog W = .ok (.bool false) W := fun W => (neq_id x.right ⟨⟨#[]⟩, 2⟩ W).trans (by rw [show decide (x.right = ⟨⟨#[]⟩, 2⟩) = true from (begin_iff x.right 2).trans h3]; rfl)
      have x_leftp := fun d os => cell_regrown (op_cells HX.out).leftp d os
      have x_leftn := fun d os => cell_regrown (op_cells HX.out).leftn d os
      have x_rightp := fun d os => cell_regrown (op_cells HX.out).rightp d os
      have x_rightn := fun d os => cell_regrown (op_cells HX.out).rightn d os
      have n7_0 := q_of (fun W (hW : Below wb.heap.size wb W) => opbegin_any W)
      have n7_1 := q_of (fun W (hW : Below wb.heap.size wb W) => opmade_any x.left W sx.left true h2)
      have n7_2 := q_of (fun W (hW : Below wb.heap.size wb W) => opend_any W)
      refine wp_region_quiet_below (by kernel_rfl) (by kernel_rfl) ?_
      repeat (go_big_quiet_step (first | with_reducible exact n7_0 _ _ | with_reducible exact n7_1 _ _ | with_reducible exact n7_2 _ _))
      refine wpQuiet_nil ?_
      intro _ hw'
      obtain ⟨⟨dq, osq⟩, hw''⟩ := hw'
      subst hw''
      have HBR := Lib.hid (below_regrown wb dq osq)
      generalize grow (redrawn wb dq) osq = w1 at *
      have HG2 := Lib.hid HBR.out
      clear HBR
      go_wp2_with fail
      go_meet
      case rel => exact ⟨false, rfl, (by show _ = _; simp [h1, h2, h3, h4]), HG2.out⟩
    · have Eleft : ∀ W, (binOp .neq 81 (.agg #[.string x.left.p, .int .i64 x.left.n]) (.agg #[.string ⟨#[]⟩, .int .i64 1])).run Tryz.prog W = .ok (.bool true) W := fun W => (neq_id x.left ⟨⟨#[]⟩, 1⟩ W).trans (by rw [show decide (x.left = ⟨⟨#[]⟩, 1⟩) = false from (begin_iff x.left 1).trans h1]; rfl)
      have Eright : ∀ W, (binOp .neq 81 (.agg #[.string x.right.p, .int .i64 x.right.n]) (.agg #[.string ⟨#[]⟩, .int .i64 2])).run Tryz.prog W = .ok (.bool false) W := fun W => (neq_id x.right ⟨⟨#[]⟩, 2⟩ W).trans (by rw [show decide (x.right = ⟨⟨#[]⟩, 2⟩) = true from (begin_iff x.right 2).trans h3]; rfl)
      have x_leftp := fun d os => cell_regrown (op_cells HX.out).leftp d os
      have x_leftn := fun d os => cell_regrown (op_cells HX.out).leftn d os
      have x_rightp := fun d os => cell_regrown (op_cells HX.out).rightp d os
      have x_rightn := fun d os => cell_regrown (op_cells HX.out).rightn d os
      have n8_0 := q_of (fun W (hW : Below wb.heap.size wb W) => opbegin_any W)
      have n8_1 := q_of (fun W (hW : Below wb.heap.size wb W) => opmade_any x.left W sx.left true h2)
      have n8_2 := q_of (fun W (hW : Below wb.heap.size wb W) => opend_any W)
      refine wp_region_quiet_below (by kernel_rfl) (by kernel_rfl) ?_
      repeat (go_big_quiet_step (first | with_reducible exact n8_0 _ _ | with_reducible exact n8_1 _ _ | with_reducible exact n8_2 _ _))
      refine wpQuiet_nil ?_
      intro _ hw'
      obtain ⟨⟨dq, osq⟩, hw''⟩ := hw'
      subst hw''
      have HBR := Lib.hid (below_regrown wb dq osq)
      generalize grow (redrawn wb dq) osq = w1 at *
      have HG2 := Lib.hid HBR.out
      clear HBR
      go_wp2_with fail
      go_meet
      case rel => exact ⟨false, rfl, (by show _ = _; simp [h1, h2, h3, h4]), HG2.out⟩
    · have Eleft : ∀ W, (binOp .neq 81 (.agg #[.string x.left.p, .int .i64 x.left.n]) (.agg #[.string ⟨#[]⟩, .int .i64 1])).run Tryz.prog W = .ok (.bool false) W := fun W => (neq_id x.left ⟨⟨#[]⟩, 1⟩ W).trans (by rw [show decide (x.left = ⟨⟨#[]⟩, 1⟩) = true from (begin_iff x.left 1).trans h1]; rfl)
      have Eright : ∀ W, (binOp .neq 81 (.agg #[.string x.right.p, .int .i64 x.right.n]) (.agg #[.string ⟨#[]⟩, .int .i64 2])).run Tryz.prog W = .ok (.bool true) W := fun W => (neq_id x.right ⟨⟨#[]⟩, 2⟩ W).trans (by rw [show decide (x.right = ⟨⟨#[]⟩, 2⟩) = false from (begin_iff x.right 2).trans h3]; rfl)
      have x_leftp := fun d os => cell_regrown (op_cells HX.out).leftp d os
      have x_leftn := fun d os => cell_regrown (op_cells HX.out).leftn d os
      have x_rightp := fun d os => cell_regrown (op_cells HX.out).rightp d os
      have x_rightn := fun d os => cell_regrown (op_cells HX.out).rightn d os
      have n9_0 := q_of (fun W (hW : Below wb.heap.size wb W) => opbegin_any W)
      have n9_1 := q_of (fun W (hW : Below wb.heap.size wb W) => opend_any W)
      have n9_2 := q_of (fun W (hW : Below wb.heap.size wb W) => opmade_any x.right W sx.right false h4)
      refine wp_region_quiet_below (by kernel_rfl) (by kernel_rfl) ?_
      repeat (go_big_quiet_step (first | with_reducible exact n9_0 _ _ | with_reducible exact n9_1 _ _ | with_reducible exact n9_2 _ _))
      refine wpQuiet_nil ?_
      intro _ hw'
      obtain ⟨⟨dq, osq⟩, hw''⟩ := hw'
      subst hw''
      have HBR := Lib.hid (below_regrown wb dq osq)
      generalize grow (redrawn wb dq) osq = w1 at *
      have HG2 := Lib.hid HBR.out
      clear HBR
      go_wp2_with fail
      go_meet
      case rel => exact ⟨true, rfl, (by show _ = _; simp [h1, h2, h3, h4]), HG2.out⟩
    · have Eleft : ∀ W, (binOp .neq 81 (.agg #[.string x.left.p, .int .i64 x.left.n]) (.agg #[.string ⟨#[]⟩, .int .i64 1])).run Tryz.prog W = .ok (.bool false) W := fun W => (neq_id x.left ⟨⟨#[]⟩, 1⟩ W).trans (by rw [show decide (x.left = ⟨⟨#[]⟩, 1⟩) = true from (begin_iff x.left 1).trans h1]; rfl)
      have Eright : ∀ W, (binOp .neq 81 (.agg #[.string x.right.p, .int .i64 x.right.n]) (.agg #[.string ⟨#[]⟩, .int .i64 2])).run Tryz.prog W = .ok (.bool true) W := fun W => (neq_id x.right ⟨⟨#[]⟩, 2⟩ W).trans (by rw [show decide (x.right = ⟨⟨#[]⟩, 2⟩) = false from (begin_iff x.right 2).trans h3]; rfl)
      have x_leftp := fun d os => cell_regrown (op_cells HX.out).leftp d os
      have x_leftn := fun d os => cell_regrown (op_cells HX.out).leftn d os
      have x_rightp := fun d os => cell_regrown (op_cells HX.out).rightp d os
      have x_rightn := fun d os => cell_regrown (op_cells HX.out).rightn d os
      have n10_0 := q_of (fun W (hW : Below wb.heap.size wb W) => opbegin_any W)
      have n10_1 := q_of (fun W (hW : Below wb.heap.size wb W) => opend_any W)
      have n10_2 := q_of (fun W (hW : Below wb.heap.size wb W) => opmade_any x.right W sx.right true h4)
      refine wp_region_quiet_below (by kernel_rfl) (by kernel_rfl) ?_
      repeat (go_big_quiet_step (first | with_reducible exact n10_0 _ _ | with_reducible exact n10_1 _ _ | with_reducible exact n10_2 _ _))
      refine wpQuiet_nil ?_
      intro _ hw'
      obtain ⟨⟨dq, osq⟩, hw''⟩ := hw'
      subst hw''
      have HBR := Lib.hid (below_regrown wb dq osq)
      generalize grow (redrawn wb dq) osq = w1 at *
      have HG2 := Lib.hid HBR.out
      clear HBR
      go_wp2_with fail
      go_meet
      case rel => exact ⟨false, rfl, (by show _ = _; simp [h1, h2, h3, h4]), HG2.out⟩
    · have Eleft : ∀ W, (binOp .neq 81 (.agg #[.string x.left.p, .int .i64 x.left.n]) (.agg #[.string ⟨#[]⟩, .int .i64 1])).run Tryz.prog W = .ok (.bool false) W := fun W => (neq_id x.left ⟨⟨#[]⟩, 1⟩ W).trans (by rw [show decide (x.left = ⟨⟨#[]⟩, 1⟩) = true from (begin_iff x.left 1).trans h1]; rfl)
      have Eright : ∀ W, (binOp .neq 81 (.agg #[.string x.right.p, .int .i64 x.right.n]) (.agg #[.string ⟨#[]⟩, .int .i64 2])).run Tryz.prog W = .ok (.bool false) W := fun W => (neq_id x.right ⟨⟨#[]⟩, 2⟩ W).trans (by rw [show decide (x.right = ⟨⟨#[]⟩, 2⟩) = true from (begin_iff x.right 2).trans h3]; rfl)
      have x_leftp := fun d os => cell_regrown (op_cells HX.out).leftp d os
      have x_leftn := fun d os => cell_regrown (op_cells HX.out).leftn d os
      have x_rightp := fun d os => cell_regrown (op_cells HX.out).rightp d os
      have x_rightn := fun d os => cell_regrown (op_cells HX.out).rightn d os
      have n11_0 := q_of (fun W (hW : Below wb.heap.size wb W) => opbegin_any W)
      have n11_1 := q_of (fun W (hW : Below wb.heap.size wb W) => opend_any W)
      refine wp_region_quiet_below (by kernel_rfl) (by kernel_rfl) ?_
      repeat (go_big_quiet_step (first | with_reducible exact n11_0 _ _ | with_reducible exact n11_1 _ _))
      refine wpQuiet_nil ?_
      intro _ hw'
      obtain ⟨⟨dq, osq⟩, hw''⟩ := hw'
      subst hw''
      have HBR := Lib.hid (below_regrown wb dq osq)
      generalize grow (redrawn wb dq) osq = w1 at *
      have HG2 := Lib.hid HBR.out
      clear HBR
      go_wp2_with fail
      go_meet
      case rel => exact ⟨false, rfl, (by show _ = _; simp [h1, h2, h3, h4]), HG2.out⟩
    · have Eleft : ∀ W, (binOp .neq 81 (.agg #[.string x.left.p, .int .i64 x.left.n]) (.agg #[.string ⟨#[]⟩, .int .i64 1])).run Tryz.prog W = .ok (.bool false) W := fun W => (neq_id x.left ⟨⟨#[]⟩, 1⟩ W).trans (by rw [show decide (x.left = ⟨⟨#[]⟩, 1⟩) = true from (begin_iff x.left 1).trans h1]; rfl)
      have Eright : ∀ W, (binOp .neq 81 (.agg #[.string x.right.p, .int .i64 x.right.n]) (.agg #[.string ⟨#[]⟩, .int .i64 2])).run Tryz.prog W = .ok (.bool false) W := fun W => (neq_id x.right ⟨⟨#[]⟩, 2⟩ W).trans (by rw [show decide (x.right = ⟨⟨#[]⟩, 2⟩) = true from (begin_iff x.right 2).trans h3]; rfl)
      have x_leftp := fun d os => cell_regrown (op_cells HX.out).leftp d os
      have x_leftn := fun d os => cell_regrown (op_cells HX.out).leftn d os
      have x_rightp := fun d os => cell_regrown (op_cells HX.out).rightp d os
      have x_rightn := fun d os => cell_regrown (op_cells HX.out).rightn d os
      have n12_0 := q_of (fun W (hW : Below wb.heap.size wb W) => opbegin_any W)
      have n12_1 := q_of (fun W (hW : Below wb.heap.size wb W) => opend_any W)
      refine wp_region_quiet_below (by kernel_rfl) (by kernel_rfl) ?_
      repeat (go_big_quiet_step (first | with_reducible exact n12_0 _ _ | with_reducible exact n12_1 _ _))
      refine wpQuiet_nil ?_
      intro _ hw'
      obtain ⟨⟨dq, osq⟩, hw''⟩ := hw'
      subst hw''
      have HBR := Lib.hid (below_regrown wb dq osq)
      generalize grow (redrawn wb dq) osq = w1 at *
      have HG2 := Lib.hid HBR.out
      clear HBR
      go_wp2_with fail
      go_meet
      case rel => exact ⟨false, rfl, (by show _ = _; simp [h1, h2, h3, h4]), HG2.out⟩
    · have Eleft : ∀ W, (binOp .neq 81 (.agg #[.string x.left.p, .int .i64 x.left.n]) (.agg #[.string ⟨#[]⟩, .int .i64 1])).run Tryz.prog W = .ok (.bool false) W := fun W => (neq_id x.left ⟨⟨#[]⟩, 1⟩ W).trans (by rw [show decide (x.left = ⟨⟨#[]⟩, 1⟩) = true from (begin_iff x.left 1).trans h1]; rfl)
      have Eright : ∀ W, (binOp .neq 81 (.agg #[.string x.right.p, .int .i64 x.right.n]) (.agg #[.string ⟨#[]⟩, .int .i64 2])).run Tryz.prog W = .ok (.bool true) W := fun W => (neq_id x.right ⟨⟨#[]⟩, 2⟩ W).trans (by rw [show decide (x.right = ⟨⟨#[]⟩, 2⟩) = false from (begin_iff x.right 2).trans h3]; rfl)
      have x_leftp := fun d os => cell_regrown (op_cells HX.out).leftp d os
      have x_leftn := fun d os => cell_regrown (op_cells HX.out).leftn d os
      have x_rightp := fun d os => cell_regrown (op_cells HX.out).rightp d os
      have x_rightn := fun d os => cell_regrown (op_cells HX.out).rightn d os
      have n13_0 := q_of (fun W (hW : Below wb.heap.size wb W) => opbegin_any W)
      have n13_1 := q_of (fun W (hW : Below wb.heap.size wb W) => opend_any W)
      have n13_2 := q_of (fun W (hW : Below wb.heap.size wb W) => opmade_any x.right W sx.right false h4)
      refine wp_region_quiet_below (by kernel_rfl) (by kernel_rfl) ?_
      repeat (go_big_quiet_step (first | with_reducible exact n13_0 _ _ | with_reducible exact n13_1 _ _ | with_reducible exact n13_2 _ _))
      refine wpQuiet_nil ?_
      intro _ hw'
      obtain ⟨⟨dq, osq⟩, hw''⟩ := hw'
      subst hw''
      have HBR := Lib.hid (below_regrown wb dq osq)
      generalize grow (redrawn wb dq) osq = w1 at *
      have HG2 := Lib.hid HBR.out
      clear HBR
      go_wp2_with fail
      go_meet
      case rel => exact ⟨true, rfl, (by show _ = _; simp [h1, h2, h3, h4]), HG2.out⟩
    · have Eleft : ∀ W, (binOp .neq 81 (.agg #[.string x.left.p, .int .i64 x.left.n]) (.agg #[.string ⟨#[]⟩, .int .i64 1])).run Tryz.prog W = .ok (.bool false) W := fun W => (neq_id x.left ⟨⟨#[]⟩, 1⟩ W).trans (by rw [show decide (x.left = ⟨⟨#[]⟩, 1⟩) = true from (begin_iff x.left 1).trans h1]; rfl)
      have Eright : ∀ W, (binOp .neq 81 (.agg #[.string x.right.p, .int .i64 x.right.n]) (.agg #[.string ⟨#[]⟩, .int .i64 2])).run Tryz.prog W = .ok (.bool true) W := fun W => (neq_id x.right ⟨⟨#[]⟩, 2⟩ W).trans (by rw [show decide (x.right = ⟨⟨#[]⟩, 2⟩) = false from (begin_iff x.right 2).trans h3]; rfl)
      have x_leftp := fun d os => cell_regrown (op_cells HX.out).leftp d os
      have x_leftn := fun d os => cell_regrown (op_cells HX.out).leftn d os
      have x_rightp := fun d os => cell_regrown (op_cells HX.out).rightp d os
      have x_rightn := fun d os => cell_regrown (op_cells HX.out).rightn d os
      have n14_0 := q_of (fun W (hW : Below wb.heap.size wb W) => opbegin_any W)
      have n14_1 := q_of (fun W (hW : Below wb.heap.size wb W) => opend_any W)
      have n14_2 := q_of (fun W (hW : Below wb.heap.size wb W) => opmade_any x.right W sx.right true h4)
      refine wp_region_quiet_below (by kernel_rfl) (by kernel_rfl) ?_
      repeat (go_big_quiet_step (first | with_reducible exact n14_0 _ _ | with_reducible exact n14_1 _ _ | with_reducible exact n14_2 _ _))
      refine wpQuiet_nil ?_
      intro _ hw'
      obtain ⟨⟨dq, osq⟩, hw''⟩ := hw'
      subst hw''
      have HBR := Lib.hid (below_regrown wb dq osq)
      generalize grow (redrawn wb dq) osq = w1 at *
      have HG2 := Lib.hid HBR.out
      clear HBR
      go_wp2_with fail
      go_meet
      case rel => exact ⟨false, rfl, (by show _ = _; simp [h1, h2, h3, h4]), HG2.out⟩
    · have Eleft : ∀ W, (binOp .neq 81 (.agg #[.string x.left.p, .int .i64 x.left.n]) (.agg #[.string ⟨#[]⟩, .int .i64 1])).run Tryz.prog W = .ok (.bool false) W := fun W => (neq_id x.left ⟨⟨#[]⟩, 1⟩ W).trans (by rw [show decide (x.left = ⟨⟨#[]⟩, 1⟩) = true from (begin_iff x.left 1).trans h1]; rfl)
      have Eright : ∀ W, (binOp .neq 81 (.agg #[.string x.right.p, .int .i64 x.right.n]) (.agg #[.string ⟨#[]⟩, .int .i64 2])).run Tryz.prog W = .ok (.bool false) W := fun W => (neq_id x.right ⟨⟨#[]⟩, 2⟩ W).trans (by rw [show decide (x.right = ⟨⟨#[]⟩, 2⟩) = true from (begin_iff x.right 2).trans h3]; rfl)
      have x_leftp := fun d os => cell_regrown (op_cells HX.out).leftp d os
      have x_leftn := fun d os => cell_regrown (op_cells HX.out).leftn d os
      have x_rightp := fun d os => cell_regrown (op_cells HX.out).rightp d os
      have x_rightn := fun d os => cell_regrown (op_cells HX.out).rightn d os
      have n15_0 := q_of (fun W (hW : Below wb.heap.size wb W) => opbegin_any W)
      have n15_1 := q_of (fun W (hW : Below wb.heap.size wb W) => opend_any W)
      refine wp_region_quiet_below (by kernel_rfl) (by kernel_rfl) ?_
      repeat (go_big_quiet_step (first | with_reducible exact n15_0 _ _ | with_reducible exact n15_1 _ _))
      refine wpQuiet_nil ?_
      intro _ hw'
      obtain ⟨⟨dq, osq⟩, hw''⟩ := hw'
      subst hw''
      have HBR := Lib.hid (below_regrown wb dq osq)
      generalize grow (redrawn wb dq) osq = w1 at *
      have HG2 := Lib.hid HBR.out
      clear HBR
      go_wp2_with fail
      go_meet
      case rel => exact ⟨false, rfl, (by show _ = _; simp [h1, h2, h3, h4]), HG2.out⟩
    · have Eleft : ∀ W, (binOp .neq 81 (.agg #[.string x.left.p, .int .i64 x.left.n]) (.agg #[.string ⟨#[]⟩, .int .i64 1])).run Tryz.prog W = .ok (.bool false) W := fun W => (neq_id x.left ⟨⟨#[]⟩, 1⟩ W).trans (by rw [show decide (x.left = ⟨⟨#[]⟩, 1⟩) = true from (begin_iff x.left 1).trans h1]; rfl)
      have Eright : ∀ W, (binOp .neq 81 (.agg #[.string x.right.p, .int .i64 x.right.n]) (.agg #[.string ⟨#[]⟩, .int .i64 2])).run Tryz.prog W = .ok (.bool false) W := fun W => (neq_id x.right ⟨⟨#[]⟩, 2⟩ W).trans (by rw [show decide (x.right = ⟨⟨#[]⟩, 2⟩) = true from (begin_iff x.right 2).trans h3]; rfl)
      have x_leftp := fun d os => cell_regrown (op_cells HX.out).leftp d os
      have x_leftn := fun d os => cell_regrown (op_cells HX.out).leftn d os
      have x_rightp := fun d os => cell_regrown (op_cells HX.out).rightp d os
      have x_rightn := fun d os => cell_regrown (op_cells HX.out).rightn d os
      have n16_0 := q_of (fun W (hW : Below wb.heap.size wb W) => opbegin_any W)
      have n16_1 := q_of (fun W (hW : Below wb.heap.size wb W) => opend_any W)
      refine wp_region_quiet_below (by kernel_rfl) (by kernel_rfl) ?_
      repeat (go_big_quiet_step (first | with_reducible exact n16_0 _ _ | with_reducible exact n16_1 _ _))
      refine wpQuiet_nil ?_
      intro _ hw'
      obtain ⟨⟨dq, osq⟩, hw''⟩ := hw'
      subst hw''
      have HBR := Lib.hid (below_regrown wb dq osq)
      generalize grow (redrawn wb dq) osq = w1 at *
      have HG2 := Lib.hid HBR.out
      clear HBR
      go_wp2_with fail
      go_meet
      case rel => exact ⟨false, rfl, (by show _ = _; simp [h1, h2, h3, h4]), HG2.out⟩
  case rest =>
    obtain ⟨tb, rfl, HTB, HG⟩ := hcut
    replace HX := Lib.hid (HX.out.on HG.out)
    replace HF := Lib.hid (HF.out.trans (HG.out.mono HF.out.size))
    replace OX := Lib.hid (OX.out.on HG.out)
    clear HG
    cases tb
    · have HS1 : Hid (((decide (x.key.left = ([], 1)) || madeI x.key.left) && (decide (x.key.right = ([], 2)) || madeI x.key.right)) = true) := by
        have h1 := HTB.out
        show _ = _
        cases h : ((decide (x.key.left = ([], 1)) || madeI x.key.left) && (decide (x.key.right = ([], 2)) || madeI x.key.right))
        · rw [h] at h1; cases h1
        · rfl
      clear HTB
      have hc := op_cells HX.out
      have c_dels := hc.dels
      clear hc
      go_upto_region 3 with (fail)
      -- @P1
      have HG : Hid (Below wc.heap.size wc wc) := Below.refl _ _
      go_wp2
      go_loopw [31] (fun i wr => ∃ k : Nat, k ≤ x.dels.length ∧ i = .int .i64 (k : Int) ∧ Hid (∀ j (hj : j < x.dels.length), j < k → madeI x.dels[j].key = true) ∧ Hid (Below wc.heap.size wc wr)) (fun i _ => x.dels.length - (intOf i).toNat)
      case atStart => exact ⟨0, Nat.zero_le _, rfl, fun j _ h => absurd h (by omega), HG.out⟩
      case round =>
        clear HG c_dels
        obtain ⟨k, hk, rfl, hall, hbr⟩ := hrel
        by_cases hlt : k < x.dels.length
        · obtain ⟨b, off, e4, _, d0, d1⟩ := ids_get (OX.out.dels.on hbr.out) hlt
          have hz := sx.dels _ (List.getElem_mem hlt)
          obtain ⟨q, hq⟩ : ∃ q, madeI x.dels[k].key = q := ⟨_, rfl⟩
          have HYES : Hid (q = true → ∀ j (hj : j < x.dels.length), j < k + 1 → madeI x.dels[j].key = true) := fun e j hj hjk => by
            by_cases h : j = k
            · subst h; rw [hq]; exact e
            · exact hall.out j hj (by omega)
          have HNO : Hid (q = false → (ikeys x.dels).all madeI = false) := fun e => made_not hlt (by rw [hq]; exact e)
          obtain ⟨hbx, hdx⟩ := id_box wr x.dels[k]
          have CM := Lib.hid (opmade_any x.dels[k] (wr.alloc (.cells #[.string x.dels[k].p, .int .i64 x.dels[k].n] 81)) hz q hq)
          have HDX := Lib.hid hdx
          have HBX := Lib.hid (hbr.out.trans (hbx.mono hbr.out.size))
          have u0 : (0 : Int) ≤ (k : Int) := by omega
          have u1 : (k : Int) < (x.dels.length : Int) := by omega
          rw [e4]
          clear hall hbr hq hz hbx hdx
          generalize x.dels[k] = y at *
          go_upto_region 6 with (fail)
          -- @P2
          have y0 := id_c0 HDX.out
          have y1 := id_c1 HDX.out
          generalize (wr.alloc (.cells #[.string y.p, .int .i64 y.n] 81)) = wx at *
          go_wp2_with fail
          refine CM.out.mono ?_
          rintro e w3 ⟨rfl, hb⟩
          have HB3 := Lib.hid (HBX.out.trans (hb.mono HBX.out.size))
          clear hb CM HDX HBX y0 y1
          cases q
          · have HV : Hid (spannedO x.key = false) := by show _ = _; rw [span_parts, show x.key.dels = ikeys x.dels from rfl, HNO.out rfl]; simp
            have HF3 := Lib.hid (HF.out.trans (HB3.out.mono HF.out.size))
            clear HYES HNO
            go_wp2
            go_ret
            rw [HV.out]
            exact ⟨rfl, HF3.out⟩
          · have HY2 : Hid (∀ j (hj : j < x.dels.length), j < k + 1 → madeI x.dels[j].key = true) := HYES.out rfl
            clear HYES HNO
            go_wp2
            go_roundw
            case rel => exact ⟨k + 1, by omega, by go_num, HY2, HB3⟩
            case measure => simp [intOf]; omega
        · obtain rfl : k = x.dels.length := by omega
          have HALL : Hid ((ikeys x.dels).all madeI = true) := made_all fun j hj => hall.out j hj hj
          replace HX := Lib.hid (HX.out.on hbr.out)
          replace HF := Lib.hid (HF.out.trans (hbr.out.mono HF.out.size))
          replace OX := Lib.hid (OX.out.on hbr.out)
          clear hall hbr hk hlt
          have hc := op_cells HX.out
          have c_leftp := hc.leftp
          have c_leftn := hc.leftn
          have c_rightp := hc.rightp
          have c_rightn := hc.rightn
          have hal : Below wr.heap.size wr (wr.alloc (.cells #[.string x.left.p, .int .i64 x.left.n, .string x.right.p, .int .i64 x.right.n] 81)) := (Below.refl _ _).alloc (Nat.le_refl _) _
          have c_dels := (op_cells (HX.out.on hal)).dels
          have HO : Hid (OwnId (wr.alloc (.cells #[.string x.left.p, .int .i64 x.left.n, .string x.right.p, .int .i64 x.right.n] 81)) wr.heap.size (.slice (some ⟨wr.heap.size, 0, none⟩) 2 2) [x.left, x.right]) :=
            World.ownsRow_lit (base := wr.heap.size) (e := 81) (size := 2) wr #[.string x.left.p, .int .i64 x.left.n, .string x.right.p, .int .i64 x.right.n] 2 (Nat.le_refl _) (by decide) rfl
          have HD := Lib.hid (OX.out.on hal)
          have HAL := Lib.hid hal
          obtain ⟨M, hM⟩ : ∃ M, M = [x.left, x.right].length + x.dels.length := ⟨_, rfl⟩
          have HM := Lib.hid hM
          have hle : [x.left, x.right].length + x.dels.length ≤ 1000000 := by simp only [List.length_cons, List.length_nil]; omega
          clear hal hc hM
          -- @P3
          go_wp2_with (at_builtin; refine idR.wpList_append rfl _ _ rfl wr.heap.size (.slice (some ⟨wr.heap.size, 0, none⟩) 2 2) [x.left, x.right] x.dels rfl HO.out x.a1 x.c1 x.dels.length rfl rfl HD.out.room1.1 HD.out.dels HAL.out.size hle M HM.out ?_)
          intro A3 c3 wd ho hg
          have hbc := Rk.Own.app HAL.out HO.out hg (Nat.le_refl _)
          obtain ⟨hn3, hrow, hroom, _, _⟩ := ho.parts
          have hn4 : M = (lrd x).length := hn3
          have HROW : Hid (Ids wd wd.heap.size A3 (lrd x)) := hrow
          have HROOM : Hid (Room A3 (lrd x).length c3) := hroom
          replace HF := Lib.hid (HF.out.trans (hbc.mono HF.out.size))
          have CS0 := idset_any A3 (lrd x) c3 wd HROW.out HROOM.out (by rw [lrd_len]; omega)
          rw [← hn4] at CS0
          have CS := Lib.hid CS0
          have HN : Hid (M = (lrd x).length) := hn4
          clear CS0 ho hg hbc hn3 hn4 hrow hroom HO HD HAL HM hle c_leftp c_leftn c_rightp c_rightn c_dels HROW HROOM
          go_wp2_with fail
          refine CS.out.mono ?_
          rintro e w4 ⟨A5, n5, c5, l5, rfl, hk5, ho5, hb5⟩
          have hn5 := ho5.parts.1
          have HF4 := Lib.hid (HF.out.trans (hb5.mono HF.out.size))
          have HV : Hid (spannedO x.key = decide (n5 = M)) := by
            show _ = _
            rw [span_parts, HS1.out, show x.key.dels = ikeys x.dels from rfl, HALL.out, hn5, HN.out, Bool.true_and, Bool.true_and]
            have e1 : (setI (ikeys (lrd x))).length = l5.length := by rw [← hk5, ikeys_len]
            have e2 : (ikeys (lrd x)).length = (lrd x).length := ikeys_len _
            rw [lrd_keys] at e1 e2
            show decide ((setI (x.left.key :: x.right.key :: ikeys x.dels)).length = (x.left.key :: x.right.key :: ikeys x.dels).length) = _
            rw [e1, e2]
          clear hk5 ho5 hb5 hn5 CS HS1 HALL HN
          by_cases hq : n5 = M
          · have q1 : ((n5 : Int) == (M : Int)) = true := by rw [beq_iff_eq]; omega
            have HV2 : Hid (spannedO x.key = true) := HV.out.trans (decide_eq_true hq)
            clear HV hq
            go_wp2
            go_ret
            rw [HV2.out]
            exact ⟨rfl, HF4.out⟩
          · have q1 : ((n5 : Int) == (M : Int)) = false := by rw [beq_eq_false_iff_ne]; omega
            have HV2 : Hid (spannedO x.key = false) := HV.out.trans (decide_eq_false hq)
            clear HV hq
            go_wp2
            go_ret
            rw [HV2.out]
            exact ⟨rfl, HF4.out⟩
    · have HS1 : Hid (((decide (x.key.left = ([], 1)) || madeI x.key.left) && (decide (x.key.right = ([], 2)) || madeI x.key.right)) = false) := by
        have h1 := HTB.out
        show _ = _
        cases h : ((decide (x.key.left = ([], 1)) || madeI x.key.left) && (decide (x.key.right = ([], 2)) || madeI x.key.right))
        · rfl
        · rw [h] at h1; cases h1
      have HV : Hid (spannedO x.key = false) := by show _ = _; rw [span_parts, HS1.out]; rfl
      clear HTB HS1
      go_wp2
      go_ret
      rw [HV.out]
      exact ⟨rfl, HF.out⟩
set_option maxHeartbeats 8000000 in
set_option maxRecDepth 100000 in
theorem opformed_any (x : Om) (w : World) (ox : x.Ok w w.heap.size) (sx : x.Sz) (hT : Tabs w) (r : Bool) (hr : formedO x.key = r) :
    Calls Tryz.prog 124 #[.agg #[.int .i64 x.kind, .string x.self.p, .int .i64 x.self.n, .string x.parent.p, .int .i64 x.parent.n, .string x.dst.p, .int .i64 x.dst.n, .string x.name, .string x.dname, .string x.left.p, .int .i64 x.left.n, .string x.right.p, .int .i64 x.right.n, .slice x.a1 x.dels.length x.c1, .int .i64 x.first, .slice x.a2 x.lines.length x.c2]] w fun e w' => e = .returned (.bool r) ∧ Below w.heap.size w w' := by
  subst hr
  obtain ⟨hb, hx⟩ := op_box w x
  have HX := Lib.hid hx
  have HF := Lib.hid hb
  have OX := Lib.hid (ox.on hb)
  have HT := Lib.hid (Tabs.on hT hb)
  clear hT
  clear hb hx ox
  go_enter Tryz.func124, Tryz.ntmps124
  go_upto_region 1 with (fail)
  generalize (w.alloc (.cells #[.int .i64 x.kind, .string x.self.p, .int .i64 x.self.n, .string x.parent.p, .int .i64 x.parent.n, .string x.dst.p, .int .i64 x.dst.n, .string x.name, .string x.dname, .string x.left.p, .int .i64 x.left.n, .string x.right.p, .int .i64 x.right.n, .slice x.a1 x.dels.length x.c1, .int .i64 x.first, .slice x.a2 x.lines.length x.c2] 84)) = wb at *
  have HG : Hid (Below wb.heap.size wb wb) := Below.refl _ _
  have hc := op_cells HX.out
  have c_kind := hc.kind
  clear hc
  by_cases h17 : x.kind = 1
  · have q17_0 : (x.kind == 1) = true := by simpa using h17
    have HH17_0 : Hid (x.key.kind = 1) := h17
    clear h17
    obtain ⟨b18, hb18⟩ : ∃ b, madeI x.key.self = b := ⟨_, rfl⟩
    have HQ18 := Lib.hid hb18
    have hc := op_cells HX.out
    have c_selfp := hc.selfp
    have c_selfn := hc.selfn
    have CQ := Lib.hid (fun W (hW : Below wb.heap.size wb W) => opmade_any x.self W sx.self b18 hb18)
    clear hc hb18
    go_wp2_with fail
    refine (CQ.out _ HG.out).mono ?_
    rintro e w18 ⟨rfl, hb⟩
    replace HX := Lib.hid (HX.out.on hb)
    replace HF := Lib.hid (HF.out.trans (hb.mono HF.out.size))
    replace HG := Lib.hid (HG.out.trans (hb.mono HG.out.size))
    clear hb CQ c_selfp c_selfn
    cases b18
    · have HV : Hid (formedO x.key = false) := by
        show _ = _
        simp [formedO, HH17_0.out, HQ18.out]
      -- @L1
      go_wp2
      go_ret
      rw [HV.out]
      exact ⟨rfl, HF.out⟩
    · obtain ⟨b19, hb19⟩ : ∃ b, placedO x.key.parent x.key.name = b := ⟨_, rfl⟩
      have HQ19 := Lib.hid hb19
      have hc := op_cells HX.out
      have c_parentp := hc.parentp
      have c_parentn := hc.parentn
      have c_name := hc.name
      have CQ := Lib.hid (fun W (hW : Below wb.heap.size wb W) => opplaced_any x.parent x.name W sx.parent sx.name b19 hb19)
      clear hc hb19
      go_wp2_with fail
      refine (CQ.out _ HG.out).mono ?_
      rintro e w19 ⟨rfl, hb⟩
      replace HX := Lib.hid (HX.out.on hb)
      replace HF := Lib.hid (HF.out.trans (hb.mono HF.out.size))
      replace HG := Lib.hid (HG.out.trans (hb.mono HG.out.size))
      clear hb CQ c_parentp c_parentn c_name
      have HV : Hid (formedO x.key = b19) := by
        show _ = _
        simp [formedO, HH17_0.out, HQ18.out, HQ19.out]
      -- @L2
      go_wp2
      go_ret
      rw [HV.out]
      exact ⟨rfl, HF.out⟩
  · have q17_0 : (x.kind == 1) = false := by simpa using h17
    have HH17_0 : Hid (x.key.kind ≠ 1) := h17
    clear h17
    by_cases h20 : x.kind = 2
    · have q20_0 : (x.kind == 2) = true := by simpa using h20
      have HH20_0 : Hid (x.key.kind = 2) := h20
      clear h20
      obtain ⟨b21, hb21⟩ : ∃ b, madeI x.key.self = b := ⟨_, rfl⟩
      have HQ21 := Lib.hid hb21
      have hc := op_cells HX.out
      have c_selfp := hc.selfp
      have c_selfn := hc.selfn
      have CQ := Lib.hid (fun W (hW : Below wb.heap.size wb W) => opmade_any x.self W sx.self b21 hb21)
      clear hc hb21
      go_wp2_with fail
      refine (CQ.out _ HG.out).mono ?_
      rintro e w21 ⟨rfl, hb⟩
      replace HX := Lib.hid (HX.out.on hb)
      replace HF := Lib.hid (HF.out.trans (hb.mono HF.out.size))
      replace HG := Lib.hid (HG.out.trans (hb.mono HG.out.size))
      clear hb CQ c_selfp c_selfn
      cases b21
      · have HV : Hid (formedO x.key = false) := by
          show _ = _
          simp [formedO, HH20_0.out, HQ21.out]
        -- @L3
        go_wp2
        go_ret
        rw [HV.out]
        exact ⟨rfl, HF.out⟩
      · obtain ⟨b22, hb22⟩ : ∃ b, placedO x.key.parent x.key.name = b := ⟨_, rfl⟩
        have HQ22 := Lib.hid hb22
        have hc := op_cells HX.out
        have c_parentp := hc.parentp
        have c_parentn := hc.parentn
        have c_name := hc.name
        have CQ := Lib.hid (fun W (hW : Below wb.heap.size wb W) => opplaced_any x.parent x.name W sx.parent sx.name b22 hb22)
        clear hc hb22
        go_wp2_with fail
        refine (CQ.out _ HG.out).mono ?_
        rintro e w22 ⟨rfl, hb⟩
        replace HX := Lib.hid (HX.out.on hb)
        replace HF := Lib.hid (HF.out.trans (hb.mono HF.out.size))
        replace HG := Lib.hid (HG.out.trans (hb.mono HG.out.size))
        clear hb CQ c_parentp c_parentn c_name
        have HV : Hid (formedO x.key = b22) := by
          show _ = _
          simp [formedO, HH20_0.out, HQ21.out, HQ22.out]
        -- @L4
        go_wp2
        go_ret
        rw [HV.out]
        exact ⟨rfl, HF.out⟩
    · have q20_0 : (x.kind == 2) = false := by simpa using h20
      have HH20_0 : Hid (x.key.kind ≠ 2) := h20
      clear h20
      by_cases h23 : x.kind = 3
      · have q23_0 : (x.kind == 3) = true := by simpa using h23
        have HH23_0 : Hid (x.key.kind = 3) := h23
        clear h23
        obtain ⟨b24, hb24⟩ : ∃ b, madeI x.key.self = b := ⟨_, rfl⟩
        have HQ24 := Lib.hid hb24
        have hc := op_cells HX.out
        have c_selfp := hc.selfp
        have c_selfn := hc.selfn
        have CQ := Lib.hid (fun W (hW : Below wb.heap.size wb W) => opmade_any x.self W sx.self b24 hb24)
        clear hc hb24
        go_wp2_with fail
        refine (CQ.out _ HG.out).mono ?_
        rintro e w24 ⟨rfl, hb⟩
        replace HX := Lib.hid (HX.out.on hb)
        replace HF := Lib.hid (HF.out.trans (hb.mono HF.out.size))
        replace HG := Lib.hid (HG.out.trans (hb.mono HG.out.size))
        clear hb CQ c_selfp c_selfn
        cases b24
        · have HV : Hid (formedO x.key = false) := by
            show _ = _
            simp [formedO, HH23_0.out, HQ24.out]
          -- @L5
          go_wp2
          go_ret
          rw [HV.out]
          exact ⟨rfl, HF.out⟩
        · obtain ⟨b25, hb25⟩ : ∃ b, placedO x.key.parent x.key.name = b := ⟨_, rfl⟩
          have HQ25 := Lib.hid hb25
          have hc := op_cells HX.out
          have c_parentp := hc.parentp
          have c_parentn := hc.parentn
          have c_name := hc.name
          have CQ := Lib.hid (fun W (hW : Below wb.heap.size wb W) => opplaced_any x.parent x.name W sx.parent sx.name b25 hb25)
          clear hc hb25
          go_wp2_with fail
          refine (CQ.out _ HG.out).mono ?_
          rintro e w25 ⟨rfl, hb⟩
          replace HX := Lib.hid (HX.out.on hb)
          replace HF := Lib.hid (HF.out.trans (hb.mono HF.out.size))
          replace HG := Lib.hid (HG.out.trans (hb.mono HG.out.size))
          clear hb CQ c_parentp c_parentn c_name
          have HV : Hid (formedO x.key = b25) := by
            show _ = _
            simp [formedO, HH23_0.out, HQ24.out, HQ25.out]
          -- @L6
          go_wp2
          go_ret
          rw [HV.out]
          exact ⟨rfl, HF.out⟩
      · have q23_0 : (x.kind == 3) = false := by simpa using h23
        have HH23_0 : Hid (x.key.kind ≠ 3) := h23
        clear h23
        by_cases h26 : x.kind = 4
        · have q26_0 : (x.kind == 4) = true := by simpa using h26
          have HH26_0 : Hid (x.key.kind = 4) := h26
          clear h26
          obtain ⟨b27, hb27⟩ : ∃ b, madeI x.key.self = b := ⟨_, rfl⟩
          have HQ27 := Lib.hid hb27
          have hc := op_cells HX.out
          have c_selfp := hc.selfp
          have c_selfn := hc.selfn
          have CQ := Lib.hid (fun W (hW : Below wb.heap.size wb W) => opmade_any x.self W sx.self b27 hb27)
          clear hc hb27
          go_wp2_with fail
          refine (CQ.out _ HG.out).mono ?_
          rintro e w27 ⟨rfl, hb⟩
          replace HX := Lib.hid (HX.out.on hb)
          replace HF := Lib.hid (HF.out.trans (hb.mono HF.out.size))
          replace HG := Lib.hid (HG.out.trans (hb.mono HG.out.size))
          clear hb CQ c_selfp c_selfn
          cases b27
          · have HV : Hid (formedO x.key = false) := by
              show _ = _
              simp [formedO, HH26_0.out, HQ27.out]
            -- @L7
            go_wp2
            go_ret
            rw [HV.out]
            exact ⟨rfl, HF.out⟩
          · obtain ⟨b28, hb28⟩ : ∃ b, movedO x.key = b := ⟨_, rfl⟩
            have HQ28 := Lib.hid hb28
            have hc := op_cells HX.out
            have c_kind := hc.kind
            have c_selfp := hc.selfp
            have c_selfn := hc.selfn
            have c_parentp := hc.parentp
            have c_parentn := hc.parentn
            have c_dstp := hc.dstp
            have c_dstn := hc.dstn
            have c_name := hc.name
            have c_dname := hc.dname
            have c_leftp := hc.leftp
            have c_leftn := hc.leftn
            have c_rightp := hc.rightp
            have c_rightn := hc.rightn
            have c_dels := hc.dels
            have c_first := hc.first
            have c_lines := hc.lines
            have CQ := Lib.hid (fun W (hW : Below wb.heap.size wb W) => opmoved_any x W (OX.out.on hW) sx b28 hb28)
            clear hc hb28
            go_wp2_with fail
            refine (CQ.out _ HG.out).mono ?_
            rintro e w28 ⟨rfl, hb⟩
            replace HX := Lib.hid (HX.out.on hb)
            replace HF := Lib.hid (HF.out.trans (hb.mono HF.out.size))
            replace HG := Lib.hid (HG.out.trans (hb.mono HG.out.size))
            clear hb CQ c_kind c_selfp c_selfn c_parentp c_parentn c_dstp c_dstn c_name c_dname c_leftp c_leftn c_rightp c_rightn c_dels c_first c_lines
            have HV : Hid (formedO x.key = b28) := by
              show _ = _
              simp [formedO, HH26_0.out, HQ27.out, HQ28.out]
            -- @L8
            go_wp2
            go_ret
            rw [HV.out]
            exact ⟨rfl, HF.out⟩
        · have q26_0 : (x.kind == 4) = false := by simpa using h26
          have HH26_0 : Hid (x.key.kind ≠ 4) := h26
          clear h26
          by_cases h29 : x.kind = 5
          · have q29_0 : (x.kind == 5) = true := by simpa using h29
            have HH29_0 : Hid (x.key.kind = 5) := h29
            clear h29
            obtain ⟨b30, hb30⟩ : ∃ b, madeI x.key.self = b := ⟨_, rfl⟩
            have HQ30 := Lib.hid hb30
            have hc := op_cells HX.out
            have c_selfp := hc.selfp
            have c_selfn := hc.selfn
            have CQ := Lib.hid (fun W (hW : Below wb.heap.size wb W) => opmade_any x.self W sx.self b30 hb30)
            clear hc hb30
            go_wp2_with fail
            refine (CQ.out _ HG.out).mono ?_
            rintro e w30 ⟨rfl, hb⟩
            replace HX := Lib.hid (HX.out.on hb)
            replace HF := Lib.hid (HF.out.trans (hb.mono HF.out.size))
            replace HG := Lib.hid (HG.out.trans (hb.mono HG.out.size))
            clear hb CQ c_selfp c_selfn
            cases b30
            · have HV : Hid (formedO x.key = false) := by
                show _ = _
                simp [formedO, HH29_0.out, HQ30.out]
              -- @L9
              go_wp2
              go_ret
              rw [HV.out]
              exact ⟨rfl, HF.out⟩
            · have hc := op_cells HX.out
              have c_dels := hc.dels
              clear hc
              by_cases h31 : x.dels.length ≤ 2000
              · have q31_0 : (x.dels.length : Int) ≤ 2000 := by omega
                have q31_1 : x.dels.length ≤ 2000 := h31
                have hfew : x.dels.length ≤ 2000 := h31
                have HH31_0 : Hid (x.key.dels.length ≤ 2000) := show (ikeys x.dels).length ≤ 2000 by rw [ikeys_len]; exact h31
                clear h31
                obtain ⟨b32, hb32⟩ : ∃ b, spannedO x.key = b := ⟨_, rfl⟩
                have HQ32 := Lib.hid hb32
                have hc := op_cells HX.out
                have c_kind := hc.kind
                have c_selfp := hc.selfp
                have c_selfn := hc.selfn
                have c_parentp := hc.parentp
                have c_parentn := hc.parentn
                have c_dstp := hc.dstp
                have c_dstn := hc.dstn
                have c_name := hc.name
                have c_dname := hc.dname
                have c_leftp := hc.leftp
                have c_leftn := hc.leftn
                have c_rightp := hc.rightp
                have c_rightn := hc.rightn
                have c_dels := hc.dels
                have c_first := hc.first
                have c_lines := hc.lines
                have CQ := Lib.hid (fun W (hW : Below wb.heap.size wb W) => opspanned_any x W (OX.out.on hW) sx hfew b32 hb32)
                clear hc hb32
                go_wp2_with fail
                refine (CQ.out _ HG.out).mono ?_
                rintro e w32 ⟨rfl, hb⟩
                replace HX := Lib.hid (HX.out.on hb)
                replace HF := Lib.hid (HF.out.trans (hb.mono HF.out.size))
                replace HG := Lib.hid (HG.out.trans (hb.mono HG.out.size))
                clear hb CQ c_kind c_selfp c_selfn c_parentp c_parentn c_dstp c_dstn c_name c_dname c_leftp c_leftn c_rightp c_rightn c_dels c_first c_lines
                cases b32
                · have HV : Hid (formedO x.key = false) := by
                    show _ = _
                    simp [formedO, HH29_0.out, HQ30.out, HH31_0.out, HQ32.out]
                  -- @L10
                  go_wp2
                  go_ret
                  rw [HV.out]
                  exact ⟨rfl, HF.out⟩
                · obtain ⟨b33, hb33⟩ : ∃ b, linedO x.key = b := ⟨_, rfl⟩
                  have HQ33 := Lib.hid hb33
                  have hc := op_cells HX.out
                  have c_kind := hc.kind
                  have c_selfp := hc.selfp
                  have c_selfn := hc.selfn
                  have c_parentp := hc.parentp
                  have c_parentn := hc.parentn
                  have c_dstp := hc.dstp
                  have c_dstn := hc.dstn
                  have c_name := hc.name
                  have c_dname := hc.dname
                  have c_leftp := hc.leftp
                  have c_leftn := hc.leftn
                  have c_rightp := hc.rightp
                  have c_rightn := hc.rightn
                  have c_dels := hc.dels
                  have c_first := hc.first
                  have c_lines := hc.lines
                  have CQ := Lib.hid (fun W (hW : Below wb.heap.size wb W) => oplined_any x W (OX.out.on hW) sx (Tabs.on HT.out hW) b33 hb33)
                  clear hc hb33
                  go_wp2_with fail
                  refine (CQ.out _ HG.out).mono ?_
                  rintro e w33 ⟨rfl, hb⟩
                  replace HX := Lib.hid (HX.out.on hb)
                  replace HF := Lib.hid (HF.out.trans (hb.mono HF.out.size))
                  replace HG := Lib.hid (HG.out.trans (hb.mono HG.out.size))
                  clear hb CQ c_kind c_selfp c_selfn c_parentp c_parentn c_dstp c_dstn c_name c_dname c_leftp c_leftn c_rightp c_rightn c_dels c_first c_lines
                  have HV : Hid (formedO x.key = b33) := by
                    show _ = _
                    simp [formedO, HH29_0.out, HQ30.out, HH31_0.out, HQ32.out, HQ33.out]
                  -- @L11
                  go_wp2
                  go_ret
                  rw [HV.out]
                  exact ⟨rfl, HF.out⟩
              · have q31_0 : ¬ (x.dels.length : Int) ≤ 2000 := by omega
                have HH31_0 : Hid (¬ x.key.dels.length ≤ 2000) := fun e => h31 (by have h9 : (ikeys x.dels).length ≤ 2000 := e; rwa [ikeys_len] at h9)
                clear h31
                have HV : Hid (formedO x.key = false) := by
                  show _ = _
                  simp [formedO, HH29_0.out, HQ30.out, HH31_0.out]
                -- @L12
                go_wp2
                go_ret
                rw [HV.out]
                exact ⟨rfl, HF.out⟩
          · have q29_0 : (x.kind == 5) = false := by simpa using h29
            have HH29_0 : Hid (x.key.kind ≠ 5) := h29
            clear h29
            have HV : Hid (formedO x.key = false) := by
              show _ = _
              simp [formedO, HH17_0.out, HH20_0.out, HH23_0.out, HH26_0.out, HH29_0.out]
            -- @L13
            go_wp2
            go_ret
            rw [HV.out]
            exact ⟨rfl, HF.out⟩
end Go.Proofs.YtifkpelcdihdoaaGreatDoor
