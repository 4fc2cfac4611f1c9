/- Package ident's Root, Begin, End; Has: the library's Index, Contains of ids. The reference's made, or, none of ids. Package op: which ids are made, which places are right. Package lines' Same: the library's Equal of texts. -/
import Derived.BigQuiet
import Derived.Deep.QuietTactic
import Derived.Lib.QuietBelow
import Derived.Test.YtioknegeebgdbaaGreatDoorShelf
import Derived.Test.YtioknegeebgdbaaGreatDoorCk07
namespace Go.Proofs.YtioknegeebgdbaaGreatDoor
open Go.RowKit
set_option linter.unusedVariables false

theorem root_any (w : World) : Calls Tryz.prog 75 #[] w fun e w' => e = .returned (Im.val ⟨⟨#[]⟩, 0⟩) ∧ Below w.heap.size w w' := by
  obtain ⟨hb, hx⟩ := id_box w ⟨⟨#[]⟩, 0⟩
  have HX := Lib.hid hx
  have HB := Lib.hid hb
  clear hb hx
  go_enter Tryz.func75, Tryz.ntmps75
  go_wp2
  (try simp only [Exit.inBlock, Exit.then])
  refine bodyPost_ret (ret_id rfl _ _ _ ⟨⟨#[]⟩, 0⟩ rfl HX.out) rfl ?_
  exact ⟨rfl, HB.out⟩
theorem begin_any (w : World) : Calls Tryz.prog 76 #[] w fun e w' => e = .returned (Im.val ⟨⟨#[]⟩, 1⟩) ∧ Below w.heap.size w w' := by
  obtain ⟨hb, hx⟩ := id_box w ⟨⟨#[]⟩, 1⟩
  have HX := Lib.hid hx
  have HB := Lib.hid hb
  clear hb hx
  go_enter Tryz.func76, Tryz.ntmps76
  go_wp2
  (try simp only [Exit.inBlock, Exit.then])
  refine bodyPost_ret (ret_id rfl _ _ _ ⟨⟨#[]⟩, 1⟩ rfl HX.out) rfl ?_
  exact ⟨rfl, HB.out⟩
theorem end_any (w : World) : Calls Tryz.prog 77 #[] w fun e w' => e = .returned (Im.val ⟨⟨#[]⟩, 2⟩) ∧ Below w.heap.size w w' := by
  obtain ⟨hb, hx⟩ := id_box w ⟨⟨#[]⟩, 2⟩
  have HX := Lib.hid hx
  have HB := Lib.hid hb
  clear hb hx
  go_enter Tryz.func77, Tryz.ntmps77
  go_wp2
  (try simp only [Exit.inBlock, Exit.then])
  refine bodyPost_ret (ret_id rfl _ _ _ ⟨⟨#[]⟩, 2⟩ rfl HX.out) rfl ?_
  exact ⟨rfl, HB.out⟩
end Go.Proofs.YtioknegeebgdbaaGreatDoor
namespace Go.Proofs.YtioknegeebgdbaaGreatDoor
open Go.RowKit
set_option linter.unusedVariables false

theorem none_iff (x : Im) : decide (x = ⟨⟨#[]⟩, 0⟩) = noneI x.key := by
  unfold noneI
  exact decide_eq_decide.2 ⟨fun h => by rw [h]; rfl, fun h => Im.key_inj h⟩
set_option maxHeartbeats 1000000 in
set_option maxRecDepth 100000 in
theorem refnone_any (x : Im) (w : World) (r : Bool) (hr : noneI x.key = r) :
    Calls Tryz.prog 23 #[.agg #[.string x.p, .int .i64 x.n]] w fun e w' => e = .returned (.bool r) ∧ Below w.heap.size w w' := by
  obtain ⟨hb, hx⟩ := id_box w x
  have HB := Lib.hid hb
  have x0 := id_c0 hx
  have x1 := id_c1 hx
  have EQ := fun W => eql_id x ⟨⟨#[]⟩, 0⟩ W
  rw [none_iff, hr] at EQ
  clear hb hx hr
  go_enter Tryz.func23, Tryz.ntmps23
  go_wp2
  go_ret
  exact ⟨rfl, HB.out⟩
theorem made_iff (x : Im) : madeI x.key = (okK x.key && !decide (x.p = ⟨#[]⟩)) := by
  unfold madeI
  congr 1
  rw [← decide_not]
  exact decide_eq_decide.2 ⟨fun h e => h (by show x.p.data.toList = []; rw [e]), fun h e => h (bytes_inj (t := ⟨#[]⟩) (by have e2 : x.p.data.toList = [] := e; rw [e2]))⟩
set_option maxHeartbeats 1000000 in
set_option maxRecDepth 100000 in
theorem refmade_any (x : Im) (w : World) (ox : x.p.size ≤ 9223372036854775807) (r : Bool) (hr : madeI x.key = r) :
    Calls Tryz.prog 22 #[.agg #[.string x.p, .int .i64 x.n]] w fun e w' => e = .returned (.bool r) ∧ Below w.heap.size w w' := by
  obtain ⟨hb, hx⟩ := id_box w x
  have HB := Lib.hid hb
  have HX := Lib.hid hx
  have CR := Lib.hid (refiright_any x (w.alloc (.cells #[.string x.p, .int .i64 x.n] 23)) ox)
  rw [made_iff] at hr
  have hok : okI (fun l => rightB (toB l)) x.key = okK x.key := rfl
  rw [hok] at CR
  unfold Im.val at CR
  cases h1 : okK x.key
  · rw [h1] at CR hr
    obtain rfl : r = false := by rw [← hr]; rfl
    clear hb hx hr hok h1
    have x0 := id_c0 HX.out
    have x1 := id_c1 HX.out
    go_enter Tryz.func22, Tryz.ntmps22
    go_wp2_with fail
    refine CR.out.mono ?_
    rintro e w1 ⟨rfl, hb1⟩
    have HF := Lib.hid (HB.out.trans (hb1.mono HB.out.size))
    clear hb1 CR x0 x1
    go_wp2
    go_ret
    exact ⟨rfl, HF.out⟩
  · rw [h1, Bool.true_and] at hr
    rw [h1] at CR
    clear hb hx hok h1
    have x0 := id_c0 HX.out
    have x1 := id_c1 HX.out
    by_cases hp : x.p = ⟨#[]⟩
    · rw [decide_eq_true hp] at hr
      obtain rfl : r = false := hr.symm
      have n1 : (x.p.toList == []) = true := by rw [hp, toList_eq]; rfl
      clear hr hp
      go_enter Tryz.func22, Tryz.ntmps22
      go_wp2_with fail
      refine CR.out.mono ?_
      rintro e w1 ⟨rfl, hb1⟩
      have HF := Lib.hid (HB.out.trans (hb1.mono HB.out.size))
      have x0 := id_c0 (HX.out.on hb1)
      clear hb1 CR x1
      go_wp2
      go_ret
      exact ⟨rfl, HF.out⟩
    · rw [decide_eq_false hp] at hr
      obtain rfl : r = true := hr.symm
      have n1 := str_ne_empty hp
      clear hr hp
      go_enter Tryz.func22, Tryz.ntmps22
      go_wp2_with fail
      refine CR.out.mono ?_
      rintro e w1 ⟨rfl, hb1⟩
      have HF := Lib.hid (HB.out.trans (hb1.mono HB.out.size))
      have x0 := id_c0 (HX.out.on hb1)
      clear hb1 CR x1
      go_wp2
      go_ret
      exact ⟨rfl, HF.out⟩
theorem or_iff (x : Im) (n : Int) : orI x.key n = (madeI x.key || decide (x = ⟨⟨#[]⟩, n⟩)) := by
  unfold orI
  congr 1
  exact decide_eq_decide.2 ⟨fun h => Im.key_inj h, fun h => by rw [h]; rfl⟩
set_option maxHeartbeats 1000000 in
set_option maxRecDepth 100000 in
theorem refor_any (x : Im) (n : Int) (w : World) (ox : x.p.size ≤ 9223372036854775807) (r : Bool) (hr : orI x.key n = r) :
    Calls Tryz.prog 25 #[.agg #[.string x.p, .int .i64 x.n], .int .i64 n] w fun e w' => e = .returned (.bool r) ∧ Below w.heap.size w w' := by
  obtain ⟨hb, hx⟩ := id_box w x
  have HB := Lib.hid hb
  have HX := Lib.hid hx
  have CM := Lib.hid (fun r hr => refmade_any x (w.alloc (.cells #[.string x.p, .int .i64 x.n] 23)) ox r hr)
  rw [or_iff] at hr
  cases h1 : madeI x.key
  · rw [h1, Bool.false_or] at hr
    have CR := Lib.hid (CM.out false h1)
    have EQ := fun W => eql_id x ⟨⟨#[]⟩, n⟩ W
    rw [hr] at EQ
    clear hb hx hr h1 CM
    have x0 := id_c0 HX.out
    have x1 := id_c1 HX.out
    go_enter Tryz.func25, Tryz.ntmps25
    go_wp2_with fail
    refine CR.out.mono ?_
    rintro e w1 ⟨rfl, hb1⟩
    have HF := Lib.hid (HB.out.trans (hb1.mono HB.out.size))
    have x0 := id_c0 (HX.out.on hb1)
    have x1 := id_c1 (HX.out.on hb1)
    clear hb1 CR
    go_wp2
    go_ret
    exact ⟨rfl, HF.out⟩
  · rw [h1, Bool.true_or] at hr
    obtain rfl : r = true := hr.symm
    have CR := Lib.hid (CM.out true h1)
    clear hb hx hr h1 CM
    have x0 := id_c0 HX.out
    have x1 := id_c1 HX.out
    go_enter Tryz.func25, Tryz.ntmps25
    go_wp2_with fail
    refine CR.out.mono ?_
    rintro e w1 ⟨rfl, hb1⟩
    have HF := Lib.hid (HB.out.trans (hb1.mono HB.out.size))
    clear hb1 CR x0 x1
    go_wp2
    go_ret
    exact ⟨rfl, HF.out⟩
end Go.Proofs.YtioknegeebgdbaaGreatDoor
namespace Go.Proofs.YtioknegeebgdbaaGreatDoor
open Go.RowKit
open Go.Sort
set_option linter.unusedVariables false

/-- A callee's contract that ends in 'Below', met in the class of worlds of a region that is walked once. -/
theorem q_of {P : Program} {f : FuncId} {args : Array Value} {w : World} {v : Value} (h : ∀ W, Below w.heap.size w W → Calls P f args W fun e w' => e = .returned v ∧ Below W.heap.size W w') (d : Nat) (os : Array Obj) :
    Calls P f args (grow (redrawn w d) os) fun e w'' => e = .returned v ∧ ∃ p : Regrown, w'' = grow (redrawn w p.d) p.os := Calls.regrown_of (h _ (below_regrown w d os))
theorem nobody_iff (x : Im) : decide (x.p = ⟨#[]⟩) = decide (x.key.1 = []) := decide_eq_decide.2 ⟨fun e => by show x.p.data.toList = []; rw [e], fun e => bytes_inj (t := ⟨#[]⟩) (show x.p.data.toList = [] from e)⟩
set_option maxHeartbeats 1000000 in
set_option maxRecDepth 100000 in
theorem opnobody_any (x : Im) (w : World) (r : Bool) (hr : decide (x.key.1 = []) = r) :
    Calls Tryz.prog 42 #[.agg #[.string x.p, .int .i64 x.n]] w fun e w' => e = .returned (.bool r) ∧ Below w.heap.size w w' := by
  obtain ⟨hb, hx⟩ := id_box w x
  have HB := Lib.hid hb
  have x0 := id_c0 hx
  have x1 := id_c1 hx
  rw [← nobody_iff] at hr
  clear hb hx
  by_cases hp : x.p = ⟨#[]⟩
  · rw [decide_eq_true hp] at hr
    obtain rfl : r = true := hr.symm
    have n1 : (x.p.toList == []) = true := by rw [hp, toList_eq]; rfl
    clear hr hp
    go_enter Tryz.func42, Tryz.ntmps42
    go_wp2
    go_ret
    exact ⟨rfl, HB.out⟩
  · rw [decide_eq_false hp] at hr
    obtain rfl : r = false := hr.symm
    have n1 := str_ne_empty hp
    clear hr hp
    go_enter Tryz.func42, Tryz.ntmps42
    go_wp2
    go_ret
    exact ⟨rfl, HB.out⟩
theorem opright_any (x : Im) (w : World) (ox : x.p.size ≤ 9223372036854775807) (r : Bool) (hr : okK x.key = r) :
    Calls Tryz.prog 45 #[.agg #[.string x.p, .int .i64 x.n]] w fun e w' => e = .returned (.bool r) ∧ Below w.heap.size w w' := by
  subst hr
  exact idright_any x w ox
set_option maxHeartbeats 1000000 in
set_option maxRecDepth 100000 in
theorem opmade_any (x : Im) (w : World) (ox : x.p.size ≤ 9223372036854775807) (r : Bool) (hr : madeI x.key = r) :
    Calls Tryz.prog 50 #[.agg #[.string x.p, .int .i64 x.n]] w fun e w' => e = .returned (.bool r) ∧ Below w.heap.size w w' := by
  obtain ⟨hb, hx⟩ := id_box w x
  have HB := Lib.hid hb
  have HX := Lib.hid hx
  have hm : madeI x.key = (okK x.key && !decide (x.key.1 = [])) := by unfold madeI; rw [← decide_not]
  rw [hm] at hr
  obtain ⟨b1, hb1⟩ : ∃ b, okK x.key = b := ⟨_, rfl⟩
  obtain ⟨b2, hb2⟩ : ∃ b, decide (x.key.1 = []) = b := ⟨_, rfl⟩
  have CR := Lib.hid (opright_any x (w.alloc (.cells #[.string x.p, .int .i64 x.n] 23)) ox b1 hb1)
  have CN := Lib.hid (fun W => opnobody_any x W b2 hb2)
  rw [hb1, hb2] at hr
  subst hr
  clear hb hx hm hb1 hb2
  have x0 := id_c0 HX.out
  have x1 := id_c1 HX.out
  go_enter Tryz.func50, Tryz.ntmps50
  go_wp2_with fail
  refine CR.out.mono ?_
  rintro e w1 ⟨rfl, hb1⟩
  have HF := Lib.hid (HB.out.trans (hb1.mono HB.out.size))
  have x0 := id_c0 (HX.out.on hb1)
  have x1 := id_c1 (HX.out.on hb1)
  clear hb1 CR
  cases b1
  · go_wp2
    go_ret
    exact ⟨rfl, HF.out⟩
  · go_wp2_with fail
    refine (CN.out _).mono ?_
    rintro e w2 ⟨rfl, hb2⟩
    have HF2 := Lib.hid (HF.out.trans (hb2.mono HF.out.size))
    clear hb2 CN x0 x1
    cases b2
    · go_wp2
      go_ret
      exact ⟨rfl, HF2.out⟩
    · go_wp2
      go_ret
      exact ⟨rfl, HF2.out⟩
theorem opname_any (p : ByteArray) (w : World) (hp : p.size ≤ 9223372036854775807) (r : Bool) (hr : nameK p.data.toList = r) :
    Calls Tryz.prog 72 #[.string p] w fun e w' => e = .returned (.bool r) ∧ Below w.heap.size w w' := by
  have h : rightB p = r := by rw [← hr]; unfold nameK; rw [toB_of]
  subst h
  exact right_any p w hp
theorem oproot_any (w : World) : Calls Tryz.prog 75 #[] w fun e w' => e = .returned (.agg #[.string ⟨#[]⟩, .int .i64 0]) ∧ Below w.heap.size w w' := root_any w
theorem opbegin_any (w : World) : Calls Tryz.prog 76 #[] w fun e w' => e = .returned (.agg #[.string ⟨#[]⟩, .int .i64 1]) ∧ Below w.heap.size w w' := begin_any w
theorem opend_any (w : World) : Calls Tryz.prog 77 #[] w fun e w' => e = .returned (.agg #[.string ⟨#[]⟩, .int .i64 2]) ∧ Below w.heap.size w w' := end_any w
theorem placed_key (d : Ik) (n : List UInt8) : placedO d n = ((noneI d || madeI d) && nameK n) := rfl
set_option maxHeartbeats 4000000 in
set_option maxRecDepth 100000 in
theorem opplaced_any (x : Im) (s : ByteArray) (w : World) (ox : x.p.size ≤ 9223372036854775807) (os : s.size ≤ 9223372036854775807) (r : Bool) (hr : placedO x.key s.data.toList = r) :
    Calls Tryz.prog 51 #[.agg #[.string x.p, .int .i64 x.n], .string s] w fun e w' => e = .returned (.bool r) ∧ Below w.heap.size w w' := by
  obtain ⟨hb, hx⟩ := id_box w x
  have HF := Lib.hid hb
  have HX := Lib.hid hx
  obtain ⟨q, hq⟩ : ∃ q, nameK s.data.toList = q := ⟨_, rfl⟩
  clear hb hx
  go_enter Tryz.func51, Tryz.ntmps51
  go_upto_region 1 with (fail)
  generalize (w.alloc (.cells #[.string x.p, .int .i64 x.n] 23)) = wb at *
  cases h1 : noneI x.key
  · cases h2 : madeI x.key
    · have EQ : ∀ W, (binOp .eql 23 (.agg #[.string x.p, .int .i64 x.n]) (.agg #[.string ⟨#[]⟩, .int .i64 0])).run Tryz.prog W = .ok (.bool false) W := fun W => by rw [show (⟨#[]⟩ : ByteArray) = (⟨⟨#[]⟩, 0⟩ : Im).p from rfl]; exact (eql_id x ⟨⟨#[]⟩, 0⟩ W).trans (by rw [none_iff, h1])
      have y0 := fun d os => cell_regrown (id_c0 HX.out) d os
      have y1 := fun d os => cell_regrown (id_c1 HX.out) d os
      have n1_0 := q_of (fun W (hW : Below wb.heap.size wb W) => oproot_any W)
      have n1_1 := q_of (fun W (hW : Below wb.heap.size wb W) => opmade_any x W ox false h2)
      refine wp_region_quiet_below (by kernel_rfl) (by kernel_rfl) ?_
      repeat (go_big_quiet_step (first | with_reducible exact n1_0 _ _ | with_reducible exact n1_1 _ _))
      refine wpQuiet_nil ?_
      intro _ hw'
      obtain ⟨⟨dq, osq⟩, hw''⟩ := hw'
      subst hw''
      have HBR := Lib.hid (below_regrown wb dq osq)
      generalize grow (redrawn wb dq) osq = w1 at *
      have HF2 := Lib.hid (HF.out.trans (HBR.out.mono HF.out.size))
      clear HBR HX y0 y1
      go_wp2
      go_ret
      exact ⟨by rw [← hr, placed_key, h1, h2]; rfl, HF2.out⟩
    · have EQ : ∀ W, (binOp .eql 23 (.agg #[.string x.p, .int .i64 x.n]) (.agg #[.string ⟨#[]⟩, .int .i64 0])).run Tryz.prog W = .ok (.bool false) W := fun W => by rw [show (⟨#[]⟩ : ByteArray) = (⟨⟨#[]⟩, 0⟩ : Im).p from rfl]; exact (eql_id x ⟨⟨#[]⟩, 0⟩ W).trans (by rw [none_iff, h1])
      have y0 := fun d os => cell_regrown (id_c0 HX.out) d os
      have y1 := fun d os => cell_regrown (id_c1 HX.out) d os
      have n2_0 := q_of (fun W (hW : Below wb.heap.size wb W) => oproot_any W)
      have n2_1 := q_of (fun W (hW : Below wb.heap.size wb W) => opmade_any x W ox true h2)
      have n2_2 := q_of (fun W (hW : Below wb.heap.size wb W) => opname_any s W os q hq)
      refine wp_region_quiet_below (by kernel_rfl) (by kernel_rfl) ?_
      repeat (go_big_quiet_step (first | with_reducible exact n2_0 _ _ | with_reducible exact n2_1 _ _ | with_reducible exact n2_2 _ _))
      refine wpQuiet_nil ?_
      intro _ hw'
      obtain ⟨⟨dq, osq⟩, hw''⟩ := hw'
      subst hw''
      have HBR := Lib.hid (below_regrown wb dq osq)
      generalize grow (redrawn wb dq) osq = w1 at *
      have HF2 := Lib.hid (HF.out.trans (HBR.out.mono HF.out.size))
      clear HBR HX y0 y1
      go_wp2
      go_ret
      exact ⟨by rw [← hr, placed_key, h1, h2, hq]; rfl, HF2.out⟩
  · have EQ : ∀ W, (binOp .eql 23 (.agg #[.string x.p, .int .i64 x.n]) (.agg #[.string ⟨#[]⟩, .int .i64 0])).run Tryz.prog W = .ok (.bool true) W := fun W => by rw [show (⟨#[]⟩ : ByteArray) = (⟨⟨#[]⟩, 0⟩ : Im).p from rfl]; exact (eql_id x ⟨⟨#[]⟩, 0⟩ W).trans (by rw [none_iff, h1])
    have y0 := fun d os => cell_regrown (id_c0 HX.out) d os
    have y1 := fun d os => cell_regrown (id_c1 HX.out) d os
    have n3_0 := q_of (fun W (hW : Below wb.heap.size wb W) => oproot_any W)
    have n3_1 := q_of (fun W (hW : Below wb.heap.size wb W) => opname_any s W os q hq)
    refine wp_region_quiet_below (by kernel_rfl) (by kernel_rfl) ?_
    repeat (go_big_quiet_step (first | with_reducible exact n3_0 _ _ | with_reducible exact n3_1 _ _))
    refine wpQuiet_nil ?_
    intro _ hw'
    obtain ⟨⟨dq, osq⟩, hw''⟩ := hw'
    subst hw''
    have HBR := Lib.hid (below_regrown wb dq osq)
    generalize grow (redrawn wb dq) osq = w1 at *
    have HF2 := Lib.hid (HF.out.trans (HBR.out.mono HF.out.size))
    clear HBR HX y0 y1
    go_wp2
    go_ret
    exact ⟨by rw [← hr, placed_key, h1, hq]; rfl, HF2.out⟩
end Go.Proofs.YtioknegeebgdbaaGreatDoor
namespace Go.Proofs.YtioknegeebgdbaaGreatDoor
open Go.RowKit
set_option linter.unusedVariables false

theorem sequal_q (A A2 : Option Addr) (ss tt : List ByteArray) (cap cap2 : Nat) (w : World) (hs : Strs w w.heap.size A ss) (ht : Strs w w.heap.size A2 tt)
    (hn : ss.length ≤ 140737488351232) (hn2 : tt.length ≤ 140737488351232) :
    Calls Tryz.prog 55 #[.slice A ss.length cap, .slice A2 tt.length cap2] w fun e w' => e = .returned (.bool (decide (ss = tt))) ∧ ∃ q, w' = w.drewN q := by
  by_cases hl : ss.length = tt.length
  · by_cases h0 : ss.length = 0
    · have e1 : ss = [] := List.length_eq_zero_iff.1 h0
      have e2 : tt = [] := List.length_eq_zero_iff.1 (by omega)
      subst e1 e2
      exact (Tryz.slices_Equal_string_empty A A2 cap 0 cap2 w (by decide)).mono fun e w' ⟨h1, h2⟩ => ⟨h1, 0, h2⟩
    · obtain ⟨b, off, rfl, _, h1⟩ := hs (by omega)
      obtain ⟨b2, off2, rfl, _, h2⟩ := ht (by omega)
      have h := Tryz.slices_Equal_string b off ss.length cap b2 off2 tt.length cap2 ss tt w (Nat.le_refl _) (Nat.le_refl _) (by omega) (by omega) (fun j hj => by rw [h1 j hj]; simp [List.getD, hj]) (fun j hj => by rw [h2 j hj]; simp [List.getD, hj])
      rwa [List.take_length, List.take_length] at h
  · have hd : decide (ss = tt) = false := by
      rw [decide_eq_false_iff_not]
      exact fun e => hl (by rw [e])
    rw [hd]
    exact (Tryz.slices_Equal_string_lens A A2 ss.length cap tt.length cap2 w hl).mono fun e w' ⟨h1, h2⟩ => ⟨h1, 0, h2⟩
theorem lsame_q (A A2 : Option Addr) (la lc : List (List UInt8)) (cap cap2 : Nat) (w : World) (d : Bool) (hd : decide (la = lc) = d) (hs : Strs w w.heap.size A (toBs la)) (ht : Strs w w.heap.size A2 (toBs lc)) (hn : la.length ≤ 1000000) (hn2 : lc.length ≤ 1000000) :
    Calls Tryz.prog 30 #[.slice A la.length cap, .slice A2 lc.length cap2] w fun e w' => e = .returned (.bool d) ∧ ∃ q, w' = w.drewN q := by
  have h := sequal_q A A2 (toBs la) (toBs lc) cap cap2 w hs ht (by rw [toBs_len]; omega) (by rw [toBs_len]; omega)
  rw [toBs_len, toBs_len, show decide (toBs la = toBs lc) = d from by
    rw [← hd]
    congr 1
    refine propext ⟨fun h => ?_, fun h => by rw [h]⟩
    have := congrArg lists h
    rwa [lists_toBs, lists_toBs] at this] at h
  have HH := Lib.hid h
  clear h hs ht hd
  go_enter Tryz.func30, Tryz.ntmps30
  go_wp2_with fail
  refine HH.out.mono ?_
  rintro e w' ⟨rfl, q, rfl⟩
  go_wp2
  go_ret
  exact ⟨rfl, q, rfl⟩
end Go.Proofs.YtioknegeebgdbaaGreatDoor
