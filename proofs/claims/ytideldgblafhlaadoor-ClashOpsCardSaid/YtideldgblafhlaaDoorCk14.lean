/- Package clash: the functions that are made for a hunk: what it holds, whether another is at its lines. -/
import Derived.Lib.SlicesCompact
import Derived.Test.YtideldgblafhlaaDoorShelf
import Derived.BigQuiet
import Derived.Deep.QuietTactic
import Derived.Lib.QuietBelow
import Derived.Test.YtideldgblafhlaaDoorCk13
namespace Go.Proofs.YtideldgblafhlaaDoor
open Go.RowKit Go.Sort
set_option linter.unusedVariables false

/-- Its ids are what Go may hold, its lines that go are few. -/
structure Om.Rg (x : Om) : Prop where
  left : x.left.Ok
  right : x.right.Ok
  dels : ∀ i ∈ x.dels, i.Ok
  few : x.dels.length ≤ 100000
theorem rg_ok {i : Im} (h : okK i.key = true) : i.Ok := by
  have h1 := okK_short h
  have h2 := okK_n h
  have e : i.key.1.length = i.p.size := by show i.p.data.toList.length = i.p.size; simp
  have e2 : i.key.2 = i.n := rfl
  exact ⟨by omega, by omega, by omega⟩
theorem rg_of {x : Om} (h : mayO x.key = true) : x.Rg := by
  have ho := op_ok h
  have e : x.key.dels.length = x.dels.length := ikeys_len _
  exact ⟨rg_ok ho.left, rg_ok ho.right, fun i hi => rg_ok (ho.dels _ (mem_ikeys.2 hi)), by have := ho.few; omega⟩
/-- What cutter's functions have: the hunk, the function of what goes. -/
structure CutC (n₀ : Nat) (W : World) (ga gg : Nat) (b o : Nat) (x : Om) (f : Nat) (acaps : Array Value) : Prop where
  a : Boxed W ga 54 (.pointer (some ⟨b, o, none⟩))
  op : OpPl W n₀ b o x
  g : Boxed W gg 56 (.func (.func f) #[] acaps)
  am : AmS n₀ W f acaps x.dels
theorem CutC.kp {n₀ : Nat} {W W' : World} {ga gg b o f : Nat} {x : Om} {acaps : Array Value} (h : CutC n₀ W ga gg b o x f acaps) (hk : KpT n₀ W W') : CutC n₀ W' ga gg b o x f acaps := ⟨hk.box h.a, h.op.kp hk, hk.box h.g, h.am.kp hk⟩
theorem CutC.on {n₀ : Nat} {W W' : World} {ga gg b o f : Nat} {x : Om} {acaps : Array Value} (h : CutC n₀ W ga gg b o x f acaps) (hb : Below W.heap.size W W') (hn : n₀ ≤ W.heap.size) : CutC n₀ W' ga gg b o x f acaps := h.kp (KpT.of hb hn)
/-- Does the hunk hold an id? -/
def heldM (x : Om) (i : Im) : Bool := decide (i = x.left) || decide (i = x.right) || decide (i ∈ x.dels)
theorem heldM_is (x : Om) (i : Im) : heldM x i = heldO x.key i.key := by
  unfold heldM heldO
  rw [show decide (i.key = x.key.left) = decide (i = x.left) from decide_eq_decide.2 ⟨fun h => Im.key_inj h, fun h => congrArg Im.key h⟩, show decide (i.key = x.key.right) = decide (i = x.right) from decide_eq_decide.2 ⟨fun h => Im.key_inj h, fun h => congrArg Im.key h⟩, show decide (i.key ∈ x.key.dels) = decide (i ∈ x.dels) from decide_eq_decide.2 mem_ikeys]
def cutM (x y : Om) : Bool := decide (y.left = x.left) || decide (y.right = x.right) || decide (y.left ∈ x.dels) || decide (y.right ∈ x.dels) || y.dels.any (heldM x)
theorem cutM_is (x y : Om) : cutM x y = cutO x.key y.key := by
  unfold cutM cutO
  rw [show decide (y.key.left = x.key.left) = decide (y.left = x.left) from decide_eq_decide.2 ⟨fun h => Im.key_inj h, fun h => congrArg Im.key h⟩, show decide (y.key.right = x.key.right) = decide (y.right = x.right) from decide_eq_decide.2 ⟨fun h => Im.key_inj h, fun h => congrArg Im.key h⟩, show decide (y.key.left ∈ x.key.dels) = decide (y.left ∈ x.dels) from decide_eq_decide.2 mem_ikeys, show decide (y.key.right ∈ x.key.dels) = decide (y.right ∈ x.dels) from decide_eq_decide.2 mem_ikeys]
  congr 1
  show _ = (ikeys y.dels).any _
  unfold ikeys
  rw [List.any_map]
  congr 1
  funext i
  exact heldM_is x i
set_option maxHeartbeats 4000000 in
set_option maxRecDepth 100000 in
theorem cheld_any (n₀ ga gg b o : Nat) (x : Om) (f : Nat) (acaps : Array Value) (i : Im) (w : World) (hc : CutC n₀ w ga gg b o x f acaps) (hn : n₀ ≤ w.heap.size) (hi : i.Ok) (hf : x.dels.length ≤ 1000000) (r : Bool) (hr : heldM x i = r) :
    Calls Tryd.prog 52 #[.agg #[.string i.p, .int .i64 i.n], .pointer (some ⟨ga, 0, none⟩), .pointer (some ⟨gg, 0, none⟩)] w fun e w' => e = .returned (.bool r) ∧ Below w.heap.size w w' := by
  obtain ⟨hb, hx⟩ := id_box w i
  have HB := Lib.hid hb
  have HX := Lib.hid hx
  have HC := Lib.hid (hc.on hb hn)
  have HN : Hid (n₀ ≤ (w.alloc (.cells #[.string i.p, .int .i64 i.n] 23)).heap.size) := Nat.le_trans hn hb.size
  have HI := Lib.hid hi
  clear hb hx hc hn hi
  go_enter Tryd.func52, Tryd.ntmps52
  go_upto_region 1 with (fail)
  generalize (w.alloc (.cells #[.string i.p, .int .i64 i.n] 23)) = wb at *
  have x0 := fun d os => cell_regrown (id_c0 HX.out) d os
  have x1 := fun d os => cell_regrown (id_c1 HX.out) d os
  have a0 := fun d os => cell_regrown HC.out.a.cell d os
  have l0 := fun d os => cell_regrown HC.out.op.c.leftp d os
  have l1 := fun d os => cell_regrown HC.out.op.c.leftn d os
  have r0 := fun d os => cell_regrown HC.out.op.c.rightp d os
  have r1 := fun d os => cell_regrown HC.out.op.c.rightn d os
  have g0 := fun d os => cell_regrown HC.out.g.cell d os
  have EQ1 := fun W => eql_id i x.left W
  have EQ2 := fun W => eql_id i x.right W
  by_cases h1 : i = x.left
  · rw [decide_eq_true h1] at EQ1
    obtain rfl : r = true := by rw [← hr]; unfold heldM; rw [decide_eq_true h1]; rfl
    clear hr h1
    refine wp_region_quiet_below (by kernel_rfl) (by kernel_rfl) ?_
    repeat (go_big_quiet_step (fail))
    refine wpQuiet_nil ?_
    intro _ hw'
    obtain ⟨⟨dq, osq⟩, hw''⟩ := hw'
    subst hw''
    have HBR := Lib.hid (below_regrown wb dq osq)
    generalize grow (redrawn wb dq) osq = w1 at *
    have HF := Lib.hid (HB.out.trans (HBR.out.mono HB.out.size))
    clear HBR HX HC x0 x1 a0 l0 l1 r0 r1 g0 EQ1 EQ2
    go_wp2
    go_ret
    exact ⟨rfl, HF.out⟩
  · rw [decide_eq_false h1] at EQ1
    by_cases h2 : i = x.right
    · rw [decide_eq_true h2] at EQ2
      obtain rfl : r = true := by rw [← hr]; unfold heldM; rw [decide_eq_true h2]; simp
      clear hr h1 h2
      refine wp_region_quiet_below (by kernel_rfl) (by kernel_rfl) ?_
      repeat (go_big_quiet_step (fail))
      refine wpQuiet_nil ?_
      intro _ hw'
      obtain ⟨⟨dq, osq⟩, hw''⟩ := hw'
      subst hw''
      have HBR := Lib.hid (below_regrown wb dq osq)
      generalize grow (redrawn wb dq) osq = w1 at *
      have HF := Lib.hid (HB.out.trans (HBR.out.mono HB.out.size))
      clear HBR HX HC x0 x1 a0 l0 l1 r0 r1 g0 EQ1 EQ2
      go_wp2
      go_ret
      exact ⟨rfl, HF.out⟩
    · rw [decide_eq_false h2] at EQ2
      have hr2 : decide (i ∈ x.dels) = r := by rw [← hr]; unfold heldM; rw [decide_eq_false h1, decide_eq_false h2]; simp
      have eg := HC.out.am.enters
      have n1 := q_of (fun W (hW : Below wb.heap.size wb W) => am_call (HC.out.am.kp (KpT.of hW HN.out)) (Nat.le_trans HN.out hW.size) hf i HI.out r hr2)
      clear hr h1 h2 hr2
      refine wp_region_quiet_below (by kernel_rfl) (by kernel_rfl) ?_
      repeat (go_big_quiet_step (first | with_reducible exact n1 _ _))
      refine wpQuiet_nil ?_
      intro _ hw'
      obtain ⟨⟨dq, osq⟩, hw''⟩ := hw'
      subst hw''
      have HBR := Lib.hid (below_regrown wb dq osq)
      generalize grow (redrawn wb dq) osq = w1 at *
      have HF := Lib.hid (HB.out.trans (HBR.out.mono HB.out.size))
      clear HBR HX HC x0 x1 a0 l0 l1 r0 r1 g0 EQ1 EQ2 n1
      go_wp2
      go_ret
      exact ⟨rfl, HF.out⟩
/-- What the function that is made for a hunk has. -/
structure CutS (n₀ : Nat) (W : World) (caps : Array Value) (b o : Nat) (x : Om) : Prop where
  h : ∃ ga gg gh f acaps, caps = #[.pointer (some ⟨ga, 0, none⟩), .pointer (some ⟨gg, 0, none⟩), .pointer (some ⟨gh, 0, none⟩)] ∧ CutC n₀ W ga gg b o x f acaps ∧ Boxed W gh 56 (.func (.func 52) #[] #[.pointer (some ⟨ga, 0, none⟩), .pointer (some ⟨gg, 0, none⟩)])
theorem CutS.kp {n₀ : Nat} {W W' : World} {caps : Array Value} {b o : Nat} {x : Om} (h : CutS n₀ W caps b o x) (hk : KpT n₀ W W') : CutS n₀ W' caps b o x := by
  obtain ⟨ga, gg, gh, f, acaps, e, hc, hh⟩ := h.h
  exact ⟨ga, gg, gh, f, acaps, e, hc.kp hk, hk.box hh⟩
theorem held_enters : ∀ args w, (callFunc 52 args).run Tryd.prog w = .ok (.enter 52 args) w := enters_of Tryd.func52 (by kernel_rfl) rfl
set_option maxHeartbeats 4000000 in
set_option maxRecDepth 100000 in
theorem ccut_any (n₀ b o c p : Nat) (caps : Array Value) (x y : Om) (w : World) (hs : CutS n₀ w caps b o x) (hy : OpPl w n₀ c p y) (hn : n₀ ≤ w.heap.size) (hf : x.dels.length ≤ 1000000) (hg : y.Rg) (r : Bool) (hr : cutM x y = r) :
    Calls Tryd.prog 53 (#[.pointer (some ⟨c, p, none⟩)] ++ caps) w fun e w' => e = .returned (.bool r) ∧ Below w.heap.size w w' := by
  obtain ⟨ga, gg, gh, f, acaps, rfl, hc, hh⟩ := hs.h
  show Calls Tryd.prog 53 #[.pointer (some ⟨c, p, none⟩), .pointer (some ⟨ga, 0, none⟩), .pointer (some ⟨gg, 0, none⟩), .pointer (some ⟨gh, 0, none⟩)] w _
  have HC := Lib.hid hc
  have HY := Lib.hid hy
  have HH := Lib.hid hh
  have HN := Lib.hid hn
  have HG := Lib.hid hg
  have eg := hc.am.enters
  have eh := held_enters
  clear hs hc hy hh hn hg
  go_enter Tryd.func53, Tryd.ntmps53
  go_upto_region 1 with (fail)
  have y1 := fun d os => cell_regrown HY.out.c.leftp d os
  have y2 := fun d os => cell_regrown HY.out.c.leftn d os
  have y3 := fun d os => cell_regrown HY.out.c.rightp d os
  have y4 := fun d os => cell_regrown HY.out.c.rightn d os
  have y5 := fun d os => cell_regrown HY.out.c.dels d os
  have a0 := fun d os => cell_regrown HC.out.a.cell d os
  have l0 := fun d os => cell_regrown HC.out.op.c.leftp d os
  have l1 := fun d os => cell_regrown HC.out.op.c.leftn d os
  have r0 := fun d os => cell_regrown HC.out.op.c.rightp d os
  have r1 := fun d os => cell_regrown HC.out.op.c.rightn d os
  have g0 := fun d os => cell_regrown HC.out.g.cell d os
  have h0 := fun d os => cell_regrown HH.out.cell d os
  have EQ1 := fun W => eql_id y.left x.left W
  have EQ2 := fun W => eql_id y.right x.right W
  unfold cutM at hr
  by_cases h1 : y.left = x.left
  · rw [decide_eq_true h1] at EQ1 hr
    obtain rfl : r = true := by simpa using hr.symm
    clear hr h1
    refine wp_region_quiet_below (by kernel_rfl) (by kernel_rfl) ?_
    repeat (go_big_quiet_step (fail))
    refine wpQuiet_nil ?_
    intro _ hw'
    obtain ⟨⟨dq, osq⟩, hw''⟩ := hw'
    subst hw''
    have HBR := Lib.hid (below_regrown w dq osq)
    generalize grow (redrawn w dq) osq = w1 at *
    have HF := Lib.hid HBR.out
    clear HBR HC HY HH y1 y2 y3 y4 y5 a0 l0 l1 r0 r1 g0 h0 EQ1 EQ2
    go_wp2
    go_ret
    exact ⟨rfl, HF.out⟩
  · rw [decide_eq_false h1] at EQ1 hr
    clear h1
    by_cases h2 : y.right = x.right
    · rw [decide_eq_true h2] at EQ2 hr
      obtain rfl : r = true := by simpa using hr.symm
      clear hr h2
      refine wp_region_quiet_below (by kernel_rfl) (by kernel_rfl) ?_
      repeat (go_big_quiet_step (fail))
      refine wpQuiet_nil ?_
      intro _ hw'
      obtain ⟨⟨dq, osq⟩, hw''⟩ := hw'
      subst hw''
      have HBR := Lib.hid (below_regrown w dq osq)
      generalize grow (redrawn w dq) osq = w1 at *
      have HF := Lib.hid HBR.out
      clear HBR HC HY HH y1 y2 y3 y4 y5 a0 l0 l1 r0 r1 g0 h0 EQ1 EQ2
      go_wp2
      go_ret
      exact ⟨rfl, HF.out⟩
    · rw [decide_eq_false h2] at EQ2 hr
      clear h2
      cases h3 : decide (y.left ∈ x.dels)
      · have n1 := q_of (fun W (hW : Below w.heap.size w W) => am_call (HC.out.am.kp (KpT.of hW HN.out)) (Nat.le_trans HN.out hW.size) hf y.left HG.out.left false h3)
        rw [h3] at hr
        clear h3
        cases h4 : decide (y.right ∈ x.dels)
        · have n2 := q_of (fun W (hW : Below w.heap.size w W) => am_call (HC.out.am.kp (KpT.of hW HN.out)) (Nat.le_trans HN.out hW.size) hf y.right HG.out.right false h4)
          rw [h4] at hr
          have hr2 : y.dels.any (heldM x) = r := by simpa using hr
          have n3 := q_of (fun W (hW : Below w.heap.size w W) => icontg_any y.a1 y.dels y.c1 52 #[.pointer (some ⟨ga, 0, none⟩), .pointer (some ⟨gg, 0, none⟩)] eh (heldM x) W (Rk.Row.more (HY.out.ok.below (hW.mono HN.out)).dels (Nat.le_trans HN.out hW.size)) (fun W2 i hi hb2 => cheld_any n₀ ga gg b o x f acaps i W2 (HC.out.kp ((KpT.of hW HN.out).trans (KpT.of hb2 (Nat.le_trans HN.out hW.size)))) (Nat.le_trans HN.out (Nat.le_trans hW.size hb2.size)) (HG.out.dels i hi) hf _ rfl) HG.out.few r hr2)
          clear hr hr2 h4
          refine wp_region_quiet_below (by kernel_rfl) (by kernel_rfl) ?_
          repeat (go_big_quiet_step (first | with_reducible exact n1 _ _ | with_reducible exact n2 _ _ | with_reducible exact n3 _ _))
          refine wpQuiet_nil ?_
          intro _ hw'
          obtain ⟨⟨dq, osq⟩, hw''⟩ := hw'
          subst hw''
          have HBR := Lib.hid (below_regrown w dq osq)
          generalize grow (redrawn w dq) osq = w1 at *
          have HF := Lib.hid HBR.out
          clear HBR HC HY HH y1 y2 y3 y4 y5 a0 l0 l1 r0 r1 g0 h0 EQ1 EQ2 n1 n2 n3
          go_wp2
          go_ret
          exact ⟨rfl, HF.out⟩
        · have n2 := q_of (fun W (hW : Below w.heap.size w W) => am_call (HC.out.am.kp (KpT.of hW HN.out)) (Nat.le_trans HN.out hW.size) hf y.right HG.out.right true h4)
          rw [h4] at hr
          obtain rfl : r = true := by simpa using hr.symm
          clear hr h4
          refine wp_region_quiet_below (by kernel_rfl) (by kernel_rfl) ?_
          repeat (go_big_quiet_step (first | with_reducible exact n1 _ _ | with_reducible exact n2 _ _))
          refine wpQuiet_nil ?_
          intro _ hw'
          obtain ⟨⟨dq, osq⟩, hw''⟩ := hw'
          subst hw''
          have HBR := Lib.hid (below_regrown w dq osq)
          generalize grow (redrawn w dq) osq = w1 at *
          have HF := Lib.hid HBR.out
          clear HBR HC HY HH y1 y2 y3 y4 y5 a0 l0 l1 r0 r1 g0 h0 EQ1 EQ2 n1 n2
          go_wp2
          go_ret
          exact ⟨rfl, HF.out⟩
      · have n1 := q_of (fun W (hW : Below w.heap.size w W) => am_call (HC.out.am.kp (KpT.of hW HN.out)) (Nat.le_trans HN.out hW.size) hf y.left HG.out.left true h3)
        rw [h3] at hr
        obtain rfl : r = true := by simpa using hr.symm
        clear hr h3
        refine wp_region_quiet_below (by kernel_rfl) (by kernel_rfl) ?_
        repeat (go_big_quiet_step (first | with_reducible exact n1 _ _))
        refine wpQuiet_nil ?_
        intro _ hw'
        obtain ⟨⟨dq, osq⟩, hw''⟩ := hw'
        subst hw''
        have HBR := Lib.hid (below_regrown w dq osq)
        generalize grow (redrawn w dq) osq = w1 at *
        have HF := Lib.hid HBR.out
        clear HBR HC HY HH y1 y2 y3 y4 y5 a0 l0 l1 r0 r1 g0 h0 EQ1 EQ2 n1
        go_wp2
        go_ret
        exact ⟨rfl, HF.out⟩
end Go.Proofs.YtideldgblafhlaaDoor
