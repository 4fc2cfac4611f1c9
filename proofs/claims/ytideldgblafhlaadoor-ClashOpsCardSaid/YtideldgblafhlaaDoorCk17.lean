/- Package clash: the functions that are made for an operation: why another clashes with it; Ops. -/
import Derived.Lib.SlicesCompact
import Derived.Test.YtideldgblafhlaaDoorShelf
import Derived.BigQuiet
import Derived.Deep.QuietTactic
import Derived.Laws.EntriesVeiled
import Derived.Test.YtideldgblafhlaaDoorCk15
import Derived.Test.YtideldgblafhlaaDoorCk16
namespace Go.Proofs.YtideldgblafhlaaDoor
open Go.RowKit Go.Sort
set_option linter.unusedVariables false

theorem cut_enters : ∀ args w, (callFunc 53 args).run Tryd.prog w = .ok (.enter 53 args) w := enters_of Tryd.func53 (by kernel_rfl) rfl
/-- What byLines's function has. -/
structure LinS (n₀ : Nat) (W : World) (caps : Array Value) (b o : Nat) (x : Om) : Prop where
  h : ∃ ga gc ccaps, caps = #[.pointer (some ⟨ga, 0, none⟩), .pointer (some ⟨gc, 0, none⟩)] ∧ Boxed W ga 54 (.pointer (some ⟨b, o, none⟩)) ∧ OpPl W n₀ b o x ∧ Boxed W gc 72 (.func (.func 53) #[] ccaps) ∧ CutS n₀ W ccaps b o x
theorem LinS.kp {n₀ : Nat} {W W' : World} {caps : Array Value} {b o : Nat} {x : Om} (h : LinS n₀ W caps b o x) (hk : KpT n₀ W W') : LinS n₀ W' caps b o x := by
  obtain ⟨ga, gc, ccaps, e, ha, hx, hc, hs⟩ := h.h
  exact ⟨ga, gc, ccaps, e, hk.box ha, hx.kp hk, hk.box hc, hs.kp hk⟩
def linB (b1 b2 : Bool) : Int := if b1 then 1 else if b2 then 2 else 0
theorem lin_is (x y : Om) (h : x.kind = 5) : clashO x.key y.key = linB (decide (y.kind = 5) && (decide (y.self = x.self) && cutM x y)) (losesO x.key y.key) := by
  rw [clash_lines x.key y.key h]
  unfold byLinesO linB
  rw [cutM_is, show decide (y.self = x.self) = decide (y.key.self = x.key.self) from decide_eq_decide.2 (self_iff y x).symm, ← Bool.and_assoc]
  rfl
set_option maxHeartbeats 4000000 in
set_option maxRecDepth 100000 in
theorem clines1_any (n₀ b o c p : Nat) (caps : Array Value) (x y : Om) (w : World) (hs : LinS n₀ w caps b o x) (hy : OpPl w n₀ c p y) (hn : n₀ ≤ w.heap.size) (hf : x.dels.length ≤ 1000000) (hg : y.Rg) (h5 : x.kind = 5) (r : Int) (hr : clashO x.key y.key = r) :
    Calls Tryd.prog 42 (#[.pointer (some ⟨c, p, none⟩)] ++ caps) w fun e w' => e = .returned (.int .i64 r) ∧ Below w.heap.size w w' := by
  obtain ⟨ga, gc, ccaps, rfl, ha, hx, hc, hcs⟩ := hs.h
  show Calls Tryd.prog 42 #[.pointer (some ⟨c, p, none⟩), .pointer (some ⟨ga, 0, none⟩), .pointer (some ⟨gc, 0, none⟩)] w _
  have HA := Lib.hid ha
  have HX := Lib.hid hx
  have HY := Lib.hid hy
  have HC := Lib.hid hc
  have HS := Lib.hid hcs
  have HN := Lib.hid hn
  have HG := Lib.hid hg
  have ec := cut_enters
  rw [lin_is x y h5] at hr
  clear hs ha hx hy hc hcs hn hg h5
  obtain ⟨b1, hb1⟩ : ∃ q, (decide (y.kind = 5) && (decide (y.self = x.self) && cutM x y)) = q := ⟨_, rfl⟩
  obtain ⟨b2, hb2⟩ : ∃ q, losesO x.key y.key = q := ⟨_, rfl⟩
  rw [hb1, hb2] at hr
  have H1 := Lib.hid hb1
  have H2 := Lib.hid hb2
  have HR := Lib.hid hr
  clear hb1 hb2 hr
  go_enter Tryd.func42, Tryd.ntmps42
  -- @P1
  go_upto_region 1 with (fail)
  go_cut [5] from 6 to 26 (fun v wx => v = .bool b1 ∧ Hid (Below w.heap.size w wx))
  case first =>
    have y0 := fun d os => cell_regrown HY.out.c.kind d os
    have y1 := fun d os => cell_regrown HY.out.c.selfp d os
    have y2 := fun d os => cell_regrown HY.out.c.selfn d os
    have x1 := fun d os => cell_regrown HX.out.c.selfp d os
    have x2 := fun d os => cell_regrown HX.out.c.selfn d os
    have a0 := fun d os => cell_regrown HA.out.cell d os
    have c0 := fun d os => cell_regrown HC.out.cell d os
    have EQ := fun W => eql_id y.self x.self W
    have h1 := H1.out
    by_cases k5 : y.kind = 5
    · have q5 : (y.kind == 5) = true := by simpa using k5
      rw [decide_eq_true k5, Bool.true_and] at h1
      clear k5
      by_cases ks : y.self = x.self
      · rw [decide_eq_true ks, Bool.true_and] at h1
        rw [decide_eq_true ks] at EQ
        have n1 := q_of (fun W (hW : Below w.heap.size w W) => ccut_any n₀ b o c p ccaps x y W (HS.out.kp (KpT.of hW HN.out)) (HY.out.kp (KpT.of hW HN.out)) (Nat.le_trans HN.out hW.size) hf HG.out b1 h1)
        clear ks h1
        refine wp_region_quiet_below (by kernel_rfl) (by kernel_rfl) ?_
        repeat (go_big_quiet_step (first | with_reducible exact n1 _ _))
        refine wpQuiet_nil ?_
        intro _ hw'
        obtain ⟨⟨dq, osq⟩, hw''⟩ := hw'
        subst hw''
        have HBR := Lib.hid (below_regrown w dq osq)
        generalize grow (redrawn w dq) osq = w1 at *
        have HF := Lib.hid HBR.out
        clear HBR y0 y1 y2 x1 x2 a0 c0 EQ n1
        go_wp2
        go_meet
        case rel => exact ⟨rfl, HF.out⟩
      · rw [decide_eq_false ks, Bool.false_and] at h1
        rw [decide_eq_false ks] at EQ
        subst h1
        clear ks
        refine wp_region_quiet_below (by kernel_rfl) (by kernel_rfl) ?_
        repeat (go_big_quiet_step (fail))
        refine wpQuiet_nil ?_
        intro _ hw'
        obtain ⟨⟨dq, osq⟩, hw''⟩ := hw'
        subst hw''
        have HBR := Lib.hid (below_regrown w dq osq)
        generalize grow (redrawn w dq) osq = w1 at *
        have HF := Lib.hid HBR.out
        clear HBR y0 y1 y2 x1 x2 a0 c0 EQ
        go_wp2
        go_meet
        case rel => exact ⟨rfl, HF.out⟩
    · have q5 : (y.kind == 5) = false := by simpa using k5
      rw [decide_eq_false k5, Bool.false_and] at h1
      subst h1
      clear k5
      refine wp_region_quiet_below (by kernel_rfl) (by kernel_rfl) ?_
      repeat (go_big_quiet_step (fail))
      refine wpQuiet_nil ?_
      intro _ hw'
      obtain ⟨⟨dq, osq⟩, hw''⟩ := hw'
      subst hw''
      have HBR := Lib.hid (below_regrown w dq osq)
      generalize grow (redrawn w dq) osq = w1 at *
      have HF := Lib.hid HBR.out
      clear HBR y0 y1 y2 x1 x2 a0 c0 EQ
      go_wp2
      go_meet
      case rel => exact ⟨rfl, HF.out⟩
  case rest =>
    obtain ⟨rfl, HW⟩ := hcut
    cases b1
    · have CL := Lib.hid (closes_any n₀ b o c p x y wc (HX.out.kp (KpT.of HW.out HN.out)) (HY.out.kp (KpT.of HW.out HN.out)) b2 H2.out)
      have a0 := (bx_on HA.out HW.out).cell
      go_wp2_with fail
      refine CL.out.mono ?_
      rintro e w2 ⟨rfl, hb⟩
      have HF := Lib.hid (HW.out.trans (hb.mono HW.out.size))
      clear hb CL a0
      cases b2
      · have HV : Hid (r = 0) := by show _ = _; rw [← HR.out]; rfl
        go_wp2
        go_ret
        exact ⟨by rw [HV.out]; rfl, HF.out⟩
      · have HV : Hid (r = 2) := by show _ = _; rw [← HR.out]; rfl
        go_wp2
        go_ret
        exact ⟨by rw [HV.out]; rfl, HF.out⟩
    · have HV : Hid (r = 1) := by show _ = _; rw [← HR.out]; rfl
      go_wp2
      go_ret
      exact ⟨by rw [HV.out]; rfl, HW.out⟩
/-- byLines, byPlaces leave a function. -/
def LinLeft (n₀ b o : Nat) (x : Om) (w : World) (e : Ending) (w' : World) : Prop := ∃ caps, e = .returned (.func (.func 42) #[] caps) ∧ LinS n₀ w' caps b o x ∧ Below w.heap.size w w'
set_option maxHeartbeats 4000000 in
set_option maxRecDepth 100000 in
theorem clines_any (n₀ b o : Nat) (x : Om) (w : World) (hx : OpPl w n₀ b o x) (hn : n₀ ≤ w.heap.size) (hg : x.Rg) :
    Calls Tryd.prog 32 #[.pointer (some ⟨b, o, none⟩)] w (LinLeft n₀ b o x w) := by
  have hal : Below w.heap.size w (w.alloc (.cells #[.pointer (some ⟨b, o, none⟩)] 54)) := (Below.refl _ _).alloc (Nat.le_refl _) _
  have HA := Lib.hid (Boxed.new w 54 (.pointer (some ⟨b, o, none⟩)))
  have HX := Lib.hid (hx.kp (KpT.of hal hn))
  have HB := Lib.hid hal
  have HN : Hid (n₀ ≤ (w.alloc (.cells #[.pointer (some ⟨b, o, none⟩)] 54)).heap.size) := Nat.le_trans hn hal.size
  have HG := Lib.hid hg
  clear hx hn hg hal
  go_enter Tryd.func32, Tryd.ntmps32
  go_upto_region 1 with (fail)
  generalize (w.alloc (.cells #[.pointer (some ⟨b, o, none⟩)] 54)) = wa at *
  generalize hga : w.heap.size = ga at *
  have a0 := HA.out.cell
  have C := Lib.hid (ccutter_any n₀ b o x wa HX.out HN.out HG.out)
  go_wp2_with fail
  refine C.out.mono ?_
  rintro e w1 ⟨ccaps, rfl, hcs, hb1⟩
  have hal2 : Below w1.heap.size w1 (w1.alloc (.cells #[.func (.func 53) #[] ccaps] 72)) := (Below.refl _ _).alloc (Nat.le_refl _) _
  have bc := Boxed.new w1 72 (.func (.func 53) #[] ccaps)
  have k1 := KpT.of hb1 HN.out
  have k2 := KpT.of hal2 (Nat.le_trans HN.out hb1.size)
  have HV : Hid (LinLeft n₀ b o x w (.returned (.func (.func 42) #[] #[.pointer (some ⟨ga, 0, none⟩), .pointer (some ⟨w1.heap.size, 0, none⟩)])) (w1.alloc (.cells #[.func (.func 53) #[] ccaps] 72))) := by
    refine ⟨_, rfl, ⟨_, _, ccaps, rfl, (k1.trans k2).box HA.out, HX.out.kp (k1.trans k2), bc, hcs.kp k2⟩, ?_⟩
    rw [hga]
    exact HB.out.trans ((hb1.trans (hal2.mono hb1.size)).mono (by rw [← hga]; exact HB.out.size))
  clear hcs hb1 hal2 bc k1 k2 a0 C HA HX HN HG
  go_wp2
  go_ret
  exact HV.out
/-- What byPlaces's function has. -/
structure PlcS (n₀ : Nat) (W : World) (caps : Array Value) (b o : Nat) (x : Om) : Prop where
  h : ∃ ga gh gt, caps = #[.pointer (some ⟨ga, 0, none⟩), .pointer (some ⟨gh, 0, none⟩)] ∧ Boxed W ga 54 (.pointer (some ⟨b, o, none⟩)) ∧ OpPl W n₀ b o x ∧ Boxed W gh 55 (.slice (some ⟨gt, 0, none⟩) (plO x).length 2) ∧ PlArr W gt x
theorem PlArr.kp {n₀ : Nat} {W W' : World} {g : Nat} {x : Om} (h : PlArr W g x) (hk : KpT n₀ W W') : PlArr W' g x := hk.k g _ h (by simp [mayKeep])
theorem PlcS.kp {n₀ : Nat} {W W' : World} {caps : Array Value} {b o : Nat} {x : Om} (h : PlcS n₀ W caps b o x) (hk : KpT n₀ W W') : PlcS n₀ W' caps b o x := by
  obtain ⟨ga, gh, gt, e, ha, hx, hh, ht⟩ := h.h
  exact ⟨ga, gh, gt, e, hk.box ha, hx.kp hk, hk.box hh, ht.kp hk⟩
def plcB (b1 b2 b3 b4 b5 : Bool) : Int := if b1 then 2 else if b2 then 3 else if b3 then 4 else if b4 then 5 else if b5 then 5 else 0
theorem plc_is (x y : Om) (h : ¬ x.kind = 5) : clashO x.key y.key = plcB (losesO y.key x.key) (cB3 x y) (takesO x.key && (takesO y.key && decide (x.self = y.self))) (decide (x.kind = 3) && ((plO y).any fun p => decide (p.dir = x.self))) (decide (y.kind = 3) && ((plO x).any fun p => decide (p.dir = y.self))) := by
  rw [clash_places x.key y.key h]
  have e1 : ∀ u v : Om, goneO u.key v.key = (decide (u.kind = 3) && ((plO v).any fun p => decide (p.dir = u.self))) := fun u v => by
    unfold goneO inPl
    rw [← plO_keys]
    unfold pls
    rw [List.any_map]
    congr 2
    funext p
    exact decide_eq_decide.2 ⟨fun h => Im.key_inj h, fun h => congrArg Im.key h⟩
  unfold byPlacesO plcB
  rw [samePl_is, e1, e1, show decide (x.key.self = y.key.self) = decide (x.self = y.self) from decide_eq_decide.2 (self_iff x y), Bool.and_assoc]
  cases losesO y.key x.key <;> cases cB3 x y <;> cases (takesO x.key && (takesO y.key && decide (x.self = y.self))) <;> cases (decide (x.kind = 3) && ((plO y).any fun p => decide (p.dir = x.self))) <;> rfl
theorem arr_slice (g m : Nat) (hm : m ≤ 2) (W : World) : (Instr.sliceAt 51 (.pointer (some ⟨g, 0, none⟩)) none (some (.int .i64 (m : Int))) none).run Tryd.prog W = .ok (.slice (some ⟨g, 0, none⟩) m 2) W := by
  have hs : (sizeOf 50).run Tryd.prog W = .ok 3 W := clR.size_of W
  have e : (⟨g, 0, none⟩ : Addr).add (0 * 3) = ⟨g, 0, none⟩ := by unfold Addr.add; split <;> simp_all
  have hb : (Instr.sliceBounds false 2 2 none (some (.int .i64 (m : Int))) none).run Tryd.prog W = .ok (0, m, 2) W := by
    have h1 : (m : Int) ≤ 2 := by omega
    simp [Instr.sliceBounds, Instr.sliceBound, asIntOf, go_sem, hm] <;> intros <;> omega
  unfold Instr.sliceAt
  rw [Sem.run_bind, run_underlying Tryd.underlying51, Result.andThen_ok]
  simp [Instr.sureAddr, Sem.run_bind, Result.andThen_ok, go_sem]
  intros
  omega
set_option maxHeartbeats 4000000 in
set_option maxRecDepth 100000 in
theorem cplaces1_any (n₀ b o c p : Nat) (caps : Array Value) (x y : Om) (w : World) (hs : PlcS n₀ w caps b o x) (hy : OpPl w n₀ c p y) (hn : n₀ ≤ w.heap.size) (h5 : ¬ x.kind = 5) (r : Int) (hr : clashO x.key y.key = r) :
    Calls Tryd.prog 44 (#[.pointer (some ⟨c, p, none⟩)] ++ caps) w fun e w' => e = .returned (.int .i64 r) ∧ Below w.heap.size w w' := by
  obtain ⟨ga, gh, gt, rfl, ha, hx, hh, ht⟩ := hs.h
  show Calls Tryd.prog 44 #[.pointer (some ⟨c, p, none⟩), .pointer (some ⟨ga, 0, none⟩), .pointer (some ⟨gh, 0, none⟩)] w _
  rw [plc_is x y h5] at hr
  obtain ⟨b1, hb1⟩ : ∃ q, losesO y.key x.key = q := ⟨_, rfl⟩
  obtain ⟨b2, hb2⟩ : ∃ q, cB3 x y = q := ⟨_, rfl⟩
  obtain ⟨b3, hb3⟩ : ∃ q, (takesO x.key && (takesO y.key && decide (x.self = y.self))) = q := ⟨_, rfl⟩
  obtain ⟨b4, hb4⟩ : ∃ q, (decide (x.kind = 3) && ((plO y).any fun p => decide (p.dir = x.self))) = q := ⟨_, rfl⟩
  obtain ⟨b5, hb5⟩ : ∃ q, (decide (y.kind = 3) && ((plO x).any fun p => decide (p.dir = y.self))) = q := ⟨_, rfl⟩
  rw [hb1, hb2, hb3, hb4, hb5] at hr
  have H1 := Lib.hid hb1
  have H2 := Lib.hid hb2
  have H3 := Lib.hid hb3
  have H4 := Lib.hid hb4
  have H5 := Lib.hid hb5
  have HR := Lib.hid hr
  have CT := Lib.hid (ctouched_any n₀ c p y w hy hn)
  have HA := Lib.hid ha
  have HX := Lib.hid hx
  have HY := Lib.hid hy
  have HH := Lib.hid hh
  have HT := Lib.hid ht
  have HN := Lib.hid hn
  clear hs ha hx hy hh ht hn h5 hb1 hb2 hb3 hb4 hb5 hr
  go_enter Tryd.func44, Tryd.ntmps44
  go_wp2_with fail
  refine CT.out.mono ?_
  rintro e w1 ⟨rfl, hb⟩
  obtain ⟨hal, har⟩ := arr_box w1 y
  have hb2 := hb.trans (hal.mono hb.size)
  have k2 := KpT.of hb2 HN.out
  replace HA := Lib.hid (k2.box HA.out)
  replace HX := Lib.hid (HX.out.kp k2)
  replace HY := Lib.hid (HY.out.kp k2)
  replace HH := Lib.hid (k2.box HH.out)
  replace HT := Lib.hid (HT.out.kp k2)
  have HG := Lib.hid har
  have HB := Lib.hid hb2
  have HSZ : Hid (n₀ ≤ (w1.alloc (.cells #[.string y.parent.p, .int .i64 y.parent.n, .string y.name, .string y.dst.p, .int .i64 y.dst.n, .string y.dname] 51)).heap.size) := Nat.le_trans HN.out hb2.size
  clear hb hal har hb2 k2 CT
  go_upto_region 2 with (fail)
  generalize (w1.alloc (.cells #[.string y.parent.p, .int .i64 y.parent.n, .string y.name, .string y.dst.p, .int .i64 y.dst.n, .string y.dname] 51)) = w2 at *
  generalize w1.heap.size = gz at *
  have sl := arr_slice gz (plO y).length (plO_two y)
  have HRY := Lib.hid (HG.out.pls HG.out.lt)
  have HRX := Lib.hid (HT.out.pls HT.out.lt)
  clear HG HT
  -- @P1
  go_upto_region 3 with (fail)
  clear sl
  have a0 := HA.out.cell
  have CL := Lib.hid (closes_any n₀ c p b o y x w2 HY.out HX.out b1 H1.out)
  go_wp2_with fail
  refine CL.out.mono ?_
  rintro e w3 ⟨rfl, hb⟩
  have k_ := KpT.of hb HSZ.out
  replace HA := Lib.hid (k_.box HA.out)
  replace HX := Lib.hid (HX.out.kp k_)
  replace HY := Lib.hid (HY.out.kp k_)
  replace HH := Lib.hid (k_.box HH.out)
  replace HRY := Lib.hid (HRY.out.on hb)
  replace HRX := Lib.hid (HRX.out.on hb)
  replace HB := Lib.hid (HB.out.trans (hb.mono HB.out.size))
  replace HSZ := Lib.hid (Nat.le_trans HSZ.out hb.size)
  clear hb k_ CL a0
  cases b1
  rotate_left
  · have HV : Hid (r = 2) := by show _ = _; rw [← HR.out]; rfl
    clear HX HY HRX HRY HA HH H1 H2 H3 H4 H5 HR HSZ
    go_wp2
    go_ret
    exact ⟨by rw [HV.out]; rfl, HB.out⟩
  have h0 := HH.out.cell
  have CS := Lib.hid (cshared_any (some ⟨gt, 0, none⟩) (some ⟨gz, 0, none⟩) (plO x) (plO y) 2 2 w3 HRX.out HRY.out (by have := plO_two x; omega) (by have := plO_two y; omega) b2 H2.out)
  go_wp2_with fail
  refine CS.out.mono ?_
  rintro e w4 ⟨rfl, hb⟩
  have k_ := KpT.of hb HSZ.out
  replace HA := Lib.hid (k_.box HA.out)
  replace HX := Lib.hid (HX.out.kp k_)
  replace HY := Lib.hid (HY.out.kp k_)
  replace HH := Lib.hid (k_.box HH.out)
  replace HRY := Lib.hid (HRY.out.on hb)
  replace HRX := Lib.hid (HRX.out.on hb)
  replace HB := Lib.hid (HB.out.trans (hb.mono HB.out.size))
  replace HSZ := Lib.hid (Nat.le_trans HSZ.out hb.size)
  clear hb k_ CS h0
  cases b2
  rotate_left
  · have HV : Hid (r = 3) := by show _ = _; rw [← HR.out]; rfl
    clear HX HY HRX HRY HA HH H1 H2 H3 H4 H5 HR HSZ
    go_wp2
    go_ret
    exact ⟨by rw [HV.out]; rfl, HB.out⟩
  -- @P2
  go_upto_region 7 with (fail)
  go_cut [23] from 24 to 40 (fun v wx => v = .bool b3 ∧ Hid (Below w4.heap.size w4 wx))
  case first =>
    have a0 := fun d os => cell_regrown HA.out.cell d os
    have x1 := fun d os => cell_regrown HX.out.c.selfp d os
    have x2 := fun d os => cell_regrown HX.out.c.selfn d os
    have y1 := fun d os => cell_regrown HY.out.c.selfp d os
    have y2 := fun d os => cell_regrown HY.out.c.selfn d os
    have EQ := fun W => eql_id x.self y.self W
    have h3 := H3.out
    cases ht1 : takesO x.key
    · have n1 := q_of (fun W (hW : Below w4.heap.size w4 W) => ctakes_any n₀ b o x W (HX.out.kp (KpT.of hW HSZ.out)) false ht1)
      rw [ht1, Bool.false_and] at h3
      subst h3
      clear ht1
      refine wp_region_quiet_below (by kernel_rfl) (by kernel_rfl) ?_
      repeat (go_big_quiet_step (first | with_reducible exact n1 _ _))
      refine wpQuiet_nil ?_
      intro _ hw'
      obtain ⟨⟨dq, osq⟩, hw''⟩ := hw'
      subst hw''
      have HBR := Lib.hid (below_regrown w4 dq osq)
      generalize grow (redrawn w4 dq) osq = w1 at *
      have HF := Lib.hid HBR.out
      clear HBR a0 x1 x2 y1 y2 EQ n1
      go_wp2
      go_meet
      case rel => exact ⟨rfl, HF.out⟩
    · have n1 := q_of (fun W (hW : Below w4.heap.size w4 W) => ctakes_any n₀ b o x W (HX.out.kp (KpT.of hW HSZ.out)) true ht1)
      rw [ht1, Bool.true_and] at h3
      clear ht1
      cases ht2 : takesO y.key
      · have n2 := q_of (fun W (hW : Below w4.heap.size w4 W) => ctakes_any n₀ c p y W (HY.out.kp (KpT.of hW HSZ.out)) false ht2)
        rw [ht2, Bool.false_and] at h3
        subst h3
        clear ht2
        refine wp_region_quiet_below (by kernel_rfl) (by kernel_rfl) ?_
        repeat (go_big_quiet_step (first | with_reducible exact n1 _ _ | with_reducible exact n2 _ _))
        refine wpQuiet_nil ?_
        intro _ hw'
        obtain ⟨⟨dq, osq⟩, hw''⟩ := hw'
        subst hw''
        have HBR := Lib.hid (below_regrown w4 dq osq)
        generalize grow (redrawn w4 dq) osq = w1 at *
        have HF := Lib.hid HBR.out
        clear HBR a0 x1 x2 y1 y2 EQ n1 n2
        go_wp2
        go_meet
        case rel => exact ⟨rfl, HF.out⟩
      · have n2 := q_of (fun W (hW : Below w4.heap.size w4 W) => ctakes_any n₀ c p y W (HY.out.kp (KpT.of hW HSZ.out)) true ht2)
        rw [ht2, Bool.true_and] at h3
        rw [h3] at EQ
        clear ht2 h3
        refine wp_region_quiet_below (by kernel_rfl) (by kernel_rfl) ?_
        repeat (go_big_quiet_step (first | with_reducible exact n1 _ _ | with_reducible exact n2 _ _))
        refine wpQuiet_nil ?_
        intro _ hw'
        obtain ⟨⟨dq, osq⟩, hw''⟩ := hw'
        subst hw''
        have HBR := Lib.hid (below_regrown w4 dq osq)
        generalize grow (redrawn w4 dq) osq = w1 at *
        have HF := Lib.hid HBR.out
        clear HBR a0 x1 x2 y1 y2 EQ n1 n2
        go_wp2
        go_meet
        case rel => exact ⟨rfl, HF.out⟩
  case rest =>
    obtain ⟨rfl, HW⟩ := hcut
    have hb := HW.out
    have k_ := KpT.of hb HSZ.out
    replace HA := Lib.hid (k_.box HA.out)
    replace HX := Lib.hid (HX.out.kp k_)
    replace HY := Lib.hid (HY.out.kp k_)
    replace HH := Lib.hid (k_.box HH.out)
    replace HRY := Lib.hid (HRY.out.on hb)
    replace HRX := Lib.hid (HRX.out.on hb)
    replace HB := Lib.hid (HB.out.trans (hb.mono HB.out.size))
    replace HSZ := Lib.hid (Nat.le_trans HSZ.out hb.size)
    clear hb k_ HW
    generalize wc = w5 at *
    cases b3
    rotate_left
    · have HV : Hid (r = 4) := by show _ = _; rw [← HR.out]; rfl
      clear HX HY HRX HRY HA HH H1 H2 H3 H4 H5 HR HSZ
      go_wp2
      go_ret
      exact ⟨by rw [HV.out]; rfl, HB.out⟩
    -- @P3
    go_upto_region 9 with (fail)
    go_cut [41] from 42 to 54 (fun v wx => v = .bool b4 ∧ Hid (Below w5.heap.size w5 wx))
    case first =>
      have a0 := HA.out.cell
      have x0 := HX.out.c.kind
      have x1 := HX.out.c.selfp
      have x2 := HX.out.c.selfn
      have HE : Hid (Below w5.heap.size w5 w5) := Below.refl _ _
      have h4 := H4.out
      by_cases h3 : x.kind = 3
      · have q3 : (x.kind == 3) = true := by simpa using h3
        rw [decide_eq_true h3, Bool.true_and] at h4
        have CW := Lib.hid (cwithin_any (some ⟨gz, 0, none⟩) (plO y) 2 x.self w5 HRY.out (by have := plO_two y; omega) b4 h4)
        clear h3 h4
        go_wp2_with fail
        refine CW.out.mono ?_
        rintro e w6 ⟨rfl, hb⟩
        have HF := Lib.hid hb
        clear hb CW a0 x0 x1 x2
        go_wp2
        go_meet
        case rel => exact ⟨rfl, HF.out⟩
      · have q3 : (x.kind == 3) = false := by simpa using h3
        rw [decide_eq_false h3, Bool.false_and] at h4
        subst h4
        clear h3
        go_wp2
        go_meet
        case rel => exact ⟨rfl, HE.out⟩
    case rest =>
      obtain ⟨rfl, HW⟩ := hcut
      have hb := HW.out
      have k_ := KpT.of hb HSZ.out
      replace HA := Lib.hid (k_.box HA.out)
      replace HX := Lib.hid (HX.out.kp k_)
      replace HY := Lib.hid (HY.out.kp k_)
      replace HH := Lib.hid (k_.box HH.out)
      replace HRY := Lib.hid (HRY.out.on hb)
      replace HRX := Lib.hid (HRX.out.on hb)
      replace HB := Lib.hid (HB.out.trans (hb.mono HB.out.size))
      replace HSZ := Lib.hid (Nat.le_trans HSZ.out hb.size)
      clear hb k_ HW
      generalize wc = w6 at *
      cases b4
      rotate_left
      · have HV : Hid (r = 5) := by show _ = _; rw [← HR.out]; rfl
        clear HX HY HRX HRY HA HH H1 H2 H3 H4 H5 HR HSZ
        go_wp2
        go_ret
        exact ⟨by rw [HV.out]; rfl, HB.out⟩
      -- @P4
      go_upto_region 10 with (fail)
      have y0 := fun d os => cell_regrown HY.out.c.kind d os
      have y1 := fun d os => cell_regrown HY.out.c.selfp d os
      have y2 := fun d os => cell_regrown HY.out.c.selfn d os
      have h0 := fun d os => cell_regrown HH.out.cell d os
      have h5 := H5.out
      by_cases h3 : y.kind = 3
      · have q3 : (y.kind == 3) = true := by simpa using h3
        rw [decide_eq_true h3, Bool.true_and] at h5
        have n1 := q_of (fun W (hW : Below w6.heap.size w6 W) => cwithin_any (some ⟨gt, 0, none⟩) (plO x) 2 y.self W (HRX.out.on hW) (by have := plO_two x; omega) b5 h5)
        clear h3 h5
        cases b5
        · skip
          refine wp_region_quiet_below (by kernel_rfl) (by kernel_rfl) ?_
          repeat (go_big_quiet_step (first | with_reducible exact n1 _ _))
          refine wpQuiet_nil ?_
          intro _ hw'
          obtain ⟨⟨dq, osq⟩, hw''⟩ := hw'
          subst hw''
          have HBR := Lib.hid (below_regrown w6 dq osq)
          generalize grow (redrawn w6 dq) osq = w1 at *
          have HF := Lib.hid (HB.out.trans (HBR.out.mono HB.out.size))
          have HV : Hid (r = 0) := by show _ = _; rw [← HR.out]; rfl
          clear HBR y0 y1 y2 h0 HX HY HRX HRY HA HH H1 H2 H3 H4 H5 HR HSZ
          go_wp2
          go_ret
          exact ⟨by rw [HV.out]; rfl, HF.out⟩
        · skip
          refine wp_region_quiet_below (by kernel_rfl) (by kernel_rfl) ?_
          repeat (go_big_quiet_step (first | with_reducible exact n1 _ _))
          refine wpQuiet_nil ?_
          intro _ hw'
          obtain ⟨⟨dq, osq⟩, hw''⟩ := hw'
          subst hw''
          have HBR := Lib.hid (below_regrown w6 dq osq)
          generalize grow (redrawn w6 dq) osq = w1 at *
          have HF := Lib.hid (HB.out.trans (HBR.out.mono HB.out.size))
          have HV : Hid (r = 5) := by show _ = _; rw [← HR.out]; rfl
          clear HBR y0 y1 y2 h0 HX HY HRX HRY HA HH H1 H2 H3 H4 H5 HR HSZ
          go_wp2
          go_ret
          exact ⟨by rw [HV.out]; rfl, HF.out⟩
      · have q3 : (y.kind == 3) = false := by simpa using h3
        rw [decide_eq_false h3, Bool.false_and] at h5
        subst h5
        clear h3
        refine wp_region_quiet_below (by kernel_rfl) (by kernel_rfl) ?_
        repeat (go_big_quiet_step (fail))
        refine wpQuiet_nil ?_
        intro _ hw'
        obtain ⟨⟨dq, osq⟩, hw''⟩ := hw'
        subst hw''
        have HBR := Lib.hid (below_regrown w6 dq osq)
        generalize grow (redrawn w6 dq) osq = w1 at *
        have HF := Lib.hid (HB.out.trans (HBR.out.mono HB.out.size))
        have HV : Hid (r = 0) := by show _ = _; rw [← HR.out]; rfl
        clear HBR y0 y1 y2 h0 HX HY HRX HRY HA HH H1 H2 H3 H4 H5 HR HSZ
        go_wp2
        go_ret
        exact ⟨by rw [HV.out]; rfl, HF.out⟩
end Go.Proofs.YtideldgblafhlaaDoor
