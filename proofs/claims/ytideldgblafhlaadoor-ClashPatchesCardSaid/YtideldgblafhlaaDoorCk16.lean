/- Package clash: takes, loses, touched. -/
import Derived.Lib.SlicesCompact
import Derived.Test.YtideldgblafhlaaDoorShelf
import Derived.BigQuiet
import Derived.Deep.QuietTactic
import Derived.Deep.RegionHeld3
import Derived.Test.YtideldgblafhlaaDoorCk11
namespace Go.Proofs.YtideldgblafhlaaDoor
open Go.RowKit
set_option linter.unusedVariables false

set_option maxHeartbeats 2000000 in
set_option maxRecDepth 100000 in
theorem ctakes_any (n₀ b o : Nat) (x : Om) (w : World) (hx : OpPl w n₀ b o x) (r : Bool) (hr : takesO x.key = r) :
    Calls Tryd.prog 46 #[.pointer (some ⟨b, o, none⟩)] w fun e w' => e = .returned (.bool r) ∧ Below w.heap.size w w' := by
  have k := hx.c.kind
  have hb := Below.refl w.heap.size w
  have hr2 : (decide (x.kind = 3) || decide (x.kind = 4)) = r := hr
  clear hx hr
  go_enter Tryd.func46, Tryd.ntmps46
  by_cases h3 : x.kind = 3
  · have q3 : (x.kind == 3) = true := by simpa using h3
    obtain rfl : r = true := by rw [← hr2, decide_eq_true h3]; rfl
    go_wp2
    go_ret
    exact ⟨rfl, hb⟩
  · have q3 : (x.kind == 3) = false := by simpa using h3
    by_cases h4 : x.kind = 4
    · have q4 : (x.kind == 4) = true := by simpa using h4
      obtain rfl : r = true := by rw [← hr2, decide_eq_true h4, Bool.or_true]
      go_wp2
      go_ret
      exact ⟨rfl, hb⟩
    · have q4 : (x.kind == 4) = false := by simpa using h4
      obtain rfl : r = false := by rw [← hr2, decide_eq_false h3, decide_eq_false h4]; rfl
      go_wp2
      go_ret
      exact ⟨rfl, hb⟩
set_option maxHeartbeats 4000000 in
set_option maxRecDepth 100000 in
theorem closes_any (n₀ b o c p : Nat) (x y : Om) (w : World) (hx : OpPl w n₀ b o x) (hy : OpPl w n₀ c p y) (r : Bool) (hr : losesO x.key y.key = r) :
    Calls Tryd.prog 43 #[.pointer (some ⟨b, o, none⟩), .pointer (some ⟨c, p, none⟩)] w fun e w' => e = .returned (.bool r) ∧ Below w.heap.size w w' := by
  have x0 := hx.c.kind
  have x1 := hx.c.selfp
  have x2 := hx.c.selfn
  have y0 := hy.c.kind
  have y1 := hy.c.selfp
  have y2 := hy.c.selfn
  have hb : ∀ q, Hid (Below w.heap.size w (w.drewN q)) := fun q => below_drewN (Below.refl w.heap.size w) q
  have hr2 : (decide (x.kind = 5) && decide (y.kind = 3) && decide (x.self = y.self)) = r := by
    rw [← hr]
    unfold losesO
    rw [show decide (x.key.self = y.key.self) = decide (x.self = y.self) from decide_eq_decide.2 (self_iff x y)]
    rfl
  have EQ := fun W => eql_id x.self y.self W
  clear hx hy hr
  go_enter Tryd.func43, Tryd.ntmps43
  go_wp2
  by_cases h5 : x.kind = 5
  · have q5 : (x.kind == 5) = true := by simpa using h5
    by_cases h3 : y.kind = 3
    · have q3 : (y.kind == 3) = true := by simpa using h3
      rw [decide_eq_true h5, decide_eq_true h3, Bool.true_and, Bool.true_and] at hr2
      rw [hr2] at EQ
      clear hr2 h5 h3
      go_quiet (fail)
      go_wp2
      go_ret
      exact ⟨rfl, (hb _).out⟩
    · have q3 : (y.kind == 3) = false := by simpa using h3
      obtain rfl : r = false := by rw [← hr2, decide_eq_false h3]; simp
      clear hr2 h5 h3
      go_quiet (fail)
      go_wp2
      go_ret
      exact ⟨rfl, (hb _).out⟩
  · have q5 : (x.kind == 5) = false := by simpa using h5
    obtain rfl : r = false := by rw [← hr2, decide_eq_false h5]; simp
    clear hr2 h5
    go_quiet (fail)
    go_wp2
    go_ret
    exact ⟨rfl, (hb _).out⟩
/-- An array of two places of nothing. -/
def ZArr (w : World) (g : Nat) : Prop := w.heap[g]? = some (.cells #[.string ⟨#[]⟩, .int .i64 0, .string ⟨#[]⟩, .string ⟨#[]⟩, .int .i64 0, .string ⟨#[]⟩] 51 (0, 0))
theorem ZArr.lt {w : World} {g : Nat} (h : ZArr w g) : g < w.heap.size := (Array.getElem?_eq_some_iff.1 h).1
theorem ZArr.on {w w' : World} {g : Nat} (h : ZArr w g) (hb : Below w.heap.size w w') : ZArr w' g := (hb.block g h.lt).trans h
theorem ZArr.cell {w : World} {g : Nat} (h : ZArr w g) {r : Nat} {u : Value} (hu : (#[.string ⟨#[]⟩, .int .i64 0, .string ⟨#[]⟩, .string ⟨#[]⟩, .int .i64 0, .string ⟨#[]⟩] : Array Value)[r]? = some u) : w.cell? ⟨g, r, none⟩ = some u := by
  have hk : w.heap[g]? = _ := h
  simp only [World.cell?, hk, Option.isSome_none, Bool.false_eq_true, if_false]
  exact hu
theorem ZArr.fz {w : World} {g : Nat} (h : ZArr w g) (i : Nat) : w.frozen? ⟨g, i, none⟩ = false := by
  have hk : w.heap[g]? = _ := h
  simp [World.frozen?, hk]
theorem two_grown (w : World) (g : Nat) (x : Om) : w.grownBy (((((((w.setCell ⟨g, 0, none⟩ (.string x.parent.p)).setCell ⟨g, 1, none⟩ (.int .i64 x.parent.n)).setCell ⟨g, 2, none⟩ (.string x.name)).setCell ⟨g, 3, none⟩ (.string x.dst.p)).setCell ⟨g, 4, none⟩ (.int .i64 x.dst.n)).setCell ⟨g, 5, none⟩ (.string x.dname))) (some g) := Rk.setCells_grown w g 0 [.string x.parent.p, .int .i64 x.parent.n, .string x.name, .string x.dst.p, .int .i64 x.dst.n, .string x.dname]
theorem two_put {w : World} {g : Nat} (h : ZArr w g) (x : Om) : PlArr (((((((w.setCell ⟨g, 0, none⟩ (.string x.parent.p)).setCell ⟨g, 1, none⟩ (.int .i64 x.parent.n)).setCell ⟨g, 2, none⟩ (.string x.name)).setCell ⟨g, 3, none⟩ (.string x.dst.p)).setCell ⟨g, 4, none⟩ (.int .i64 x.dst.n)).setCell ⟨g, 5, none⟩ (.string x.dname))) g x := by
  obtain ⟨c2, e1, e2⟩ := Rk.setCells_arr g 51 [.string x.parent.p, .int .i64 x.parent.n, .string x.name, .string x.dst.p, .int .i64 x.dst.n, .string x.dname] 0 w _ h
  have h : c2 = #[.string x.parent.p, .int .i64 x.parent.n, .string x.name, .string x.dst.p, .int .i64 x.dst.n, .string x.dname] := Array.toList_inj.1 e2
  subst h
  exact e1
/-- Both places, and how many of them are touched. -/
def TouchLeft (x : Om) (w : World) (e : Ending) (w' : World) : Prop := e = .returned (.tuple #[.agg #[.string x.parent.p, .int .i64 x.parent.n, .string x.name, .string x.dst.p, .int .i64 x.dst.n, .string x.dname], .int .i64 ((plO x).length : Int)]) ∧ Below w.heap.size w w'
theorem sized_two : (Tryd.prog.info? 51).map (·.size) = some 6 := by kernel_rfl
theorem load_two {w : World} {g : Nat} {x : Om} (k : PlArr w g x) : (loadVar 51 ⟨g, 0, none⟩).run Tryd.prog w = .ok (.agg #[.string x.parent.p, .int .i64 x.parent.n, .string x.name, .string x.dst.p, .int .i64 x.dst.n, .string x.dname]) w :=
  run_loadVar_row w g 51 51 #[.string x.parent.p, .int .i64 x.parent.n, .string x.name, .string x.dst.p, .int .i64 x.dst.n, .string x.dname] (0, 0) _ k Tryd.underlying51 rfl sized_two
theorem ret_two {fn : Func} {p u : Tmp} (h : fn.results = #[.cell p 51, .tmp u]) (tmps : Array Value) (w : World) (g : Nat) (x : Om) (v : Value) (hp : tmps.getD p undef = .pointer (some ⟨g, 0, none⟩)) (hv : tmps.getD u undef = v) (k : PlArr w g x) :
    (results fn tmps).run Tryd.prog w = .ok (.tuple #[.agg #[.string x.parent.p, .int .i64 x.parent.n, .string x.name, .string x.dst.p, .int .i64 x.dst.n, .string x.dname], v]) w := by
  rw [results_cell_tmp h, hp, hv]
  simp [asAddr, load_two k, Result.andThen]
set_option maxHeartbeats 4000000 in
set_option maxRecDepth 100000 in
theorem ctouched_any (n₀ b o : Nat) (x : Om) (w : World) (hx : OpPl w n₀ b o x) (hn : n₀ ≤ w.heap.size) :
    Calls Tryd.prog 17 #[.pointer (some ⟨b, o, none⟩)] w (TouchLeft x w) := by
  have HX := Lib.hid hx
  have HN := Lib.hid hn
  have x0 := hx.c.kind
  have x1 := hx.c.parentp
  have x2 := hx.c.parentn
  have x3 := hx.c.dstp
  have x4 := hx.c.dstn
  have x5 := hx.c.name
  have x6 := hx.c.dname
  clear hx hn
  go_enter Tryd.func17, Tryd.ntmps17
  -- @P1
  go_upto_region 1 with (fail)
  have hal0 : Below w.heap.size w (w.alloc (.cells #[.string ⟨#[]⟩, .int .i64 0, .string ⟨#[]⟩, .string ⟨#[]⟩, .int .i64 0, .string ⟨#[]⟩] 51)) := (Below.refl _ _).alloc (Nat.le_refl _) _
  have HB0 := Lib.hid hal0
  have HZ : Hid (ZArr (w.alloc (.cells #[.string ⟨#[]⟩, .int .i64 0, .string ⟨#[]⟩, .string ⟨#[]⟩, .int .i64 0, .string ⟨#[]⟩] 51)) w.heap.size) := World.alloc_heap_new w _
  have HN2 : Hid (n₀ ≤ (w.alloc (.cells #[.string ⟨#[]⟩, .int .i64 0, .string ⟨#[]⟩, .string ⟨#[]⟩, .int .i64 0, .string ⟨#[]⟩] 51)).heap.size) := Nat.le_trans HN.out hal0.size
  replace HX := Lib.hid (HX.out.kp (KpT.of hal0 HN.out))
  clear hal0 x0 x1 x2 x3 x4 x5 x6
  generalize (w.alloc (.cells #[.string ⟨#[]⟩, .int .i64 0, .string ⟨#[]⟩, .string ⟨#[]⟩, .int .i64 0, .string ⟨#[]⟩] 51)) = wa at *
  have HSZ0 : Hid (w.heap.size ≤ wa.heap.size) := HB0.out.size
  generalize hgr : w.heap.size = gr at *
  have x0 := HX.out.c.kind
  have x1 := HX.out.c.parentp
  have x2 := HX.out.c.parentn
  have x3 := HX.out.c.dstp
  have x4 := HX.out.c.dstn
  have x5 := HX.out.c.name
  have x6 := HX.out.c.dname
  have HDR : Hid (Below wa.heap.size wa wa.drew) := (Below.refl _ _).drew
  refine wp_region_noPanic ?_
  refine wp_region_held_drew (S := fun W => Below wa.heap.size wa W) (by kernel_rfl) HDR.out (fun hHeld => ?_)
  refine wpAnyH_take (i := 0) (oi := { dst := some 5, op := _, type := _, pos := _, after := _, guard := _ }) (v := .pointer (some ⟨b, o, none⟩)) rfl (by kernel_rfl) (by kernel_rfl) (by kernel_rfl) (fun _ _ _ h => h) (Or.inl ⟨by rfl, fun w' hSw => ?_⟩) (by assumption) ?_
  · (try dsimp only at hSw)
    go_simp
  try simp only [Act.put, List.setIfInBounds_toArray, List.set_cons_zero, List.set_cons_succ]
  refine wpAnyH_take (i := 1) (oi := { dst := some 6, op := _, type := _, pos := _, after := _, guard := _ }) (v := .pointer (some ⟨b, o, none⟩)) rfl (by kernel_rfl) (by kernel_rfl) (by kernel_rfl) (fun _ _ _ h => h) (Or.inl ⟨by rfl, fun w' hSw => ?_⟩) (by assumption) ?_
  · (try dsimp only at hSw)
    go_simp
  try simp only [Act.put, List.setIfInBounds_toArray, List.set_cons_zero, List.set_cons_succ]
  refine wpAnyH_take (i := 2) (oi := { dst := some 7, op := _, type := _, pos := _, after := _, guard := _ }) (v := .pointer (some ⟨b, o + 3, none⟩)) rfl (by kernel_rfl) (by kernel_rfl) (by kernel_rfl) (fun _ _ _ h => h) (Or.inl ⟨by rfl, fun w' hSw => ?_⟩) (by assumption) ?_
  · (try dsimp only at hSw)
    go_simp
  try simp only [Act.put, List.setIfInBounds_toArray, List.set_cons_zero, List.set_cons_succ]
  refine wpAnyH_take (i := 3) (oi := { dst := some 8, op := _, type := _, pos := _, after := _, guard := _ }) (v := .agg #[.string x.parent.p, .int .i64 x.parent.n]) rfl (by kernel_rfl) (by kernel_rfl) (by kernel_rfl) (fun _ _ _ h => h) (Or.inl ⟨by rfl, fun w' hSw => ?_⟩) (by assumption) ?_
  · (try dsimp only at hSw)
    have qx1 := (hSw.cell (rec_cell_lt x1)).trans x1
    have qx2 := (hSw.cell (rec_cell_lt x2)).trans x2
    go_simp
  try simp only [Act.put, List.setIfInBounds_toArray, List.set_cons_zero, List.set_cons_succ]
  refine wpAnyH_take (i := 4) (oi := { dst := some 9, op := _, type := _, pos := _, after := _, guard := _ }) (v := .pointer (some ⟨b, o, none⟩)) rfl (by kernel_rfl) (by kernel_rfl) (by kernel_rfl) (fun _ _ _ h => h) (Or.inl ⟨by rfl, fun w' hSw => ?_⟩) (by assumption) ?_
  · (try dsimp only at hSw)
    go_simp
  try simp only [Act.put, List.setIfInBounds_toArray, List.set_cons_zero, List.set_cons_succ]
  refine wpAnyH_take (i := 5) (oi := { dst := some 10, op := _, type := _, pos := _, after := _, guard := _ }) (v := .pointer (some ⟨b, o, none⟩)) rfl (by kernel_rfl) (by kernel_rfl) (by kernel_rfl) (fun _ _ _ h => h) (Or.inl ⟨by rfl, fun w' hSw => ?_⟩) (by assumption) ?_
  · (try dsimp only at hSw)
    go_simp
  try simp only [Act.put, List.setIfInBounds_toArray, List.set_cons_zero, List.set_cons_succ]
  refine wpAnyH_take (i := 6) (oi := { dst := some 11, op := _, type := _, pos := _, after := _, guard := _ }) (v := .pointer (some ⟨b, o + 7, none⟩)) rfl (by kernel_rfl) (by kernel_rfl) (by kernel_rfl) (fun _ _ _ h => h) (Or.inl ⟨by rfl, fun w' hSw => ?_⟩) (by assumption) ?_
  · (try dsimp only at hSw)
    go_simp
  try simp only [Act.put, List.setIfInBounds_toArray, List.set_cons_zero, List.set_cons_succ]
  refine wpAnyH_take (i := 7) (oi := { dst := some 12, op := _, type := _, pos := _, after := _, guard := _ }) (v := .string x.name) rfl (by kernel_rfl) (by kernel_rfl) (by kernel_rfl) (fun _ _ _ h => h) (Or.inl ⟨by rfl, fun w' hSw => ?_⟩) (by assumption) ?_
  · (try dsimp only at hSw)
    have qx5 := (hSw.cell (rec_cell_lt x5)).trans x5
    go_simp
  try simp only [Act.put, List.setIfInBounds_toArray, List.set_cons_zero, List.set_cons_succ]
  refine wpAnyH_take (i := 8) (oi := { dst := some 13, op := _, type := _, pos := _, after := _, guard := _ }) (v := .agg #[.string x.parent.p, .int .i64 x.parent.n, .string x.name]) rfl (by kernel_rfl) (by kernel_rfl) (by kernel_rfl) (fun _ _ _ h => h) (Or.inl ⟨by rfl, fun w' hSw => ?_⟩) (by assumption) ?_
  · (try dsimp only at hSw)
    go_simp
  try simp only [Act.put, List.setIfInBounds_toArray, List.set_cons_zero, List.set_cons_succ]
  refine wpAnyH_take (i := 9) (oi := { dst := some 14, op := _, type := _, pos := _, after := _, guard := _ }) (v := .pointer (some ⟨b, o, none⟩)) rfl (by kernel_rfl) (by kernel_rfl) (by kernel_rfl) (fun _ _ _ h => h) (Or.inl ⟨by rfl, fun w' hSw => ?_⟩) (by assumption) ?_
  · (try dsimp only at hSw)
    go_simp
  try simp only [Act.put, List.setIfInBounds_toArray, List.set_cons_zero, List.set_cons_succ]
  refine wpAnyH_take (i := 10) (oi := { dst := some 15, op := _, type := _, pos := _, after := _, guard := _ }) (v := .pointer (some ⟨b, o, none⟩)) rfl (by kernel_rfl) (by kernel_rfl) (by kernel_rfl) (fun _ _ _ h => h) (Or.inl ⟨by rfl, fun w' hSw => ?_⟩) (by assumption) ?_
  · (try dsimp only at hSw)
    go_simp
  try simp only [Act.put, List.setIfInBounds_toArray, List.set_cons_zero, List.set_cons_succ]
  refine wpAnyH_take (i := 11) (oi := { dst := some 16, op := _, type := _, pos := _, after := _, guard := _ }) (v := .pointer (some ⟨b, o + 5, none⟩)) rfl (by kernel_rfl) (by kernel_rfl) (by kernel_rfl) (fun _ _ _ h => h) (Or.inl ⟨by rfl, fun w' hSw => ?_⟩) (by assumption) ?_
  · (try dsimp only at hSw)
    go_simp
  try simp only [Act.put, List.setIfInBounds_toArray, List.set_cons_zero, List.set_cons_succ]
  refine wpAnyH_take (i := 12) (oi := { dst := some 17, op := _, type := _, pos := _, after := _, guard := _ }) (v := .agg #[.string x.dst.p, .int .i64 x.dst.n]) rfl (by kernel_rfl) (by kernel_rfl) (by kernel_rfl) (fun _ _ _ h => h) (Or.inl ⟨by rfl, fun w' hSw => ?_⟩) (by assumption) ?_
  · (try dsimp only at hSw)
    have qx3 := (hSw.cell (rec_cell_lt x3)).trans x3
    have qx4 := (hSw.cell (rec_cell_lt x4)).trans x4
    go_simp
  try simp only [Act.put, List.setIfInBounds_toArray, List.set_cons_zero, List.set_cons_succ]
  refine wpAnyH_take (i := 13) (oi := { dst := some 18, op := _, type := _, pos := _, after := _, guard := _ }) (v := .pointer (some ⟨b, o, none⟩)) rfl (by kernel_rfl) (by kernel_rfl) (by kernel_rfl) (fun _ _ _ h => h) (Or.inl ⟨by rfl, fun w' hSw => ?_⟩) (by assumption) ?_
  · (try dsimp only at hSw)
    go_simp
  try simp only [Act.put, List.setIfInBounds_toArray, List.set_cons_zero, List.set_cons_succ]
  refine wpAnyH_take (i := 14) (oi := { dst := some 19, op := _, type := _, pos := _, after := _, guard := _ }) (v := .pointer (some ⟨b, o, none⟩)) rfl (by kernel_rfl) (by kernel_rfl) (by kernel_rfl) (fun _ _ _ h => h) (Or.inl ⟨by rfl, fun w' hSw => ?_⟩) (by assumption) ?_
  · (try dsimp only at hSw)
    go_simp
  try simp only [Act.put, List.setIfInBounds_toArray, List.set_cons_zero, List.set_cons_succ]
  refine wpAnyH_take (i := 15) (oi := { dst := some 20, op := _, type := _, pos := _, after := _, guard := _ }) (v := .pointer (some ⟨b, o + 8, none⟩)) rfl (by kernel_rfl) (by kernel_rfl) (by kernel_rfl) (fun _ _ _ h => h) (Or.inl ⟨by rfl, fun w' hSw => ?_⟩) (by assumption) ?_
  · (try dsimp only at hSw)
    go_simp
  try simp only [Act.put, List.setIfInBounds_toArray, List.set_cons_zero, List.set_cons_succ]
  refine wpAnyH_take (i := 16) (oi := { dst := some 21, op := _, type := _, pos := _, after := _, guard := _ }) (v := .string x.dname) rfl (by kernel_rfl) (by kernel_rfl) (by kernel_rfl) (fun _ _ _ h => h) (Or.inl ⟨by rfl, fun w' hSw => ?_⟩) (by assumption) ?_
  · (try dsimp only at hSw)
    have qx6 := (hSw.cell (rec_cell_lt x6)).trans x6
    go_simp
  try simp only [Act.put, List.setIfInBounds_toArray, List.set_cons_zero, List.set_cons_succ]
  refine wpAnyH_take (i := 17) (oi := { dst := some 22, op := _, type := _, pos := _, after := _, guard := _ }) (v := .agg #[.string x.dst.p, .int .i64 x.dst.n, .string x.dname]) rfl (by kernel_rfl) (by kernel_rfl) (by kernel_rfl) (fun _ _ _ h => h) (Or.inl ⟨by rfl, fun w' hSw => ?_⟩) (by assumption) ?_
  · (try dsimp only at hSw)
    go_simp
  try simp only [Act.put, List.setIfInBounds_toArray, List.set_cons_zero, List.set_cons_succ]
  refine wpAnyH_take (i := 18) (oi := { dst := some 23, op := _, type := _, pos := _, after := _, guard := _ }) (v := .agg #[.string x.parent.p, .int .i64 x.parent.n, .string x.name, .string x.dst.p, .int .i64 x.dst.n, .string x.dname]) rfl (by kernel_rfl) (by kernel_rfl) (by kernel_rfl) (fun _ _ _ h => h) (Or.inl ⟨by rfl, fun w' hSw => ?_⟩) (by assumption) ?_
  · (try dsimp only at hSw)
    go_simp
  try simp only [Act.put, List.setIfInBounds_toArray, List.set_cons_zero, List.set_cons_succ]
  generalize hwD : wa.drew = wD at *
  refine wpAnyH_ready (rs := [19]) (by kernel_rfl) (by simp) ?_
  refine AllReadyH.cons rfl (fun K hK => ?_) AllReadyH.nil
  go_simp
  refine hK.out _ _ (HDR.out.alloc HDR.out.size _) (fun hHeld19 => ?_)
  clear hK K hHeld
  refine wpAnyH_ready (rs := [20]) (by kernel_rfl) (by simp) ?_
  refine AllReadyH.cons rfl (fun K hK => ?_) AllReadyH.nil
  go_simp
  have HE : Hid (Below wa.heap.size wa (wD.alloc (.cells #[.string x.parent.p, .int .i64 x.parent.n, .string x.name, .string x.dst.p, .int .i64 x.dst.n, .string x.dname] 51))) := HDR.out.alloc HDR.out.size _
  have HP := Lib.hid (PlArr.new wD x)
  refine hK.out _ _ HE.out (fun hHeld20 => ?_)
  clear hK K hHeld19
  refine wpAnyH_done (by kernel_rfl) ?_ _
  refine NoPanic.normal ?_
  go_upto_region 2 with (fail)
  clear hHeld20 HDR hwD x0 x1 x2 x3 x4 x5 x6
  generalize (wD.alloc (.cells #[.string x.parent.p, .int .i64 x.parent.n, .string x.name, .string x.dst.p, .int .i64 x.dst.n, .string x.dname] 51)) = wE at *
  generalize wD.heap.size = gE at *
  replace HX := Lib.hid (HX.out.kp (KpT.of HE.out HN2.out))
  replace HZ := Lib.hid (HZ.out.on HE.out)
  have HB1 := Lib.hid (HB0.out.trans (HE.out.mono HSZ0.out))
  have x0 := HX.out.c.kind
  have HFIN := Lib.hid (fun n : Int => show (plO x).length = n → TouchLeft x w (.returned (.tuple #[.agg #[.string x.parent.p, .int .i64 x.parent.n, .string x.name, .string x.dst.p, .int .i64 x.dst.n, .string x.dname], .int .i64 n])) (((((((wE.setCell ⟨gr, 0, none⟩ (.string x.parent.p)).setCell ⟨gr, 1, none⟩ (.int .i64 x.parent.n)).setCell ⟨gr, 2, none⟩ (.string x.name)).setCell ⟨gr, 3, none⟩ (.string x.dst.p)).setCell ⟨gr, 4, none⟩ (.int .i64 x.dst.n)).setCell ⟨gr, 5, none⟩ (.string x.dname))) from fun hn => ⟨by rw [hn], by rw [hgr]; exact HB1.out.grown (two_grown wE gr x) (Nat.le_trans HSZ0.out HE.out.size) (fun k hk => by simp only [Option.some.injEq] at hk; omega)⟩)
  have HRET := Lib.hid (two_put HZ.out x)
  have HPL := HP.out
  clear HX HN HN2 HB0 HB1 HE
  have z0 := HZ.out.cell (r := 0) rfl
  have z1 := HZ.out.cell (r := 1) rfl
  have z2 := HZ.out.cell (r := 2) rfl
  have z3 := HZ.out.cell (r := 3) rfl
  have z4 := HZ.out.cell (r := 4) rfl
  have z5 := HZ.out.cell (r := 5) rfl
  have f0 := HZ.out.fz 0
  have f1 := HZ.out.fz 1
  have f2 := HZ.out.fz 2
  have f3 := HZ.out.fz 3
  have f4 := HZ.out.fz 4
  have f5 := HZ.out.fz 5
  have p0 := HPL.cell (r := 0) rfl
  have p1 := HPL.cell (r := 1) rfl
  have p2 := HPL.cell (r := 2) rfl
  have p3 := HPL.cell (r := 3) rfl
  have p4 := HPL.cell (r := 4) rfl
  have p5 := HPL.cell (r := 5) rfl
  clear HZ HPL HP HSZ0
  obtain ⟨kd, hkd⟩ : ∃ z, x.kind = z := ⟨_, rfl⟩
  have HPLN : Hid (((plO x).length : Int) = if kd < 1 ∨ 4 < kd then 0 else if kd = 4 then 2 else 1) := by
    show _ = _
    rw [← hkd]
    unfold plO
    split
    · rfl
    · split <;> rfl
  rw [hkd] at x0
  clear hkd
  by_cases h1 : kd = 1
  · subst h1
    have HV := Lib.hid (HFIN.out 1 (by rw [HPLN.out]; rfl))
    go_wp2
    (try simp only [Exit.inBlock, Exit.then])
    refine bodyPost_ret (ret_two rfl _ _ _ x _ rfl rfl HRET.out) rfl ?_
    exact HV.out
  have q1 : (kd == 1) = false := by simpa using h1
  by_cases h2 : kd = 2
  · subst h2
    have HV := Lib.hid (HFIN.out 1 (by rw [HPLN.out]; rfl))
    go_wp2
    (try simp only [Exit.inBlock, Exit.then])
    refine bodyPost_ret (ret_two rfl _ _ _ x _ rfl rfl HRET.out) rfl ?_
    exact HV.out
  have q2 : (kd == 2) = false := by simpa using h2
  by_cases h3 : kd = 3
  · subst h3
    have HV := Lib.hid (HFIN.out 1 (by rw [HPLN.out]; rfl))
    go_wp2
    (try simp only [Exit.inBlock, Exit.then])
    refine bodyPost_ret (ret_two rfl _ _ _ x _ rfl rfl HRET.out) rfl ?_
    exact HV.out
  have q3 : (kd == 3) = false := by simpa using h3
  by_cases h4 : kd = 4
  · subst h4
    have HV := Lib.hid (HFIN.out 2 (by rw [HPLN.out]; rfl))
    go_wp2
    (try simp only [Exit.inBlock, Exit.then])
    refine bodyPost_ret (ret_two rfl _ _ _ x _ rfl rfl HRET.out) rfl ?_
    exact HV.out
  have q4 : (kd == 4) = false := by simpa using h4
  have HV := Lib.hid (HFIN.out 0 (by rw [HPLN.out, if_pos (by omega)]))
  clear h1 h2 h3 h4
  go_wp2
  (try simp only [Exit.inBlock, Exit.then])
  refine bodyPost_ret (ret_two rfl _ _ _ x _ rfl rfl HRET.out) rfl ?_
  exact HV.out
end Go.Proofs.YtideldgblafhlaaDoor
