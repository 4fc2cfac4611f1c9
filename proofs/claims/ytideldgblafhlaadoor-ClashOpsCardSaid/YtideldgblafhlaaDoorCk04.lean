/- The reference of layer 15: Places, touch. A whole operation read out of a variable. -/
import Derived.Lib.SlicesCompact
import Derived.Test.YtideldgblafhlaaDoorShelf
import Derived.BigQuiet
import Derived.Deep.QuietTactic
import Derived.Deep.CutRange
import Derived.Deep.MidRow
import Derived.Deep.RegionHeld
import Derived.Test.YtideldgblafhlaaDoorCk03
namespace Go.Proofs.YtideldgblafhlaaDoor
open Go.RowKit
set_option linter.unusedVariables false

/-- The places of an operation, as they lie. -/
def plO (x : Om) : List Plm := if x.kind < 1 ∨ 4 < x.kind then [] else if x.kind = 4 then [⟨x.parent, x.name⟩, ⟨x.dst, x.dname⟩] else [⟨x.parent, x.name⟩]
theorem plO_keys (x : Om) : pls (plO x) = placesO x.key := by
  unfold plO placesO
  show _ = if x.kind < 1 ∨ 4 < x.kind then _ else if x.kind = 4 then _ else _
  split
  · rfl
  · split <;> rfl
theorem plO_two (x : Om) : (plO x).length ≤ 2 := by
  rw [← pls_len, plO_keys]
  exact places_two _
/-- A row of places comes back. -/
def PlsLeft (w : World) (l : List Plm) (e : Ending) (w' : World) : Prop := ∃ A cap, e = .returned (.slice A l.length cap) ∧ plR.Row w' w'.heap.size A l ∧ Below w.heap.size w w'
theorem pl_own (w : World) (x : Plm) : plR.Own (w.alloc (.cells #[.string x.dir.p, .int .i64 x.dir.n, .string x.name] 38)) w.heap.size (.slice (some ⟨w.heap.size, 0, none⟩) 1 1) [x] :=
  World.ownsRow_lit (base := w.heap.size) (e := 38) (size := 3) w #[.string x.dir.p, .int .i64 x.dir.n, .string x.name] 1 (Nat.le_refl _) (by decide) rfl
set_option maxHeartbeats 8000000 in
set_option maxRecDepth 100000 in
theorem refplaces_any (x : Om) (w : World) : Calls Tryd.prog 8 #[.agg #[.int .i64 x.kind, .string x.self.p, .int .i64 x.self.n, .string x.parent.p, .int .i64 x.parent.n, .string x.dst.p, .int .i64 x.dst.n, .string x.name, .string x.dname, .string x.left.p, .int .i64 x.left.n, .string x.right.p, .int .i64 x.right.n, .slice x.a1 x.dels.length x.c1, .int .i64 x.first, .slice x.a2 x.lines.length x.c2]] w (PlsLeft w (plO x)) := by
  obtain ⟨hb, hx⟩ := op_box w x
  have HX := Lib.hid hx
  have HF := Lib.hid hb
  clear hb hx
  go_enter Tryd.func8, Tryd.ntmps8
  go_upto_region 1 with (fail)
  generalize (w.alloc (.cells #[.int .i64 x.kind, .string x.self.p, .int .i64 x.self.n, .string x.parent.p, .int .i64 x.parent.n, .string x.dst.p, .int .i64 x.dst.n, .string x.name, .string x.dname, .string x.left.p, .int .i64 x.left.n, .string x.right.p, .int .i64 x.right.n, .slice x.a1 x.dels.length x.c1, .int .i64 x.first, .slice x.a2 x.lines.length x.c2] 27)) = wb at *
  generalize (Value.agg #[.int .i64 x.kind, .string x.self.p, .int .i64 x.self.n, .string x.parent.p, .int .i64 x.parent.n, .string x.dst.p, .int .i64 x.dst.n, .string x.name, .string x.dname, .string x.left.p, .int .i64 x.left.n, .string x.right.p, .int .i64 x.right.n, .slice x.a1 x.dels.length x.c1, .int .i64 x.first, .slice x.a2 x.lines.length x.c2]) = vx
  have c_kind := (op_cells HX.out).kind
  by_cases k1 : x.kind < 1
  · have HV : Hid (PlsLeft w (plO x) (.returned (.slice none 0 0)) wb) := by
      show PlsLeft _ _ _ _
      rw [show plO x = [] from if_pos (.inl k1)]
      exact ⟨none, 0, rfl, Rk.Row.nil, HF.out⟩
    go_wp2
    go_ret
    exact HV.out
  by_cases k2 : 4 < x.kind
  · have HV : Hid (PlsLeft w (plO x) (.returned (.slice none 0 0)) wb) := by
      show PlsLeft _ _ _ _
      rw [show plO x = [] from if_pos (.inr k2)]
      exact ⟨none, 0, rfl, Rk.Row.nil, HF.out⟩
    have q2 : x.kind > 4 := k2
    go_wp2
    go_ret
    exact HV.out
  have q2 : ¬ x.kind > 4 := k2
  have c_parentp := (op_cells HX.out).parentp
  have c_parentn := (op_cells HX.out).parentn
  have c_name := (op_cells HX.out).name
  by_cases k4 : x.kind = 4
  · have q4 : (x.kind == 4) = true := by simpa using k4
    have HP : Hid (plO x = [⟨x.parent, x.name⟩, ⟨x.dst, x.dname⟩]) := by
      show _ = _
      unfold plO
      rw [if_neg (by rintro (h | h); exact k1 h; exact k2 h), if_pos k4]
    have hal1 : Below wb.heap.size wb (wb.alloc (.cells #[.string x.parent.p, .int .i64 x.parent.n, .string x.name] 38)) := (Below.refl _ _).alloc (Nat.le_refl _) _
    have HO1 := Lib.hid (Rk.Own.lower (pl_own wb ⟨x.parent, x.name⟩) HF.out.size)
    have HB1 := Lib.hid (HF.out.trans (hal1.mono HF.out.size))
    have d_kind := (op_cells (HX.out.on hal1)).kind
    have d_dstp := (op_cells (HX.out.on hal1)).dstp
    have d_dstn := (op_cells (HX.out.on hal1)).dstn
    have d_dname := (op_cells (HX.out.on hal1)).dname
    -- @P1
    go_upto_region 4 with (fail)
    generalize hw1 : wb.alloc (.cells #[.string x.parent.p, .int .i64 x.parent.n, .string x.name] 38) = w1 at *
    generalize wb.heap.size = g1 at *
    have hal2 : Below w1.heap.size w1 (w1.alloc (.cells #[.string x.dst.p, .int .i64 x.dst.n, .string x.dname] 38)) := (Below.refl _ _).alloc (Nat.le_refl _) _
    have HR2 := Lib.hid (pl_own w1 ⟨x.dst, x.dname⟩).parts.2.1
    have HO2 := Lib.hid (Rk.Own.kept HO1.out hal2)
    have HB2 := Lib.hid (HB1.out.trans (hal2.mono HB1.out.size))
    have hg : w.heap.size ≤ (w1.alloc (.cells #[.string x.dst.p, .int .i64 x.dst.n, .string x.dname] 38)).heap.size := HB2.out.size
    clear hal1 hal2 hw1 c_kind c_parentp c_parentn c_name HX
    -- @P2
    go_wp2_with (at_builtin; refine plR.wpList_append rfl _ _ rfl w.heap.size (.slice (some ⟨g1, 0, none⟩) 1 1) [⟨x.parent, x.name⟩] [⟨x.dst, x.dname⟩] rfl HO2.out (some ⟨w1.heap.size, 0, none⟩) 1 1 rfl rfl (fun e => by cases e) HR2.out hg (by simp) 2 rfl ?_)
    intro A3 c3 w3 ho hgr
    have HV : Hid (PlsLeft w (plO x) (.returned (.slice A3 2 c3)) w3) := by
      show PlsLeft _ _ _ _
      rw [HP.out]
      exact ⟨A3, c3, rfl, ho.parts.2.1, Rk.Own.app HB2.out HO2.out hgr (Nat.le_refl _)⟩
    clear ho hgr HO2 HR2 HB2
    go_wp2
    go_ret
    exact HV.out
  · have q4 : (x.kind == 4) = false := by simpa using k4
    have HP : Hid (plO x = [⟨x.parent, x.name⟩]) := by
      show _ = _
      unfold plO
      rw [if_neg (by rintro (h | h); exact k1 h; exact k2 h), if_neg k4]
    have hal1 : Below wb.heap.size wb (wb.alloc (.cells #[.string x.parent.p, .int .i64 x.parent.n, .string x.name] 38)) := (Below.refl _ _).alloc (Nat.le_refl _) _
    have HV : Hid (PlsLeft w (plO x) (.returned (.slice (some ⟨wb.heap.size, 0, none⟩) 1 1)) (wb.alloc (.cells #[.string x.parent.p, .int .i64 x.parent.n, .string x.name] 38))) := by
      show PlsLeft _ _ _ _
      rw [HP.out]
      exact ⟨_, 1, rfl, (pl_own wb ⟨x.parent, x.name⟩).parts.2.1, HF.out.trans (hal1.mono HF.out.size)⟩
    have d_kind := (op_cells (HX.out.on hal1)).kind
    clear hal1
    -- @P3
    go_wp2
    go_ret
    exact HV.out
theorem touch_is (x y : Om) : touchO x.key y.key = (decide (y.left ∈ x.dels) || decide (y.right ∈ x.dels) || meetI (ikeys x.dels) (ikeys y.dels)) := by
  unfold touchO
  rw [show decide (y.key.left ∈ x.key.dels) = decide (y.left ∈ x.dels) from decide_eq_decide.2 mem_ikeys, show decide (y.key.right ∈ x.key.dels) = decide (y.right ∈ x.dels) from decide_eq_decide.2 mem_ikeys]
  rfl
set_option maxHeartbeats 8000000 in
set_option maxRecDepth 100000 in
theorem reftouch_any (x y : Om) (w : World) (ox : x.Ok w w.heap.size) (oy : y.Ok w w.heap.size) (nx : x.dels.length ≤ 1000000) (ny : y.dels.length ≤ 1000000) (r : Bool) (hr : touchO x.key y.key = r) :
    Calls Tryd.prog 22 #[.agg #[.int .i64 x.kind, .string x.self.p, .int .i64 x.self.n, .string x.parent.p, .int .i64 x.parent.n, .string x.dst.p, .int .i64 x.dst.n, .string x.name, .string x.dname, .string x.left.p, .int .i64 x.left.n, .string x.right.p, .int .i64 x.right.n, .slice x.a1 x.dels.length x.c1, .int .i64 x.first, .slice x.a2 x.lines.length x.c2], .agg #[.int .i64 y.kind, .string y.self.p, .int .i64 y.self.n, .string y.parent.p, .int .i64 y.parent.n, .string y.dst.p, .int .i64 y.dst.n, .string y.name, .string y.dname, .string y.left.p, .int .i64 y.left.n, .string y.right.p, .int .i64 y.right.n, .slice y.a1 y.dels.length y.c1, .int .i64 y.first, .slice y.a2 y.lines.length y.c2]] w fun e w' => e = .returned (.bool r) ∧ Below w.heap.size w w' := by
  rw [touch_is] at hr
  obtain ⟨hb, hx, hy⟩ := op_box2 w x y
  have HX := Lib.hid hx
  have HY := Lib.hid hy
  have HF := Lib.hid hb
  have OX := Lib.hid (ox.on hb)
  have OY := Lib.hid (oy.on hb)
  clear hb hx hy ox oy
  go_enter Tryd.func22, Tryd.ntmps22
  go_upto_region 1 with (fail)
  generalize ((w.alloc (.cells #[.int .i64 x.kind, .string x.self.p, .int .i64 x.self.n, .string x.parent.p, .int .i64 x.parent.n, .string x.dst.p, .int .i64 x.dst.n, .string x.name, .string x.dname, .string x.left.p, .int .i64 x.left.n, .string x.right.p, .int .i64 x.right.n, .slice x.a1 x.dels.length x.c1, .int .i64 x.first, .slice x.a2 x.lines.length x.c2] 27)).alloc (.cells #[.int .i64 y.kind, .string y.self.p, .int .i64 y.self.n, .string y.parent.p, .int .i64 y.parent.n, .string y.dst.p, .int .i64 y.dst.n, .string y.name, .string y.dname, .string y.left.p, .int .i64 y.left.n, .string y.right.p, .int .i64 y.right.n, .slice y.a1 y.dels.length y.c1, .int .i64 y.first, .slice y.a2 y.lines.length y.c2] 27)) = wb at *
  generalize (Value.agg #[.int .i64 x.kind, .string x.self.p, .int .i64 x.self.n, .string x.parent.p, .int .i64 x.parent.n, .string x.dst.p, .int .i64 x.dst.n, .string x.name, .string x.dname, .string x.left.p, .int .i64 x.left.n, .string x.right.p, .int .i64 x.right.n, .slice x.a1 x.dels.length x.c1, .int .i64 x.first, .slice x.a2 x.lines.length x.c2]) = vx
  generalize (Value.agg #[.int .i64 y.kind, .string y.self.p, .int .i64 y.self.n, .string y.parent.p, .int .i64 y.parent.n, .string y.dst.p, .int .i64 y.dst.n, .string y.name, .string y.dname, .string y.left.p, .int .i64 y.left.n, .string y.right.p, .int .i64 y.right.n, .slice y.a1 y.dels.length y.c1, .int .i64 y.first, .slice y.a2 y.lines.length y.c2]) = vy
  generalize w.heap.size + 1 = gy at *
  have gxs : Hid (w.heap.size ≤ wb.heap.size) := HF.out.size
  have x_dels := (op_cells HX.out).dels
  have y_leftp := (op_cells HY.out).leftp
  have y_leftn := (op_cells HY.out).leftn
  have H1 := Lib.hid (refihas_any x.a1 x.dels x.c1 y.left wb OX.out.dels nx)
  unfold Im.val at H1
  cases h1 : decide (y.left ∈ x.dels)
  · rw [h1] at H1 hr
    clear h1
    -- @P4
    go_wp2_with fail
    refine H1.out.mono ?_
    rintro e w1 ⟨rfl, hb⟩
    have HB1 := Lib.hid (HF.out.trans (hb.mono HF.out.size))
    replace HX := Lib.hid (HX.out.on hb)
    replace HY := Lib.hid (HY.out.on hb)
    replace OX := Lib.hid (OX.out.on hb)
    replace OY := Lib.hid (OY.out.on hb)
    clear hb H1 x_dels y_leftp y_leftn gxs HF
    have x_dels := (op_cells HX.out).dels
    have y_rightp := (op_cells HY.out).rightp
    have y_rightn := (op_cells HY.out).rightn
    have H2 := Lib.hid (refihas_any x.a1 x.dels x.c1 y.right w1 OX.out.dels nx)
    unfold Im.val at H2
    cases h2 : decide (y.right ∈ x.dels)
    · rw [h2] at H2 hr
      clear h2
      go_wp2_with fail
      refine H2.out.mono ?_
      rintro e w2 ⟨rfl, hb⟩
      have HB2 := Lib.hid (HB1.out.trans (hb.mono HB1.out.size))
      replace HX := Lib.hid (HX.out.on hb)
      replace HY := Lib.hid (HY.out.on hb)
      replace OX := Lib.hid (OX.out.on hb)
      replace OY := Lib.hid (OY.out.on hb)
      clear hb H2 x_dels y_rightp y_rightn HB1
      have x_dels := (op_cells HX.out).dels
      have y_dels := (op_cells HY.out).dels
      have H3 := Lib.hid (refimeet_any x.a1 y.a1 x.dels y.dels x.c1 y.c1 w2 OX.out.dels OY.out.dels nx ny)
      rw [show meetI (ikeys x.dels) (ikeys y.dels) = r from by simpa using hr] at H3
      clear hr
      go_wp2_with fail
      refine H3.out.mono ?_
      rintro e w3 ⟨rfl, hb⟩
      have HB3 := Lib.hid (HB2.out.trans (hb.mono HB2.out.size))
      clear hb H3 x_dels y_dels HB2 HX HY OX OY
      go_wp2
      go_ret
      exact ⟨rfl, HB3.out⟩
    · rw [h2] at H2 hr
      obtain rfl : r = true := by rw [← hr]; rfl
      clear h2 hr
      go_wp2_with fail
      refine H2.out.mono ?_
      rintro e w2 ⟨rfl, hb⟩
      have HB2 := Lib.hid (HB1.out.trans (hb.mono HB1.out.size))
      clear hb H2 x_dels y_rightp y_rightn HB1
      go_wp2
      go_ret
      exact ⟨rfl, HB2.out⟩
  · rw [h1] at H1 hr
    obtain rfl : r = true := by rw [← hr]; rfl
    clear h1 hr
    -- @P5
    go_wp2_with fail
    refine H1.out.mono ?_
    rintro e w1 ⟨rfl, hb⟩
    have HB1 := Lib.hid (HF.out.trans (hb.mono HF.out.size))
    clear hb H1 x_dels y_leftp y_leftn gxs HF
    go_wp2
    go_ret
    exact ⟨rfl, HB1.out⟩
end Go.Proofs.YtideldgblafhlaaDoor
namespace Go.Proofs.YtideldgblafhlaaDoor
open Go.RowKit
set_option linter.unusedVariables false

theorem wpList_load_opw {ops : Array Oper} {rest : List Oper} {op : Oper} {a : Act} {w : World} {Q : Exit → Act → World → Prop} (x : Operand) (g : Nat) (z : Om) (hz : OpAt w g z) (ho : op.op = .load 27 x) (hw : Region.wanted op (yielded ops a.tmps) = true)
    (hx : a.eval x = .pointer (some ⟨g, 0, none⟩)) (h : wpList Tryd.prog ops Q rest (a.put op.dst z.val) w) : wpList Tryd.prog ops Q (op :: rest) a w :=
  wpList_step fun K hK => by
    simp only [hw, if_true]
    exact wp_load_mid 27 x ho g 0 hx z.cells _ (fun j v hv => by rw [Nat.zero_add]; exact hz.cell hv) Tryd.underlying27 rfl sized_op (hK _ _ h)
end Go.Proofs.YtideldgblafhlaaDoor
