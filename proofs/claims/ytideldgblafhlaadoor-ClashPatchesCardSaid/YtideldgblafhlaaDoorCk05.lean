/- The reference of layer 15: Ops. -/
import Derived.Lib.SlicesCompact
import Derived.Test.YtideldgblafhlaaDoorShelf
import Derived.BigQuiet
import Derived.Deep.QuietTactic
import Derived.Test.YtideldgblafhlaaDoorCk04
namespace Go.Proofs.YtideldgblafhlaaDoor
open Go.RowKit
set_option linter.unusedVariables false

/-- Why, by six questions. -/
def clashB (b1 b2 b3 b4 b5 b6 : Bool) : Int := if b1 then 1 else if b2 then 2 else if b3 then 3 else if b4 then 4 else if b5 then 5 else if b6 then 5 else 0
def cB1 (x y : Om) : Bool := decide (x.self = y.self) && (decide (x.kind = 5) && (decide (y.kind = 5) && hunksC x.key y.key))
def cB2 (x y : Om) : Bool := decide (x.self = y.self) && ((decide (x.kind = 5) && decide (y.kind = 3)) || (decide (x.kind = 3) && decide (y.kind = 5)))
def cB3 (x y : Om) : Bool := (plO x).any fun p => decide (p ∈ plO y)
def cB4 (x y : Om) : Bool := decide (x.self = y.self) && ((decide (x.kind = 3) || decide (x.kind = 4)) && (decide (y.kind = 3) || decide (y.kind = 4)))
def cB5 (x y : Om) : Bool := (plO x).any fun p => decide (y.kind = 3) && decide (p.dir = y.self)
theorem self_iff (x y : Om) : x.key.self = y.key.self ↔ x.self = y.self := ⟨fun h => Im.key_inj h, fun h => congrArg Im.key h⟩
theorem hunksC_is (x y : Om) : hunksC x.key y.key = (decide (x.left = y.left) || (decide (x.right = y.right) || (touchO x.key y.key || touchO y.key x.key))) := by
  unfold hunksC
  rw [show decide (x.key.left = y.key.left) = decide (x.left = y.left) from decide_eq_decide.2 ⟨fun h => Im.key_inj h, fun h => congrArg Im.key h⟩, show decide (x.key.right = y.key.right) = decide (x.right = y.right) from decide_eq_decide.2 ⟨fun h => Im.key_inj h, fun h => congrArg Im.key h⟩, Bool.or_assoc, Bool.or_assoc]
theorem samePl_is (x y : Om) : samePl x.key y.key = cB3 x y := by
  unfold samePl cB3
  rw [← plO_keys, ← plO_keys]
  unfold pls
  rw [List.any_map]
  congr 1
  funext p
  exact decide_eq_decide.2 mem_pls
theorem inPl_is (x y : Om) : (decide (y.kind = 3) && inPl x.key y.key) = cB5 x y := by
  unfold inPl cB5
  rw [← plO_keys]
  unfold pls
  rw [List.any_map]
  by_cases h : y.kind = 3
  · rw [decide_eq_true h]
    simp only [Bool.true_and]
    congr 1
    funext p
    exact decide_eq_decide.2 ⟨fun h => Im.key_inj h, fun h => congrArg Im.key h⟩
  · rw [decide_eq_false h]
    simp
theorem clash_is (x y : Om) : clashO x.key y.key = clashB (cB1 x y) (cB2 x y) (cB3 x y) (cB4 x y) (cB5 x y) (cB5 y x) := by
  unfold clashO clashB
  have e1 : (x.key.self = y.key.self ∧ x.key.kind = 5 ∧ y.key.kind = 5 ∧ hunksC x.key y.key = true) ↔ cB1 x y = true := by
    unfold cB1
    rw [self_iff]
    simp only [Bool.and_eq_true, decide_eq_true_eq]
    exact Iff.rfl
  have e2 : (x.key.self = y.key.self ∧ (x.key.kind = 5 ∧ y.key.kind = 3 ∨ x.key.kind = 3 ∧ y.key.kind = 5)) ↔ cB2 x y = true := by
    unfold cB2
    rw [self_iff]
    simp only [Bool.and_eq_true, Bool.or_eq_true, decide_eq_true_eq]
    exact Iff.rfl
  have e4 : (x.key.self = y.key.self ∧ (x.key.kind = 3 ∨ x.key.kind = 4) ∧ (y.key.kind = 3 ∨ y.key.kind = 4)) ↔ cB4 x y = true := by
    unfold cB4
    rw [self_iff]
    simp only [Bool.and_eq_true, Bool.or_eq_true, decide_eq_true_eq]
    exact Iff.rfl
  have e5 : (y.key.kind = 3 ∧ inPl x.key y.key = true) ↔ cB5 x y = true := by
    rw [← inPl_is, Bool.and_eq_true, decide_eq_true_eq]
    exact Iff.rfl
  have e6 : (x.key.kind = 3 ∧ inPl y.key x.key = true) ↔ cB5 y x = true := by
    rw [← inPl_is, Bool.and_eq_true, decide_eq_true_eq]
    exact Iff.rfl
  simp only [e1, e2, samePl_is, e4, e5, e6]
theorem eql_pl (x y : Plm) (w : World) : (binOp .eql 38 (.agg #[.string x.dir.p, .int .i64 x.dir.n, .string x.name]) (.agg #[.string y.dir.p, .int .i64 y.dir.n, .string y.name])).run Tryd.prog w = .ok (.bool (decide (x = y))) w := by
  have h : decide (x = y) = ((x.dir.p.toList == y.dir.p.toList) && ((x.dir.n == y.dir.n) && (x.name.toList == y.name.toList))) := by
    by_cases e : x = y
    · subst e
      simp
    · rw [decide_eq_false e]
      by_cases e1 : x.dir.p = y.dir.p
      · by_cases e2 : x.dir.n = y.dir.n
        · by_cases e3 : x.name = y.name
          · exact absurd (by obtain ⟨⟨p, n⟩, s⟩ := x; obtain ⟨⟨q, m⟩, t⟩ := y; simp_all) e
          · rw [str_ne e3]
            simp
        · simp [e2]
      · rw [str_ne e1]
        rfl
  rw [run_eql_struct, h]
  cases h1 : (x.dir.p.toList == y.dir.p.toList) <;> cases h2 : (x.dir.n == y.dir.n) <;> cases h3 : (x.name.toList == y.name.toList) <;> simp [go_sem, h1, h2, h3]
theorem pls_get {w : World} {B : Nat} {A : Option Addr} {l : List Plm} (h : plR.Row w B A l) {j : Nat} (hj : j < l.length) : ∃ b off, A = some ⟨b, off, none⟩ ∧ b < B ∧ w.cell? ⟨b, off + j * 3, none⟩ = some (.string l[j].dir.p) ∧ w.cell? ⟨b, off + j * 3 + 1, none⟩ = some (.int .i64 l[j].dir.n) ∧ w.cell? ⟨b, off + j * 3 + 2, none⟩ = some (.string l[j].name) := by
  obtain ⟨b, off, e, hlt, hc⟩ := h.get hj
  exact ⟨b, off, e, hlt, hc 0 _ rfl, hc 1 _ rfl, hc 2 _ rfl⟩
set_option maxHeartbeats 8000000 in
set_option maxRecDepth 100000 in
theorem refclash_any (x y : Om) (w : World) (ox : x.Ok w w.heap.size) (oy : y.Ok w w.heap.size) (nx : x.dels.length ≤ 1000000) (ny : y.dels.length ≤ 1000000) (r : Int) (hr : clashO x.key y.key = r) :
    Calls Tryd.prog 11 #[.agg #[.int .i64 x.kind, .string x.self.p, .int .i64 x.self.n, .string x.parent.p, .int .i64 x.parent.n, .string x.dst.p, .int .i64 x.dst.n, .string x.name, .string x.dname, .string x.left.p, .int .i64 x.left.n, .string x.right.p, .int .i64 x.right.n, .slice x.a1 x.dels.length x.c1, .int .i64 x.first, .slice x.a2 x.lines.length x.c2], .agg #[.int .i64 y.kind, .string y.self.p, .int .i64 y.self.n, .string y.parent.p, .int .i64 y.parent.n, .string y.dst.p, .int .i64 y.dst.n, .string y.name, .string y.dname, .string y.left.p, .int .i64 y.left.n, .string y.right.p, .int .i64 y.right.n, .slice y.a1 y.dels.length y.c1, .int .i64 y.first, .slice y.a2 y.lines.length y.c2]] w fun e w' => e = .returned (.int .i64 r) ∧ Below w.heap.size w w' := by
  rw [clash_is] at hr
  obtain ⟨b1, h1⟩ : ∃ b, cB1 x y = b := ⟨_, rfl⟩
  obtain ⟨b2, h2⟩ : ∃ b, cB2 x y = b := ⟨_, rfl⟩
  obtain ⟨b3, h3⟩ : ∃ b, cB3 x y = b := ⟨_, rfl⟩
  obtain ⟨b4, h4⟩ : ∃ b, cB4 x y = b := ⟨_, rfl⟩
  obtain ⟨b5, h5⟩ : ∃ b, cB5 x y = b := ⟨_, rfl⟩
  obtain ⟨b6, h6⟩ : ∃ b, cB5 y x = b := ⟨_, rfl⟩
  rw [h1, h2, h3, h4, h5, h6] at hr
  have H1 := Lib.hid h1
  have H2 := Lib.hid h2
  have H3 := Lib.hid h3
  have H4 := Lib.hid h4
  have H5 := Lib.hid h5
  have H6 := Lib.hid h6
  have HR := Lib.hid hr
  obtain ⟨hb, hx, hy⟩ := op_box2 w x y
  have HX := Lib.hid hx
  have HY := Lib.hid hy
  have HF := Lib.hid hb
  have OX := Lib.hid (ox.on hb)
  have OY := Lib.hid (oy.on hb)
  clear hb hx hy ox oy h1 h2 h3 h4 h5 h6 hr
  go_enter Tryd.func11, Tryd.ntmps11
  go_upto_region 1 with (fail)
  generalize ((w.alloc (.cells #[.int .i64 x.kind, .string x.self.p, .int .i64 x.self.n, .string x.parent.p, .int .i64 x.parent.n, .string x.dst.p, .int .i64 x.dst.n, .string x.name, .string x.dname, .string x.left.p, .int .i64 x.left.n, .string x.right.p, .int .i64 x.right.n, .slice x.a1 x.dels.length x.c1, .int .i64 x.first, .slice x.a2 x.lines.length x.c2] 27)).alloc (.cells #[.int .i64 y.kind, .string y.self.p, .int .i64 y.self.n, .string y.parent.p, .int .i64 y.parent.n, .string y.dst.p, .int .i64 y.dst.n, .string y.name, .string y.dname, .string y.left.p, .int .i64 y.left.n, .string y.right.p, .int .i64 y.right.n, .slice y.a1 y.dels.length y.c1, .int .i64 y.first, .slice y.a2 y.lines.length y.c2] 27)) = wb at *
  generalize (Value.agg #[.int .i64 x.kind, .string x.self.p, .int .i64 x.self.n, .string x.parent.p, .int .i64 x.parent.n, .string x.dst.p, .int .i64 x.dst.n, .string x.name, .string x.dname, .string x.left.p, .int .i64 x.left.n, .string x.right.p, .int .i64 x.right.n, .slice x.a1 x.dels.length x.c1, .int .i64 x.first, .slice x.a2 x.lines.length x.c2]) = vx
  generalize (Value.agg #[.int .i64 y.kind, .string y.self.p, .int .i64 y.self.n, .string y.parent.p, .int .i64 y.parent.n, .string y.dst.p, .int .i64 y.dst.n, .string y.name, .string y.dname, .string y.left.p, .int .i64 y.left.n, .string y.right.p, .int .i64 y.right.n, .slice y.a1 y.dels.length y.c1, .int .i64 y.first, .slice y.a2 y.lines.length y.c2]) = vy
  generalize hgy : w.heap.size + 1 = gy at HY ⊢
  generalize hgx : w.heap.size = gx at HX ⊢
  clear hgx hgy
  have HG : Hid (Below wb.heap.size wb wb) := Below.refl _ _
  have x_selfp := (op_cells HX.out).selfp
  have x_selfn := (op_cells HX.out).selfn
  have y_selfp := (op_cells HY.out).selfp
  have y_selfn := (op_cells HY.out).selfn
  have EQ := fun W => eql_id x.self y.self W
  obtain ⟨one, hone⟩ : ∃ b, decide (x.self = y.self) = b := ⟨_, rfl⟩
  rw [hone] at EQ
  have HONE := Lib.hid hone
  clear hone
  -- @P1
  go_upto_region 2 with (fail)
  clear EQ x_selfp x_selfn y_selfp y_selfn
  go_cut [51] from 12 to 51 (fun v wx => v = .bool b1 ∧ Hid (Below wb.heap.size wb wx))
  case first =>
    have x_kind := (op_cells HX.out).kind
    have y_kind := (op_cells HY.out).kind
    cases one
    · go_wp2
      go_meet
      case rel => exact ⟨congrArg Value.bool (by rw [← H1.out]; simp [cB1, hunksC_is, HONE.out]), HG.out⟩
  
    by_cases kx : x.kind = 5
    rotate_left
    · have qx : (x.kind == 5) = false := by simpa using kx
      go_wp2
      go_meet
      case rel => exact ⟨congrArg Value.bool (by rw [← H1.out]; simp [cB1, hunksC_is, kx]), HG.out⟩
  
    have qx : (x.kind == 5) = true := by simpa using kx
    by_cases ky : y.kind = 5
    rotate_left
    · have qy : (y.kind == 5) = false := by simpa using ky
      go_wp2
      go_meet
      case rel => exact ⟨congrArg Value.bool (by rw [← H1.out]; simp [cB1, hunksC_is, ky]), HG.out⟩
  
    have qy : (y.kind == 5) = true := by simpa using ky
    have HKX := Lib.hid kx
    have HKY := Lib.hid ky
    clear kx ky
    have x_leftp := (op_cells HX.out).leftp
    have x_leftn := (op_cells HX.out).leftn
    have y_leftp := (op_cells HY.out).leftp
    have y_leftn := (op_cells HY.out).leftn
    have x_rightp := (op_cells HX.out).rightp
    have x_rightn := (op_cells HX.out).rightn
    have y_rightp := (op_cells HY.out).rightp
    have y_rightn := (op_cells HY.out).rightn
    have EL := fun W => eql_id x.left y.left W
    have ER := fun W => eql_id x.right y.right W
    cases hl : decide (x.left = y.left)
    rotate_left
    · rw [hl] at EL
      have HL := Lib.hid hl
      clear hl ER
      go_wp2
      go_meet
      case rel => exact ⟨congrArg Value.bool (by rw [← H1.out]; unfold cB1; rw [hunksC_is, HL.out, HONE.out, HKX.out, HKY.out]; rfl), HG.out⟩
    rw [hl] at EL
    have HL := Lib.hid hl
    clear hl
    cases hr : decide (x.right = y.right)
    rotate_left
    · rw [hr] at ER
      have HRR := Lib.hid hr
      clear hr
      go_wp2
      go_meet
      case rel => exact ⟨congrArg Value.bool (by rw [← H1.out]; unfold cB1; rw [hunksC_is, HL.out, HRR.out, HONE.out, HKX.out, HKY.out]; rfl), HG.out⟩
    rw [hr] at ER
    have HRR := Lib.hid hr
    clear hr
    have HB1 : Hid (b1 = (touchO x.key y.key || touchO y.key x.key)) := by
      show _ = _
      rw [← H1.out]
      unfold cB1
      rw [hunksC_is, HL.out, HRR.out, HONE.out, HKX.out, HKY.out]
      rfl
    obtain ⟨t1, ht1⟩ : ∃ t, touchO x.key y.key = t := ⟨_, rfl⟩
    have T1 := Lib.hid (reftouch_any x y wb OX.out OY.out nx ny t1 ht1)
    rw [ht1] at HB1
    clear ht1 HKX HKY HL HRR
    -- @P2
    go_wp2_with (first | ((with_reducible refine wpList_load_opw (.tmp 2) gx x HX.out ?_ ?_ ?_ ?_); rfl; rfl; rfl; simp only [Act.put, List.setIfInBounds_toArray, List.set_cons_zero, List.set_cons_succ, Om.val, Om.cells]) | ((with_reducible refine wpList_load_opw (.tmp 3) gy y HY.out ?_ ?_ ?_ ?_); rfl; rfl; rfl; simp only [Act.put, List.setIfInBounds_toArray, List.set_cons_zero, List.set_cons_succ, Om.val, Om.cells]) | fail)
    refine T1.out.mono ?_
    rintro e w1 ⟨rfl, hb⟩
    replace HX := Lib.hid (HX.out.on hb)
    replace HY := Lib.hid (HY.out.on hb)
    replace OX := Lib.hid (OX.out.on hb)
    replace OY := Lib.hid (OY.out.on hb)
    replace HG := Lib.hid (HG.out.trans (hb.mono HG.out.size))
    clear hb T1 x_leftp x_leftn y_leftp y_leftn x_rightp x_rightn y_rightp y_rightn EL ER x_kind y_kind
    cases t1
    rotate_left
    · go_wp2
      go_meet
      case rel => exact ⟨congrArg Value.bool HB1.out.symm, HG.out⟩
    obtain ⟨t2, ht2⟩ : ∃ t, touchO y.key x.key = t := ⟨_, rfl⟩
    have T2 := Lib.hid (reftouch_any y x w1 OY.out OX.out ny nx t2 ht2)
    rw [ht2, Bool.false_or] at HB1
    clear ht2
    go_wp2_with (first | ((with_reducible refine wpList_load_opw (.tmp 2) gx x HX.out ?_ ?_ ?_ ?_); rfl; rfl; rfl; simp only [Act.put, List.setIfInBounds_toArray, List.set_cons_zero, List.set_cons_succ, Om.val, Om.cells]) | ((with_reducible refine wpList_load_opw (.tmp 3) gy y HY.out ?_ ?_ ?_ ?_); rfl; rfl; rfl; simp only [Act.put, List.setIfInBounds_toArray, List.set_cons_zero, List.set_cons_succ, Om.val, Om.cells]) | fail)
    refine T2.out.mono ?_
    rintro e w2 ⟨rfl, hb⟩
    replace HX := Lib.hid (HX.out.on hb)
    replace HY := Lib.hid (HY.out.on hb)
    replace OX := Lib.hid (OX.out.on hb)
    replace OY := Lib.hid (OY.out.on hb)
    replace HG := Lib.hid (HG.out.trans (hb.mono HG.out.size))
    clear hb T2
    go_wp2
    go_meet
    case rel => exact ⟨congrArg Value.bool HB1.out.symm, HG.out⟩
  case rest =>
    obtain ⟨rfl, HG⟩ := hcut
    have hb := HG.out
    replace HX := Lib.hid (HX.out.on hb)
    replace HY := Lib.hid (HY.out.on hb)
    replace OX := Lib.hid (OX.out.on hb)
    replace OY := Lib.hid (OY.out.on hb)
    clear hb
    obtain ⟨wA, hw⟩ : ∃ z, z = wc := ⟨_, rfl⟩
    subst hw
    cases b1
    rotate_left
    · have HF2 := Lib.hid (HF.out.trans (HG.out.mono HF.out.size))
      have HV : Hid ((1 : Int) = r) := by show _ = _; rw [← HR.out]; rfl
      clear HX HY OX OY H1 H2 H3 H4 H5 H6 HR
      go_wp2
      go_ret
      rw [← HV.out]
      exact ⟨rfl, HF2.out⟩
    clear H1
    go_upto_region 4 with (fail)
    go_cut [72] from 12 to 72 (fun v wx => v = .bool b2 ∧ wx = wA)
    case first =>
      have x_kind := (op_cells HX.out).kind
      have y_kind := (op_cells HY.out).kind
      cases one
      · go_wp2
        go_meet
        case rel => exact ⟨congrArg Value.bool (by rw [← H2.out]; simp [cB2, HONE.out]), rfl⟩
      by_cases k1 : x.kind = 5
      · have q1 : (x.kind == 5) = true := by simpa using k1
        have q13 : (x.kind == 3) = false := by simp [k1]
        by_cases k2 : y.kind = 3
        · have q2 : (y.kind == 3) = true := by simpa using k2
          go_wp2
          go_meet
          case rel => exact ⟨congrArg Value.bool (by rw [← H2.out]; simp [cB2, HONE.out, k1, k2]), rfl⟩
        · have q2 : (y.kind == 3) = false := by simpa using k2
          go_wp2
          go_meet
          case rel => exact ⟨congrArg Value.bool (by rw [← H2.out]; simp [cB2, HONE.out, k1, k2]), rfl⟩
      · have q1 : (x.kind == 5) = false := by simpa using k1
        by_cases k3 : x.kind = 3
        · have q3 : (x.kind == 3) = true := by simpa using k3
          by_cases k2 : y.kind = 5
          · have q2 : (y.kind == 5) = true := by simpa using k2
            go_wp2
            go_meet
            case rel => exact ⟨congrArg Value.bool (by rw [← H2.out]; simp [cB2, HONE.out, k3, k2]), rfl⟩
          · have q2 : (y.kind == 5) = false := by simpa using k2
            go_wp2
            go_meet
            case rel => exact ⟨congrArg Value.bool (by rw [← H2.out]; simp [cB2, HONE.out, k3, k2]), rfl⟩
        · have q3 : (x.kind == 3) = false := by simpa using k3
          go_wp2
          go_meet
          case rel => exact ⟨congrArg Value.bool (by rw [← H2.out]; simp [cB2, HONE.out, k1, k3]), rfl⟩
    case rest =>
      obtain ⟨rfl, hwc⟩ := hcut
      have hwc2 := hwc.symm
      clear hwc
      subst hwc2
      cases b2
      rotate_left
      · have HF2 := Lib.hid (HF.out.trans (HG.out.mono HF.out.size))
        have HV : Hid ((2 : Int) = r) := by show _ = _; rw [← HR.out]; rfl
        clear HX HY OX OY H2 H3 H4 H5 H6 HR
        go_wp2
        go_ret
        rw [← HV.out]
        exact ⟨rfl, HF2.out⟩
      clear H2
      -- @P3
      go_upto_region 6 with (fail)
      have P1 := Lib.hid (refplaces_any x _ : Calls Tryd.prog 8 _ wA _)
      go_wp2_with (first | ((with_reducible refine wpList_load_opw (.tmp 2) gx x HX.out ?_ ?_ ?_ ?_); rfl; rfl; rfl; simp only [Act.put, List.setIfInBounds_toArray, List.set_cons_zero, List.set_cons_succ, Om.val, Om.cells]) | ((with_reducible refine wpList_load_opw (.tmp 3) gy y HY.out ?_ ?_ ?_ ?_); rfl; rfl; rfl; simp only [Act.put, List.setIfInBounds_toArray, List.set_cons_zero, List.set_cons_succ, Om.val, Om.cells]) | fail)
      refine P1.out.mono ?_
      rintro e w1 ⟨A1, c1, rfl, hr1, hb⟩
      have R1 := Lib.hid hr1
      replace HX := Lib.hid (HX.out.on hb)
      replace HY := Lib.hid (HY.out.on hb)
      replace OX := Lib.hid (OX.out.on hb)
      replace OY := Lib.hid (OY.out.on hb)
      replace HG := Lib.hid (HG.out.trans (hb.mono HG.out.size))
      clear hb hr1 P1
      have P2 := Lib.hid (refplaces_any y w1)
      go_wp2_with (first | ((with_reducible refine wpList_load_opw (.tmp 2) gx x HX.out ?_ ?_ ?_ ?_); rfl; rfl; rfl; simp only [Act.put, List.setIfInBounds_toArray, List.set_cons_zero, List.set_cons_succ, Om.val, Om.cells]) | ((with_reducible refine wpList_load_opw (.tmp 3) gy y HY.out ?_ ?_ ?_ ?_); rfl; rfl; rfl; simp only [Act.put, List.setIfInBounds_toArray, List.set_cons_zero, List.set_cons_succ, Om.val, Om.cells]) | fail)
      refine P2.out.mono ?_
      rintro e w2 ⟨A2, c2, rfl, hr2, hb⟩
      have R2 := Lib.hid hr2
      replace R1 := Lib.hid (R1.out.on hb)
      replace HX := Lib.hid (HX.out.on hb)
      replace HY := Lib.hid (HY.out.on hb)
      replace OX := Lib.hid (OX.out.on hb)
      replace OY := Lib.hid (OY.out.on hb)
      replace HG := Lib.hid (HG.out.trans (hb.mono HG.out.size))
      clear hb hr2 P2
      have lx2 := plO_two x
      have ly2 := plO_two y
      obtain ⟨lx, hlx⟩ : ∃ l, plO x = l := ⟨_, rfl⟩
      obtain ⟨ly, hly⟩ : ∃ l, plO y = l := ⟨_, rfl⟩
      have HC3 : Hid ((lx.any fun p => decide (p ∈ ly)) = b3) := by show _ = _; rw [← H3.out]; unfold cB3; rw [hlx, hly]
      have HC5 : Hid ((lx.any fun p => decide (y.kind = 3) && decide (p.dir = y.self)) = b5) := by show _ = _; rw [← H5.out]; unfold cB5; rw [hlx]
      have HC6 : Hid ((ly.any fun p => decide (x.kind = 3) && decide (p.dir = x.self)) = b6) := by show _ = _; rw [← H6.out]; unfold cB5; rw [hly]
      rw [hlx] at R1 lx2 ⊢
      rw [hly] at R2 ly2 ⊢
      clear H3 H5 H6 hlx hly
      replace HF := Lib.hid (HF.out.trans (HG.out.mono HF.out.size))
      have HG0 : Hid (Below w2.heap.size w2 w2) := Below.refl _ _
      clear HG
      -- @P4
      go_wp2
      go_loopw [8] (fun i wr => ∃ k : Nat, k ≤ lx.length ∧ i = .int .i64 (k : Int) ∧ Hid (∀ j (hj : j < lx.length), j < k → lx[j] ∉ ly) ∧ Hid (Below w2.heap.size w2 wr)) (fun i _ => lx.length - (intOf i).toNat)
      case atStart => exact ⟨0, Nat.zero_le _, rfl, fun j _ h => absurd h (by omega), HG0.out⟩
      case round =>
        clear HG0
        obtain ⟨k, hk, rfl, HALL, HG⟩ := hrel
        by_cases hlt : k < lx.length
        · have u1 : (k : Int) < (lx.length : Int) := by omega
          have u0 : (0 : Int) ≤ (k : Int) := by omega
          have HG1 : Hid (Below wr.heap.size wr wr) := Below.refl _ _
          obtain ⟨p, hp⟩ : ∃ p, lx[k] = p := ⟨_, rfl⟩
          have HP := Lib.hid hp
          obtain ⟨g, off, eA, _, c0, c1', c2'⟩ := pls_get (R1.out.on HG.out) hlt
          rw [hp] at c0 c1' c2'
          have C0 := Lib.hid c0
          have C1 := Lib.hid c1'
          have C2 := Lib.hid c2'
          clear hp c0 c1' c2'
          generalize hw0 : wr = w0 at *
          clear hw0
          subst eA
          -- @P5
          go_wp2
          go_loopw [9] (fun i wr => ∃ q : Nat, q ≤ ly.length ∧ i = .int .i64 (q : Int) ∧ Hid (∀ j (hj : j < ly.length), j < q → ly[j] ≠ p) ∧ Hid (Below w0.heap.size w0 wr)) (fun i _ => ly.length - (intOf i).toNat)
          case atStart => exact ⟨0, Nat.zero_le _, rfl, fun j _ h => absurd h (by omega), HG1.out⟩
          case round =>
            clear HG1
            obtain ⟨q, hq, rfl, HNE, HI⟩ := hrel
            by_cases hlq : q < ly.length
            · have v1 : (q : Int) < (ly.length : Int) := by omega
              have v0 : (0 : Int) ≤ (q : Int) := by omega
              have x0 := cell_on C0.out HI.out
              have x1 := cell_on C1.out HI.out
              have x2 := cell_on C2.out HI.out
              obtain ⟨g2, off2, eB, _, y0, y1, y2⟩ := pls_get ((R2.out.on HG.out).on HI.out) hlq
              subst eB
              have hq' : ∀ n, Hid (Below w0.heap.size w0 (wr.drewN n)) := fun n => below_drewN HI.out n
              have EQ := fun W => eql_pl p ly[q] W
              by_cases he : p = ly[q]
              · rw [decide_eq_true he] at EQ
                have HV : Hid ((3 : Int) = r) := by
                  show _ = _
                  have hb3 : b3 = true := by
                    rw [← HC3.out, List.any_eq_true]
                    exact ⟨p, by rw [← HP.out]; exact List.getElem_mem _, decide_eq_true (he ▸ List.getElem_mem _)⟩
                  rw [← HR.out, hb3]
                  rfl
                have HFN : ∀ n, Hid (Below w.heap.size w (wr.drewN n)) := fun n => HF.out.trans ((HG.out.trans ((hq' n).out.mono HG.out.size)).mono HF.out.size)
                generalize ly[q] = z at *
                clear he HNE hq' HALL HC3 HC5 HC6 HR HP
                go_wp2
                go_quiet (fail)
                go_wp2
                go_ret
                rw [← HV.out]
                exact ⟨rfl, (HFN _).out⟩
              · rw [decide_eq_false he] at EQ
                have HNE2 : Hid (∀ j (hj : j < ly.length), j < q + 1 → ly[j] ≠ p) := fun j hj hjk => by
                  by_cases h : j = q
                  · subst h; exact fun e => he e.symm
                  · exact HNE.out j hj (by omega)
                generalize ly[q] = z at *
                clear he HNE HALL HC3 HC5 HC6 HR HP
                go_wp2
                go_quiet (fail)
                go_wp2
                go_roundw
                case rel => exact ⟨q + 1, by omega, by go_num, HNE2, hq' _⟩
                case measure => simp [intOf]; omega
            · have v1 : ¬ (q : Int) < (ly.length : Int) := by omega
              have HALL2 : Hid (∀ j (hj : j < lx.length), j < k + 1 → lx[j] ∉ ly) := fun j hj hjk => by
                by_cases h : j = k
                · subst h
                  rw [HP.out]
                  intro hm
                  obtain ⟨t, ht, e⟩ := List.getElem_of_mem hm
                  exact HNE.out t ht (by omega) e
                · exact HALL.out j hj (by omega)
              have HGN := Lib.hid (HG.out.trans (HI.out.mono HG.out.size))
              clear HNE HALL
              go_wp2
              go_roundw
              case rel => exact ⟨k + 1, by omega, by go_num, HALL2, HGN⟩
              case measure => simp [intOf]; omega
        · have u1 : ¬ (k : Int) < (lx.length : Int) := by omega
          have HB3 : Hid (b3 = false) := by
            show _ = _
            rw [← HC3.out, List.any_eq_false]
            intro p hp h
            obtain ⟨j, hj, rfl⟩ := List.getElem_of_mem hp
            exact HALL.out j hj (by omega) (of_decide_eq_true h)
          have hb := HG.out
          replace HX := Lib.hid (HX.out.on hb)
          replace HY := Lib.hid (HY.out.on hb)
          replace R1 := Lib.hid (R1.out.on hb)
          replace R2 := Lib.hid (R2.out.on hb)
          replace HF := Lib.hid (HF.out.trans (hb.mono HF.out.size))
          clear HALL hb HG OX OY HC3
          generalize hw0 : wr = w3 at *
          clear hw0
          -- @P6
          go_upto_region 16 with (fail)
          go_cut [118] from 12 to 118 (fun v wx => v = .bool b4 ∧ wx = w3)
          case first =>
            have x_kind := (op_cells HX.out).kind
            have y_kind := (op_cells HY.out).kind
            cases one
            · go_wp2
              go_meet
              case rel => exact ⟨congrArg Value.bool (by rw [← H4.out]; simp [cB4, HONE.out]), rfl⟩
            by_cases k1 : x.kind = 3
            · have q1 : (x.kind == 3) = true := by simp [k1]
              by_cases k3 : y.kind = 3
              · have q3 : (y.kind == 3) = true := by simp [k3]
                go_wp2
                go_meet
                case rel => exact ⟨congrArg Value.bool (by rw [← H4.out]; simp [cB4, HONE.out, k1, k3]), rfl⟩
              · have q3 : (y.kind == 3) = false := by simp [k3]
                by_cases k4 : y.kind = 4
                · have q4 : (y.kind == 4) = true := by simp [k4]
                  go_wp2
                  go_meet
                  case rel => exact ⟨congrArg Value.bool (by rw [← H4.out]; simp [cB4, HONE.out, k1, k4]), rfl⟩
                · have q4 : (y.kind == 4) = false := by simp [k4]
                  go_wp2
                  go_meet
                  case rel => exact ⟨congrArg Value.bool (by rw [← H4.out]; simp [cB4, HONE.out, k1, k3, k4]), rfl⟩
            · have q1 : (x.kind == 3) = false := by simp [k1]
              by_cases k2 : x.kind = 4
              · have q2 : (x.kind == 4) = true := by simp [k2]
                by_cases k3 : y.kind = 3
                · have q3 : (y.kind == 3) = true := by simp [k3]
                  go_wp2
                  go_meet
                  case rel => exact ⟨congrArg Value.bool (by rw [← H4.out]; simp [cB4, HONE.out, k2, k3]), rfl⟩
                · have q3 : (y.kind == 3) = false := by simp [k3]
                  by_cases k4 : y.kind = 4
                  · have q4 : (y.kind == 4) = true := by simp [k4]
                    go_wp2
                    go_meet
                    case rel => exact ⟨congrArg Value.bool (by rw [← H4.out]; simp [cB4, HONE.out, k2, k4]), rfl⟩
                  · have q4 : (y.kind == 4) = false := by simp [k4]
                    go_wp2
                    go_meet
                    case rel => exact ⟨congrArg Value.bool (by rw [← H4.out]; simp [cB4, HONE.out, k2, k3, k4]), rfl⟩
              · have q2 : (x.kind == 4) = false := by simp [k2]
                go_wp2
                go_meet
                case rel => exact ⟨congrArg Value.bool (by rw [← H4.out]; simp [cB4, HONE.out, k1, k2]), rfl⟩
          case rest =>
            obtain ⟨rfl, hwc⟩ := hcut
            have hwc2 := hwc.symm
            clear hwc
            subst hwc2
            cases b4
            rotate_left
            · have HV : Hid ((4 : Int) = r) := by show _ = _; rw [← HR.out, HB3.out]; rfl
              clear HX HY H4 HC5 HC6 HR
              go_wp2
              go_ret
              rw [← HV.out]
              exact ⟨rfl, HF.out⟩
            clear H4
            have HG0 : Hid (Below w3.heap.size w3 w3) := Below.refl _ _
            -- @P7
            go_wp2
            go_loopw [10] (fun i wr => ∃ k : Nat, k ≤ lx.length ∧ i = .int .i64 (k : Int) ∧ Hid (∀ j (hj : j < lx.length), j < k → ¬ (y.kind = 3 ∧ lx[j].dir = y.self)) ∧ Hid (Below w3.heap.size w3 wr)) (fun i _ => lx.length - (intOf i).toNat)
            case atStart => exact ⟨0, Nat.zero_le _, rfl, fun j _ h => absurd h (by omega), HG0.out⟩
            case round =>
              clear HG0
              obtain ⟨k, hk, rfl, HALL, HG⟩ := hrel
              by_cases hlt : k < lx.length
              · have u1 : (k : Int) < (lx.length : Int) := by omega
                have u0 : (0 : Int) ≤ (k : Int) := by omega
                obtain ⟨g, off, eA, _, c0, c1', _⟩ := pls_get (R1.out.on HG.out) hlt
                subst eA
                have o_kind := (op_cells (HY.out.on HG.out)).kind
                have o_selfp := (op_cells (HY.out.on HG.out)).selfp
                have o_selfn := (op_cells (HY.out.on HG.out)).selfn
                have hq' : ∀ n, Hid (Below w3.heap.size w3 (wr.drewN n)) := fun n => below_drewN HG.out n
                have EQ := fun W => eql_id lx[k].dir y.self W
                by_cases h3 : y.kind = 3
                · have qk : (y.kind == 3) = true := by simpa using h3
                  by_cases he : lx[k].dir = y.self
                  · rw [decide_eq_true he] at EQ
                    have HV : Hid ((5 : Int) = r) := by
                      show _ = _
                      have hb5 : b5 = true := by
                        rw [← HC5.out, List.any_eq_true]
                        exact ⟨lx[k], List.getElem_mem _, by rw [decide_eq_true h3, decide_eq_true he]; rfl⟩
                      rw [← HR.out, HB3.out, hb5]
                      cases b6 <;> rfl
                    have HFN : ∀ n, Hid (Below w.heap.size w (wr.drewN n)) := fun n => HF.out.trans ((hq' n).out.mono HF.out.size)
                    generalize lx[k].dir = z at *
                    clear he hq' HALL HC5 HC6 HR h3
                    go_wp2
                    go_quiet (fail)
                    go_wp2
                    go_ret
                    rw [← HV.out]
                    exact ⟨rfl, (HFN _).out⟩
                  · rw [decide_eq_false he] at EQ
                    have HALL2 : Hid (∀ j (hj : j < lx.length), j < k + 1 → ¬ (y.kind = 3 ∧ lx[j].dir = y.self)) := fun j hj hjk => by
                      by_cases h : j = k
                      · subst h; exact fun e => he e.2
                      · exact HALL.out j hj (by omega)
                    generalize lx[k].dir = z at *
                    clear he HALL HC5 HC6 HR h3
                    go_wp2
                    go_quiet (fail)
                    go_wp2
                    go_roundw
                    case rel => exact ⟨k + 1, by omega, by go_num, HALL2, hq' _⟩
                    case measure => simp [intOf]; omega
                · have qk : (y.kind == 3) = false := by simpa using h3
                  have HALL2 : Hid (∀ j (hj : j < lx.length), j < k + 1 → ¬ (y.kind = 3 ∧ lx[j].dir = y.self)) := fun j hj hjk => fun e => h3 e.1
                  generalize lx[k].dir = z at *
                  clear HALL HC5 HC6 HR h3 EQ
                  go_wp2
                  go_quiet (fail)
                  go_wp2
                  go_roundw
                  case rel => exact ⟨k + 1, by omega, by go_num, HALL2, hq' _⟩
                  case measure => simp [intOf]; omega
              · have u1 : ¬ (k : Int) < (lx.length : Int) := by omega
                have HN : Hid (b5 = false) := by
                  show _ = _
                  rw [← HC5.out, List.any_eq_false]
                  intro p hp h
                  obtain ⟨j, hj, rfl⟩ := List.getElem_of_mem hp
                  rw [Bool.and_eq_true, decide_eq_true_eq, decide_eq_true_eq] at h
                  exact HALL.out j hj (by omega) h
                have hb := HG.out
                clear HALL
                have HB5 := HN
                replace HX := Lib.hid (HX.out.on hb)
                replace HY := Lib.hid (HY.out.on hb)
                replace R1 := Lib.hid (R1.out.on hb)
                replace R2 := Lib.hid (R2.out.on hb)
                replace HF := Lib.hid (HF.out.trans (hb.mono HF.out.size))
                clear hb HG HN HC5
                generalize hw0 : wr = w3 at *
                clear hw0
                have HG0 : Hid (Below w3.heap.size w3 w3) := Below.refl _ _
                -- @P8
                go_wp2
                go_loopw [11] (fun i wr => ∃ k : Nat, k ≤ ly.length ∧ i = .int .i64 (k : Int) ∧ Hid (∀ j (hj : j < ly.length), j < k → ¬ (x.kind = 3 ∧ ly[j].dir = x.self)) ∧ Hid (Below w3.heap.size w3 wr)) (fun i _ => ly.length - (intOf i).toNat)
                case atStart => exact ⟨0, Nat.zero_le _, rfl, fun j _ h => absurd h (by omega), HG0.out⟩
                case round =>
                  clear HG0
                  obtain ⟨k, hk, rfl, HALL, HG⟩ := hrel
                  by_cases hlt : k < ly.length
                  · have u1 : (k : Int) < (ly.length : Int) := by omega
                    have u0 : (0 : Int) ≤ (k : Int) := by omega
                    obtain ⟨g, off, eA, _, c0, c1', _⟩ := pls_get (R2.out.on HG.out) hlt
                    subst eA
                    have o_kind := (op_cells (HX.out.on HG.out)).kind
                    have o_selfp := (op_cells (HX.out.on HG.out)).selfp
                    have o_selfn := (op_cells (HX.out.on HG.out)).selfn
                    have hq' : ∀ n, Hid (Below w3.heap.size w3 (wr.drewN n)) := fun n => below_drewN HG.out n
                    have EQ := fun W => eql_id ly[k].dir x.self W
                    by_cases h3 : x.kind = 3
                    · have qk : (x.kind == 3) = true := by simpa using h3
                      by_cases he : ly[k].dir = x.self
                      · rw [decide_eq_true he] at EQ
                        have HV : Hid ((5 : Int) = r) := by
                          show _ = _
                          have hb5 : b6 = true := by
                            rw [← HC6.out, List.any_eq_true]
                            exact ⟨ly[k], List.getElem_mem _, by rw [decide_eq_true h3, decide_eq_true he]; rfl⟩
                          rw [← HR.out, HB3.out, HB5.out, hb5]
                          rfl
                        have HFN : ∀ n, Hid (Below w.heap.size w (wr.drewN n)) := fun n => HF.out.trans ((hq' n).out.mono HF.out.size)
                        generalize ly[k].dir = z at *
                        clear he hq' HALL HC6 HR h3
                        go_wp2
                        go_quiet (fail)
                        go_wp2
                        go_ret
                        rw [← HV.out]
                        exact ⟨rfl, (HFN _).out⟩
                      · rw [decide_eq_false he] at EQ
                        have HALL2 : Hid (∀ j (hj : j < ly.length), j < k + 1 → ¬ (x.kind = 3 ∧ ly[j].dir = x.self)) := fun j hj hjk => by
                          by_cases h : j = k
                          · subst h; exact fun e => he e.2
                          · exact HALL.out j hj (by omega)
                        generalize ly[k].dir = z at *
                        clear he HALL HC6 HR h3
                        go_wp2
                        go_quiet (fail)
                        go_wp2
                        go_roundw
                        case rel => exact ⟨k + 1, by omega, by go_num, HALL2, hq' _⟩
                        case measure => simp [intOf]; omega
                    · have qk : (x.kind == 3) = false := by simpa using h3
                      have HALL2 : Hid (∀ j (hj : j < ly.length), j < k + 1 → ¬ (x.kind = 3 ∧ ly[j].dir = x.self)) := fun j hj hjk => fun e => h3 e.1
                      generalize ly[k].dir = z at *
                      clear HALL HC6 HR h3 EQ
                      go_wp2
                      go_quiet (fail)
                      go_wp2
                      go_roundw
                      case rel => exact ⟨k + 1, by omega, by go_num, HALL2, hq' _⟩
                      case measure => simp [intOf]; omega
                  · have u1 : ¬ (k : Int) < (ly.length : Int) := by omega
                    have HN : Hid (b6 = false) := by
                      show _ = _
                      rw [← HC6.out, List.any_eq_false]
                      intro p hp h
                      obtain ⟨j, hj, rfl⟩ := List.getElem_of_mem hp
                      rw [Bool.and_eq_true, decide_eq_true_eq, decide_eq_true_eq] at h
                      exact HALL.out j hj (by omega) h
                    have hb := HG.out
                    clear HALL
                    have HFN := Lib.hid (HF.out.trans (hb.mono HF.out.size))
                    have HV : Hid ((0 : Int) = r) := by show _ = _; rw [← HR.out, HB3.out, HB5.out, HN.out]; rfl
                    clear hb HG HR
                    go_wp2
                    go_ret
                    rw [← HV.out]
                    exact ⟨rfl, HFN.out⟩
end Go.Proofs.YtideldgblafhlaaDoor
