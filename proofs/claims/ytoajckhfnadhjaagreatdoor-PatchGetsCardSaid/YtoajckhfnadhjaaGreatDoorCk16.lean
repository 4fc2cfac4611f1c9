/- The reference's Ids of layer 12. The reference's Has, Set, Keep. The reference's Same of rows of operations. What package patch's calls are to do. -/
import Derived.Deep.RegionHeld3
import Derived.Deep.CutRange
import Derived.Test.YtoajckhfnadhjaaGreatDoorShelf
import Derived.BigQuiet
import Derived.BigRegion
import Derived.Deep.QuietTactic
import Derived.Handy
import Derived.Deep.MidRow
import Derived.ChangeOld
import Derived.SliceStrings
import Derived.WideShapes
import Derived.Deep.Slices
import Derived.Deep.Fields
import Derived.ChangeSame
import Derived.ChangeArms
import Derived.SizedLaws
import Derived.Deep.RegionWith
import Derived.Deep.RegionLaw
import Derived.Lib.QuietBelow
import Derived.Test.YtoajckhfnadhjaaGreatDoorCk15
namespace Go.Proofs.YtoajckhfnadhjaaGreatDoor
open Go.RowKit
set_option linter.unusedVariables false

def ids0 (x : Om) : List Im := []
def ids1 (x : Om) : List Im := ids0 x ++ (if 3 ≤ x.kind ∧ x.kind ≤ 5 then [x.self] else [])
def ids2 (x : Om) : List Im := ids1 x ++ (if 1 ≤ x.kind ∧ x.kind ≤ 4 then [x.parent] else [])
def ids3 (x : Om) : List Im := ids2 x ++ (if x.kind = 4 then [x.dst] else [])
def ids4 (x : Om) : List Im := ids3 x ++ (if x.kind = 5 then [x.left, x.right] ++ x.dels else [])
theorem ids4_keys (x : Om) : ikeys (ids4 x) = namedO x.key := by
  have hx : x.key.kind = x.kind := rfl
  unfold namedO ids4 ids3 ids2 ids1 ids0
  rw [hx]
  by_cases h1 : x.kind = 1 ∨ x.kind = 2
  · rw [if_neg (by omega), if_pos (by omega), if_neg (by omega), if_neg (by omega), if_pos h1]; rfl
  by_cases h3 : x.kind = 3
  · rw [if_pos (by omega), if_pos (by omega), if_neg (by omega), if_neg (by omega), if_neg h1, if_pos h3]; rfl
  by_cases h4 : x.kind = 4
  · rw [if_pos (by omega), if_pos (by omega), if_pos h4, if_neg (by omega), if_neg h1, if_neg h3, if_pos h4]; rfl
  by_cases h5 : x.kind = 5
  · rw [if_pos (by omega), if_neg (by omega), if_neg h4, if_pos h5, if_neg h1, if_neg h3, if_neg h4, if_pos h5]; rfl
  · rw [if_neg (by omega), if_neg (by omega), if_neg h4, if_neg h5, if_neg h1, if_neg h3, if_neg h4, if_neg h5]; rfl
theorem step_append_ids {w : World} {ops : Array Oper} {o : Oper} {a : Act} {K : Act → World → Prop} {E : Prop} (d : Tmp) (hd : o.dst = some d) (hgd : o.guard = none) (s x : Operand)
    (ho : o.op = .call { callee := .builtin .append, args := #[s, x], argTypes := #[38, 38] }) {Q : Exit → Act → World → Prop}
    (B : Nat) (v : Value) (fs tt : List Im) (hs : a.eval s = v) (hown : OwnId w B v fs) (A : Option Addr) (cap n : Nat) (hx : a.eval x = .slice A n cap) (hn : n = tt.length) (hnil : A = none → cap = 0) {C : Nat} (ht : Ids w C A tt) (hB : B ≤ w.heap.size) (hle : fs.length + tt.length ≤ 1000000)
    (m : Nat) (hm : m = fs.length + tt.length)
    (h : ∀ A' cap' w', OwnId w' B (.slice A' m cap') (fs ++ tt) → w.grownBy w' v.ownBlock → K (a.put (some d) (.slice A' m cap')) w') : if Region.wanted o (yielded ops a.tmps) = true then Oper.wp Tryz.prog o a w K Q else E :=
  idR.step_append hgd s x ho B v fs tt hs hown A cap n hx hn hnil ht hB hle m hm (by rw [hd]; exact h)
/-- Ids of a patch. -/
def ofP (l : List Im) : List Im := l.filter fun i => decide (i.key.1 ≠ [])
theorem ofP_keys (l : List Im) : ikeys (ofP l) = (ikeys l).filter fun k => decide (k.1 ≠ []) := by
  unfold ofP ikeys
  rw [List.filter_map]
  rfl
theorem ofP_no {x : Im} (h : x.p = ⟨#[]⟩) (l : List Im) (k : Nat) (hk : k < l.length) (e : l[k] = x) : ofP (l.take (k + 1)) = ofP (l.take k) := by
  unfold ofP
  rw [List.take_succ_eq_append_getElem hk, List.filter_append, e]
  simp [Im.key, h]
theorem ofP_yes {x : Im} (h : x.p ≠ ⟨#[]⟩) (l : List Im) (k : Nat) (hk : k < l.length) (e : l[k] = x) : ofP (l.take (k + 1)) = ofP (l.take k) ++ [x] := by
  unfold ofP
  rw [List.take_succ_eq_append_getElem hk, List.filter_append, e]
  congr 1
  have h2 : x.p.data.toList ≠ [] := fun h3 => h (bytes_inj (by rw [h3]))
  have h3 : ¬ x.p.data = #[] := fun h4 => h2 (by rw [h4])
  simp [Im.key, h3]
set_option maxHeartbeats 8000000 in
set_option maxRecDepth 100000 in
theorem refids_any (x : Om) (w : World) (ox : x.Ok w w.heap.size) (hn : x.dels.length ≤ 90000) :
    Calls Tryz.prog 16 #[x.val] w (IdsLeft w (idsO x.key)) := by
  obtain ⟨hb, hx⟩ := op_box w x
  have HX := Lib.hid hx
  have HF := Lib.hid hb
  have OX := Lib.hid (ox.on hb)
  clear hb hx ox
  unfold Om.val Om.cells
  go_enter Tryz.func16, Tryz.ntmps16
  go_upto_region 2 with (fail)
  generalize (w.alloc (.cells #[.int .i64 x.kind, .string x.self.p, .int .i64 x.self.n, .string x.parent.p, .int .i64 x.parent.n, .string x.dst.p, .int .i64 x.dst.n, .string x.name, .string x.dname, .string x.left.p, .int .i64 x.left.n, .string x.right.p, .int .i64 x.right.n, .slice x.a1 x.dels.length x.c1, .int .i64 x.first, .slice x.a2 x.lines.length x.c2] 42)) = wb at *
  generalize (Value.agg #[.int .i64 x.kind, .string x.self.p, .int .i64 x.self.n, .string x.parent.p, .int .i64 x.parent.n, .string x.dst.p, .int .i64 x.dst.n, .string x.name, .string x.dname, .string x.left.p, .int .i64 x.left.n, .string x.right.p, .int .i64 x.right.n, .slice x.a1 x.dels.length x.c1, .int .i64 x.first, .slice x.a2 x.lines.length x.c2]) = vx
  have HO : Hid (OwnId wb wb.heap.size (.slice none 0 0) []) := Rk.Own.nil _ _
  have HG : Hid (Below wb.heap.size wb wb) := Below.refl _ _
  have HN : Hid (0 = ([] : List Im).length) := rfl
  have HL : Hid (([] : List Im).length ≤ 0) := Nat.le_refl _
  have HOS : Hid (([] : List Im) = ids0 x) := rfl
  go_upto_region 2 with (fail)
  go_cut [13] from 6 to 12 (fun v wx => v = .bool (decide (3 ≤ x.kind ∧ x.kind ≤ 5)) ∧ wx = wb)
  case first =>
    have c_kind := (op_cells (HX.out.on HG.out)).kind
    by_cases k1 : 3 ≤ x.kind
    · by_cases k2 : x.kind ≤ 5
      · have hd := decide_eq_true (show 3 ≤ x.kind ∧ x.kind ≤ 5 from ⟨k1, k2⟩)
        go_wp2
        go_meet
        case rel => exact ⟨by rw [hd], rfl⟩
      · have hd := decide_eq_false (show ¬ (3 ≤ x.kind ∧ x.kind ≤ 5) from fun h => k2 h.2)
        go_wp2
        go_meet
        case rel => exact ⟨by rw [hd], rfl⟩
    · have hd := decide_eq_false (show ¬ (3 ≤ x.kind ∧ x.kind ≤ 5) from fun h => k1 h.1)
      go_wp2
      go_meet
      case rel => exact ⟨by rw [hd], rfl⟩
  case rest =>
    obtain ⟨rfl, hwc⟩ := hcut
    have hwc2 := hwc.symm
    clear hwc
    subst hwc2
    go_upto_if 13 with (fail)
    go_cut [3] from 13 to 18 (fun v wx => ∃ (A : Option Addr) (n c : Nat) (os : List Im), v = .slice A n c ∧ Hid (os = ids1 x) ∧ Hid (n = os.length) ∧ Hid (os.length ≤ 1) ∧ Hid (OwnId wx wb.heap.size (.slice A n c) os) ∧ Hid (Below wb.heap.size wb wx))
    case first =>
      by_cases hk : 3 ≤ x.kind ∧ x.kind ≤ 5
      · have HE : Hid (([] : List Im) ++ [x.self] = ids1 x) := by show _ = _; unfold ids1; rw [if_pos hk, HOS.out]
        have hd := decide_eq_true hk
        rw [hd]
        clear hk hd
        have c_selfp := (op_cells (HX.out.on HG.out)).selfp
        have c_selfn := (op_cells (HX.out.on HG.out)).selfn
        have hal : Below wb.heap.size wb (wb.alloc (.cells #[.string x.self.p, .int .i64 x.self.n] 40)) := (Below.refl _ _).alloc (Nat.le_refl _) _
        have HA1 := Lib.hid (Rk.Own.kept HO.out hal)
        have HR1 := Lib.hid (id_row wb x.self)
        have HS1 := Lib.hid (Nat.le_trans HG.out.size hal.size)
        have HGa := Lib.hid (HG.out.trans (hal.mono HG.out.size))
        obtain ⟨M, hM⟩ : ∃ M, M = ([] : List Im).length + [x.self].length := ⟨_, rfl⟩
        have HM := Lib.hid hM
        have hle : ([] : List Im).length + [x.self].length ≤ 1000000 := by have h := HL.out; simp only [List.length_cons, List.length_nil]; omega
        clear hal hM
        go_wp2_with (at_builtin; refine idR.wpList_append rfl _ _ rfl wb.heap.size (.slice none 0 0) ([] : List Im) [x.self] rfl HA1.out (some ⟨wb.heap.size, 0, none⟩) 1 1 rfl rfl (fun e => by cases e) HR1.out HS1.out hle M HM.out ?_)
        intro A1 c1 w1 ho hg
        have HO1 := Lib.hid ho
        have HG1 := Lib.hid (Rk.Own.app HGa.out HA1.out hg (Nat.le_refl _))
        go_wp2
        go_meet
        case rel => exact ⟨A1, M, c1, ([] : List Im) ++ [x.self], rfl, HE.out, (by show _ = _; rw [List.length_append, HM.out]), (by show _ ≤ _; have h := HL.out; simp only [List.length_append, List.length_cons, List.length_nil]; omega), HO1.out, HG1.out⟩
      · have HE : Hid (([] : List Im) = ids1 x) := by show _ = _; unfold ids1; rw [if_neg hk, List.append_nil, HOS.out]
        have hd := decide_eq_false hk
        rw [hd]
        clear hk hd
        go_wp2
        go_meet
        case rel => exact ⟨none, 0, 0, ([] : List Im), rfl, HE.out, HN.out, (by show _ ≤ _; have h := HL.out; omega), HO.out, HG.out⟩
    case rest =>
      obtain ⟨A1, N1, c1, os1, rfl, HOS1, HN1, HL1, HO1, HG1⟩ := hcut
      clear HOS HN HL HO HG
      obtain ⟨w1, hw1⟩ : ∃ w1, w1 = wc := ⟨_, rfl⟩
      subst hw1
      have HOS := HOS1
      have HN := HN1
      have HL := HL1
      have HO := HO1
      have HG := HG1
      clear HOS1 HN1 HL1 HO1 HG1
      go_upto_region 4 with (fail)
      go_cut [26] from 19 to 25 (fun v wx => v = .bool (decide (1 ≤ x.kind ∧ x.kind ≤ 4)) ∧ wx = w1)
      case first =>
        have c_kind := (op_cells (HX.out.on HG.out)).kind
        by_cases k1 : 1 ≤ x.kind
        · by_cases k2 : x.kind ≤ 4
          · have hd := decide_eq_true (show 1 ≤ x.kind ∧ x.kind ≤ 4 from ⟨k1, k2⟩)
            go_wp2
            go_meet
            case rel => exact ⟨by rw [hd], rfl⟩
          · have hd := decide_eq_false (show ¬ (1 ≤ x.kind ∧ x.kind ≤ 4) from fun h => k2 h.2)
            go_wp2
            go_meet
            case rel => exact ⟨by rw [hd], rfl⟩
        · have hd := decide_eq_false (show ¬ (1 ≤ x.kind ∧ x.kind ≤ 4) from fun h => k1 h.1)
          go_wp2
          go_meet
          case rel => exact ⟨by rw [hd], rfl⟩
      case rest =>
        obtain ⟨rfl, hwc⟩ := hcut
        have hwc2 := hwc.symm
        clear hwc
        subst hwc2
        go_upto_if 26 with (fail)
        go_cut [3] from 26 to 31 (fun v wx => ∃ (A : Option Addr) (n c : Nat) (os : List Im), v = .slice A n c ∧ Hid (os = ids2 x) ∧ Hid (n = os.length) ∧ Hid (os.length ≤ 2) ∧ Hid (OwnId wx wb.heap.size (.slice A n c) os) ∧ Hid (Below wb.heap.size wb wx))
        case first =>
          by_cases hk : 1 ≤ x.kind ∧ x.kind ≤ 4
          · have HE : Hid (os1 ++ [x.parent] = ids2 x) := by show _ = _; unfold ids2; rw [if_pos hk, HOS.out]
            have hd := decide_eq_true hk
            rw [hd]
            clear hk hd
            have c_parentp := (op_cells (HX.out.on HG.out)).parentp
            have c_parentn := (op_cells (HX.out.on HG.out)).parentn
            have hal : Below w1.heap.size w1 (w1.alloc (.cells #[.string x.parent.p, .int .i64 x.parent.n] 40)) := (Below.refl _ _).alloc (Nat.le_refl _) _
            have HA2 := Lib.hid (Rk.Own.kept HO.out hal)
            have HR2 := Lib.hid (id_row w1 x.parent)
            have HS2 := Lib.hid (Nat.le_trans HG.out.size hal.size)
            have HGa := Lib.hid (HG.out.trans (hal.mono HG.out.size))
            obtain ⟨M, hM⟩ : ∃ M, M = os1.length + [x.parent].length := ⟨_, rfl⟩
            have HM := Lib.hid hM
            have hle : os1.length + [x.parent].length ≤ 1000000 := by have h := HL.out; simp only [List.length_cons, List.length_nil]; omega
            clear hal hM
            go_wp2_with (at_builtin; refine idR.wpList_append rfl _ _ rfl wb.heap.size (.slice A1 N1 c1) os1 [x.parent] rfl HA2.out (some ⟨w1.heap.size, 0, none⟩) 1 1 rfl rfl (fun e => by cases e) HR2.out HS2.out hle M HM.out ?_)
            intro A2 c2 w2 ho hg
            have HO2 := Lib.hid ho
            have HG2 := Lib.hid (Rk.Own.app HGa.out HA2.out hg (Nat.le_refl _))
            go_wp2
            go_meet
            case rel => exact ⟨A2, M, c2, os1 ++ [x.parent], rfl, HE.out, (by show _ = _; rw [List.length_append, HM.out]), (by show _ ≤ _; have h := HL.out; simp only [List.length_append, List.length_cons, List.length_nil]; omega), HO2.out, HG2.out⟩
          · have HE : Hid (os1 = ids2 x) := by show _ = _; unfold ids2; rw [if_neg hk, List.append_nil, HOS.out]
            have hd := decide_eq_false hk
            rw [hd]
            clear hk hd
            go_wp2
            go_meet
            case rel => exact ⟨A1, N1, c1, os1, rfl, HE.out, HN.out, (by show _ ≤ _; have h := HL.out; omega), HO.out, HG.out⟩
        case rest =>
          obtain ⟨A2, N2, c2, os2, rfl, HOS2, HN2, HL2, HO2, HG2⟩ := hcut
          clear HOS HN HL HO HG
          obtain ⟨w2, hw2⟩ : ∃ w2, w2 = wc := ⟨_, rfl⟩
          subst hw2
          have HOS := HOS2
          have HN := HN2
          have HL := HL2
          have HO := HO2
          have HG := HG2
          clear HOS2 HN2 HL2 HO2 HG2
          have c_kind := (op_cells (HX.out.on HG.out)).kind
          go_upto_if 34 with (fail)
          go_cut [3] from 34 to 39 (fun v wx => ∃ (A : Option Addr) (n c : Nat) (os : List Im), v = .slice A n c ∧ Hid (os = ids3 x) ∧ Hid (n = os.length) ∧ Hid (os.length ≤ 3) ∧ Hid (OwnId wx wb.heap.size (.slice A n c) os) ∧ Hid (Below wb.heap.size wb wx))
          case first =>
            by_cases hk : x.kind = 4
            · have HE : Hid (os2 ++ [x.dst] = ids3 x) := by show _ = _; unfold ids3; rw [if_pos hk, HOS.out]
              have hd : (x.kind == 4) = true := by simpa using hk
              rw [hd]
              clear hk hd
              have c_dstp := (op_cells (HX.out.on HG.out)).dstp
              have c_dstn := (op_cells (HX.out.on HG.out)).dstn
              have hal : Below w2.heap.size w2 (w2.alloc (.cells #[.string x.dst.p, .int .i64 x.dst.n] 40)) := (Below.refl _ _).alloc (Nat.le_refl _) _
              have HA3 := Lib.hid (Rk.Own.kept HO.out hal)
              have HR3 := Lib.hid (id_row w2 x.dst)
              have HS3 := Lib.hid (Nat.le_trans HG.out.size hal.size)
              have HGa := Lib.hid (HG.out.trans (hal.mono HG.out.size))
              obtain ⟨M, hM⟩ : ∃ M, M = os2.length + [x.dst].length := ⟨_, rfl⟩
              have HM := Lib.hid hM
              have hle : os2.length + [x.dst].length ≤ 1000000 := by have h := HL.out; simp only [List.length_cons, List.length_nil]; omega
              clear hal hM
              go_wp2_with (at_builtin; refine idR.wpList_append rfl _ _ rfl wb.heap.size (.slice A2 N2 c2) os2 [x.dst] rfl HA3.out (some ⟨w2.heap.size, 0, none⟩) 1 1 rfl rfl (fun e => by cases e) HR3.out HS3.out hle M HM.out ?_)
              intro A3 c3 w3 ho hg
              have HO3 := Lib.hid ho
              have HG3 := Lib.hid (Rk.Own.app HGa.out HA3.out hg (Nat.le_refl _))
              go_wp2
              go_meet
              case rel => exact ⟨A3, M, c3, os2 ++ [x.dst], rfl, HE.out, (by show _ = _; rw [List.length_append, HM.out]), (by show _ ≤ _; have h := HL.out; simp only [List.length_append, List.length_cons, List.length_nil]; omega), HO3.out, HG3.out⟩
            · have HE : Hid (os2 = ids3 x) := by show _ = _; unfold ids3; rw [if_neg hk, List.append_nil, HOS.out]
              have hd : (x.kind == 4) = false := by simpa using hk
              rw [hd]
              clear hk hd
              go_wp2
              go_meet
              case rel => exact ⟨A2, N2, c2, os2, rfl, HE.out, HN.out, (by show _ ≤ _; have h := HL.out; omega), HO.out, HG.out⟩
          case rest =>
            obtain ⟨A3, N3, c3, os3, rfl, HOS3, HN3, HL3, HO3, HG3⟩ := hcut
            clear HOS HN HL HO HG
            obtain ⟨w3, hw3⟩ : ∃ w3, w3 = wc := ⟨_, rfl⟩
            subst hw3
            have HOS := HOS3
            have HN := HN3
            have HL := HL3
            have HO := HO3
            have HG := HG3
            clear HOS3 HN3 HL3 HO3 HG3
            clear c_kind
            have c_kind := (op_cells (HX.out.on HG.out)).kind
            go_upto_if 42 with (fail)
            go_cut [3] from 42 to 52 (fun v wx => ∃ (A : Option Addr) (n c : Nat) (os : List Im), v = .slice A n c ∧ Hid (os = ids4 x) ∧ Hid (n = os.length) ∧ Hid (os.length ≤ 3 + 2 + x.dels.length) ∧ Hid (OwnId wx wb.heap.size (.slice A n c) os) ∧ Hid (Below wb.heap.size wb wx))
            case first =>
              by_cases hk : x.kind = 5
              · have HE : Hid (os3 ++ [x.left, x.right] ++ x.dels = ids4 x) := by show _ = _; unfold ids4; rw [if_pos hk, HOS.out, List.append_assoc]
                have hd : (x.kind == 5) = true := by simpa using hk
                rw [hd]
                clear hk hd c_kind
                go_upto_region 9 with (fail)
                have HKS : Hid (∀ W, Below wb.heap.size wb W → W.cell? ⟨w.heap.size, 9, none⟩ = some (.string x.left.p) ∧ W.cell? ⟨w.heap.size, 10, none⟩ = some (.int .i64 x.left.n) ∧ W.cell? ⟨w.heap.size, 11, none⟩ = some (.string x.right.p) ∧ W.cell? ⟨w.heap.size, 12, none⟩ = some (.int .i64 x.right.n) ∧ W.cell? ⟨w.heap.size, 13, none⟩ = some (.slice x.a1 x.dels.length x.c1)) := fun W hW => by
                  have h := op_cells (HX.out.on hW)
                  exact ⟨h.leftp, h.leftn, h.rightp, h.rightn, h.dels⟩
                have HDR : Hid (Below wb.heap.size wb w3.drew) := HG.out.drew
                have HD0 : Hid (Below w3.heap.size w3 w3.drew) := (Below.refl _ _).drew
                refine wp_region_noPanic ?_
                refine wp_region_held_drew (S := fun w' => w'.cell? ⟨w.heap.size, 9, none⟩ = some (.string x.left.p) ∧ w'.cell? ⟨w.heap.size, 10, none⟩ = some (.int .i64 x.left.n) ∧ w'.cell? ⟨w.heap.size, 11, none⟩ = some (.string x.right.p) ∧ w'.cell? ⟨w.heap.size, 12, none⟩ = some (.int .i64 x.right.n) ∧ w'.cell? ⟨w.heap.size, 13, none⟩ = some (.slice x.a1 x.dels.length x.c1)) (by kernel_rfl) (HKS.out _ HDR.out) (fun hHeld => ?_)
                refine wpAnyH_take (i := 0) (oi := { dst := some 43, op := _, type := _, pos := _, after := _, guard := _ }) (v := .slice A3 N3 c3) rfl (by kernel_rfl) (by kernel_rfl) (by kernel_rfl) (fun _ _ _ h => h) (Or.inl ⟨by rfl, fun w' hSw => ?_⟩) (by assumption) ?_
                · ((try dsimp only at hSw); go_simp)
                try simp only [Act.put, List.setIfInBounds_toArray, List.set_cons_zero, List.set_cons_succ]
                refine wpAnyH_take (i := 1) (oi := { dst := some 44, op := _, type := _, pos := _, after := _, guard := _ }) (v := .pointer (some ⟨w.heap.size, 9, none⟩)) rfl (by kernel_rfl) (by kernel_rfl) (by kernel_rfl) (fun _ _ _ h => h) (Or.inl ⟨by rfl, fun w' hSw => ?_⟩) (by assumption) ?_
                · ((try dsimp only at hSw); go_simp)
                try simp only [Act.put, List.setIfInBounds_toArray, List.set_cons_zero, List.set_cons_succ]
                refine wpAnyH_take (i := 2) (oi := { dst := some 45, op := _, type := _, pos := _, after := _, guard := _ }) (v := .agg #[.string x.left.p, .int .i64 x.left.n]) rfl (by kernel_rfl) (by kernel_rfl) (by kernel_rfl) (fun _ _ _ h => h) (Or.inl ⟨by rfl, fun w' hSw => ?_⟩) (by assumption) ?_
                · ((try dsimp only at hSw); go_simp)
                try simp only [Act.put, List.setIfInBounds_toArray, List.set_cons_zero, List.set_cons_succ]
                refine wpAnyH_take (i := 3) (oi := { dst := some 46, op := _, type := _, pos := _, after := _, guard := _ }) (v := .pointer (some ⟨w.heap.size, 11, none⟩)) rfl (by kernel_rfl) (by kernel_rfl) (by kernel_rfl) (fun _ _ _ h => h) (Or.inl ⟨by rfl, fun w' hSw => ?_⟩) (by assumption) ?_
                · ((try dsimp only at hSw); go_simp)
                try simp only [Act.put, List.setIfInBounds_toArray, List.set_cons_zero, List.set_cons_succ]
                refine wpAnyH_take (i := 4) (oi := { dst := some 47, op := _, type := _, pos := _, after := _, guard := _ }) (v := .agg #[.string x.right.p, .int .i64 x.right.n]) rfl (by kernel_rfl) (by kernel_rfl) (by kernel_rfl) (fun _ _ _ h => h) (Or.inl ⟨by rfl, fun w' hSw => ?_⟩) (by assumption) ?_
                · ((try dsimp only at hSw); go_simp)
                try simp only [Act.put, List.setIfInBounds_toArray, List.set_cons_zero, List.set_cons_succ]
                refine wpAnyH_take (i := 7) (oi := { dst := some 50, op := _, type := _, pos := _, after := _, guard := _ }) (v := .pointer (some ⟨w.heap.size, 13, none⟩)) rfl (by kernel_rfl) (by kernel_rfl) (by kernel_rfl) (fun _ _ _ h => h) (Or.inl ⟨by rfl, fun w' hSw => ?_⟩) (by assumption) ?_
                · ((try dsimp only at hSw); go_simp)
                try simp only [Act.put, List.setIfInBounds_toArray, List.set_cons_zero, List.set_cons_succ]
                refine wpAnyH_take (i := 8) (oi := { dst := some 51, op := _, type := _, pos := _, after := _, guard := _ }) (v := .slice x.a1 x.dels.length x.c1) rfl (by kernel_rfl) (by kernel_rfl) (by kernel_rfl) (fun _ _ _ h => h) (Or.inl ⟨by rfl, fun w' hSw => ?_⟩) (by assumption) ?_
                · ((try dsimp only at hSw); go_simp)
                try simp only [Act.put, List.setIfInBounds_toArray, List.set_cons_zero, List.set_cons_succ]
                have HOD := Lib.hid (Rk.Own.kept HO.out HD0.out)
                generalize hwD : w3.drew = wD at *
                clear hwD HD0
                refine wpAnyH_ready (rs := [5]) (by kernel_rfl) (by simp) ?_
                refine AllReadyH.cons rfl (fun K hK => ?_) AllReadyH.nil
                have hal : Below wD.heap.size wD (wD.alloc (.cells #[.string x.left.p, .int .i64 x.left.n, .string x.right.p, .int .i64 x.right.n] 40)) := (Below.refl _ _).alloc (Nat.le_refl _) _
                have HOA := Lib.hid (Rk.Own.kept HOD.out hal)
                have hrow : OwnId (wD.alloc (.cells #[.string x.left.p, .int .i64 x.left.n, .string x.right.p, .int .i64 x.right.n] 40)) wD.heap.size (.slice (some ⟨wD.heap.size, 0, none⟩) 2 2) [x.left, x.right] := World.ownsRow_lit (base := wD.heap.size) (e := 40) (size := 2) wD #[.string x.left.p, .int .i64 x.left.n, .string x.right.p, .int .i64 x.right.n] 2 (Nat.le_refl _) (by decide) rfl
                have HR5 := Lib.hid hrow.parts.2.1
                have HGA := Lib.hid (HDR.out.trans (hal.mono HDR.out.size))
                clear hal hrow HOD
                go_simp
                refine hK.out _ _ (HKS.out _ HGA.out) (fun hHeld5 => ?_)
                clear hK K hHeld
                try simp only [Act.put, List.setIfInBounds_toArray, List.set_cons_zero, List.set_cons_succ]
                generalize hwA : (wD.alloc (.cells #[.string x.left.p, .int .i64 x.left.n, .string x.right.p, .int .i64 x.right.n] 40)) = wA at *
                clear hwA
                obtain ⟨M, hM⟩ : ∃ M, M = os3.length + [x.left, x.right].length := ⟨_, rfl⟩
                have HM := Lib.hid hM
                have hle : os3.length + [x.left, x.right].length ≤ 1000000 := by have h := HL.out; simp only [List.length_cons, List.length_nil]; omega
                clear hM
                refine wpAnyH_ready (rs := [6]) (by kernel_rfl) (by simp) ?_
                refine AllReadyH.cons rfl (fun K hK => ?_) AllReadyH.nil
                refine step_append_ids 49 (by rfl) (by rfl) _ _ (by rfl) wb.heap.size (.slice A3 N3 c3) os3 [x.left, x.right] (by rfl) HOA.out (some ⟨wD.heap.size, 0, none⟩) 2 2 (by rfl) rfl (fun e => by cases e) HR5.out HGA.out.size hle M HM.out ?_
                intro A5 c5 wE ho hg
                have HO5 := Lib.hid ho
                have HGE := Lib.hid (Rk.Own.app HGA.out HOA.out hg (Nat.le_refl _))
                clear ho hg hle HR5
                refine hK.out _ _ (HKS.out _ HGE.out) (fun hHeld6 => ?_)
                clear hK K hHeld5
                try simp only [Act.put, List.setIfInBounds_toArray, List.set_cons_zero, List.set_cons_succ]
                obtain ⟨M2, hM2⟩ : ∃ M2, M2 = (os3 ++ [x.left, x.right]).length + x.dels.length := ⟨_, rfl⟩
                have HM2 := Lib.hid hM2
                have hle : (os3 ++ [x.left, x.right]).length + x.dels.length ≤ 1000000 := by have h := HL.out; simp only [List.length_append, List.length_cons, List.length_nil]; omega
                have OXE := Lib.hid (OX.out.on HGE.out)
                clear hM2
                refine wpAnyH_ready (rs := [9]) (by kernel_rfl) (by simp) ?_
                refine AllReadyH.cons rfl (fun K hK => ?_) AllReadyH.nil
                refine step_append_ids 52 (by rfl) (by rfl) _ _ (by rfl) wb.heap.size (.slice A5 M c5) (os3 ++ [x.left, x.right]) x.dels (by rfl) HO5.out x.a1 x.c1 x.dels.length (by rfl) rfl OXE.out.room1.1 OXE.out.dels HGE.out.size hle M2 HM2.out ?_
                intro A6 c6 wF ho hg
                have HO6 := Lib.hid ho
                have HGF := Lib.hid (Rk.Own.app HGE.out HO5.out hg (Nat.le_refl _))
                clear ho hg hle
                refine hK.out _ _ (HKS.out _ HGF.out) (fun hHeld9 => ?_)
                clear hK K hHeld6
                try simp only [Act.put, List.setIfInBounds_toArray, List.set_cons_zero, List.set_cons_succ]
                refine wpAnyH_take (i := 10) (oi := { dst := some 3, op := _, type := _, pos := _, after := _, guard := _ }) (v := .slice A6 M2 c6) rfl (by kernel_rfl) (by kernel_rfl) (by kernel_rfl) (fun _ _ _ h => h) (Or.inl ⟨by rfl, fun w' hSw => ?_⟩) (by assumption) ?_
                · ((try dsimp only at hSw); go_simp)
                try simp only [Act.put, List.setIfInBounds_toArray, List.set_cons_zero, List.set_cons_succ]
                refine wpAnyH_done (by kernel_rfl) ?_ _
                refine NoPanic.normal ?_
                go_wp2_with fail
                go_meet
                case rel => exact ⟨A6, M2, c6, os3 ++ [x.left, x.right] ++ x.dels, rfl, HE.out, (by show _ = _; rw [HM2.out]; simp only [List.length_append]), (by show _ ≤ _; have h := HL.out; simp only [List.length_append, List.length_cons, List.length_nil]; omega), HO6.out, HGF.out⟩
              · have HE : Hid (os3 = ids4 x) := by show _ = _; unfold ids4; rw [if_neg hk, List.append_nil, HOS.out]
                have hd : (x.kind == 5) = false := by simpa using hk
                rw [hd]
                clear hk hd
                go_wp2
                go_meet
                case rel => exact ⟨A3, N3, c3, os3, rfl, HE.out, HN.out, (by show _ ≤ _; have h := HL.out; omega), HO.out, HG.out⟩
            case rest =>
              obtain ⟨A4, N4, c4, os, rfl, HOS4, HN4, HL4, HO4, HG4⟩ := hcut
              clear HOS HN HL HO HG c_kind
              obtain ⟨w4, hw4⟩ : ∃ w4, w4 = wc := ⟨_, rfl⟩
              subst hw4
              have HW : Hid (Below w.heap.size w w4) := HF.out.trans (HG4.out.mono HF.out.size)
              have HS : Hid (Ids w4 w4.heap.size A4 os) := HO4.out.parts.2.1
              have HK : Hid (ikeys os = namedO x.key) := by show _ = _; rw [HOS4.out, ids4_keys]
              have hol : os.length ≤ 90005 := by have h := HL4.out; omega
              have HG : Hid (Below w4.heap.size w4 w4) := Below.refl _ _
              have HNIL : Hid (OwnId w4 w4.heap.size (.slice none 0 0) []) := Rk.Own.nil _ _
              obtain ⟨n, hn4⟩ : ∃ n, N4 = n := ⟨_, rfl⟩
              have HN : Hid (n = os.length) := by show _ = _; rw [← hn4, HN4.out]
              have hnle : n ≤ 90005 := by have h := HN.out; omega
              rw [hn4]
              clear HOS4 HN4 HL4 HO4 HG4 HX OX HF hn hn4
              -- @P5
              go_wp2
              go_loopw [4, 5] (fun v iv wr => ∃ (k : Nat) (A3 : Option Addr) (n3 c3 : Nat) (ot : List Im), v = .slice A3 n3 c3 ∧ iv = .int .i64 (k : Int) ∧ k ≤ n ∧ ot.length ≤ k ∧ Hid (n3 = ot.length) ∧ Hid (ot = ofP (os.take k)) ∧ Hid (OwnId wr w4.heap.size (.slice A3 n3 c3) ot) ∧ Hid (Below w4.heap.size w4 wr)) (fun _ iv _ => n - (intOf iv).toNat)
              case atStart => exact ⟨0, none, 0, 0, [], rfl, rfl, Nat.zero_le _, Nat.le_refl _, rfl, rfl, HNIL.out, HG.out⟩
              case round =>
                clear HNIL HG
                obtain ⟨k, A3, n3, c3, ot, rfl, rfl, hk, hol3, HN3, HT, HO, HG⟩ := hrel
                by_cases hlt : k < n
                · have hkl : k < os.length := by have h := HN.out; omega
                  obtain ⟨g, off, rfl, hg, c0, c1⟩ := ids_get (HS.out.on HG.out) hkl
                  obtain ⟨y, hy⟩ : ∃ y, os[k] = y := ⟨_, rfl⟩
                  rw [hy] at c0 c1
                  have u0 : (0 : Int) ≤ (k : Int) := by omega
                  have u1 : (k : Int) < (n : Int) := by omega
                  by_cases he : y.p = ⟨#[]⟩
                  · have HT2 : Hid (ot = ofP (os.take (k + 1))) := by show _ = _; rw [ofP_no he os k hkl hy, ← HT.out]
                    rw [he] at c0
                    clear he hy hkl hg HT c1
                    go_wp2
                    go_roundw
                    case rel => exact ⟨k + 1, A3, n3, c3, ot, rfl, by go_num, by omega, by omega, HN3.out, HT2.out, HO.out, HG.out⟩
                    case measure => simp [intOf]; omega
                  · have HT2 : Hid (ot ++ [y] = ofP (os.take (k + 1))) := by show _ = _; rw [ofP_yes he os k hkl hy, ← HT.out]
                    have q1 := str_ne_empty he
                    clear he hy hkl hg HT
                    have hal : Below wr.heap.size wr (wr.alloc (.cells #[.string y.p, .int .i64 y.n] 40)) := (Below.refl _ _).alloc (Nat.le_refl _) _
                    have HA := Lib.hid (Rk.Own.kept HO.out hal)
                    have HR := Lib.hid (id_row wr y)
                    have HS1 := Lib.hid (Nat.le_trans HG.out.size hal.size)
                    have HGa := Lib.hid (HG.out.trans (hal.mono HG.out.size))
                    obtain ⟨M, hM⟩ : ∃ M, M = ot.length + [y].length := ⟨_, rfl⟩
                    have HM := Lib.hid hM
                    have hle : ot.length + [y].length ≤ 1000000 := by have h := HN.out; simp only [List.length_cons, List.length_nil]; omega
                    clear hal hM HO HG
                    go_wp2_with (at_builtin; refine idR.wpList_append rfl _ _ rfl w4.heap.size (.slice A3 n3 c3) ot [y] rfl HA.out (some ⟨wr.heap.size, 0, none⟩) 1 1 rfl rfl (fun e => by cases e) HR.out HS1.out hle M HM.out ?_)
                    intro A6 c6 w6 ho hg
                    have HO6 := Lib.hid ho
                    have HG6 := Lib.hid (Rk.Own.app HGa.out HA.out hg (Nat.le_refl _))
                    clear ho hg HA HR HS1 HGa c0 c1 q1
                    go_wp2
                    go_roundw
                    case rel => exact ⟨k + 1, A6, M, c6, ot ++ [y], rfl, by go_num, by omega, (by simp only [List.length_append, List.length_cons, List.length_nil]; omega), (by show _ = _; rw [List.length_append, HM.out]), HT2.out, HO6.out, HG6.out⟩
                    case measure => simp [intOf]; omega
                · have hke : k = n := by omega
                  have HT2 : Hid (ot = ofP os) := by show _ = _; rw [HT.out, hke, List.take_of_length_le (by have h := HN.out; omega)]
                  have HKO : Hid (setI (ikeys ot) = idsO x.key) := by show _ = _; unfold idsO; rw [HT2.out, ofP_keys, HK.out]
                  have CS := Lib.hid (refiset_any A3 ot c3 wr HO.out.parts.2.1 (by omega))
                  rw [← HN3.out, HKO.out] at CS
                  have HW2 := Lib.hid (HW.out.trans (HG.out.mono HW.out.size))
                  clear HT HT2 HKO HO HG
                  go_wp2_with fail
                  refine CS.out.mono ?_
                  rintro e w9 ⟨A9, n9, c9, l9, rfl, hk9, ho9, hb9⟩
                  have HF9 : Hid (IdsLeft w (idsO x.key) (.returned (.slice A9 n9 c9)) w9) := ⟨A9, n9, c9, l9, rfl, hk9, ho9.lower HW2.out.size, HW2.out.trans (hb9.mono HW2.out.size)⟩
                  clear hk9 ho9 hb9 HW2 CS
                  go_wp2
                  go_ret
                  exact HF9.out
end Go.Proofs.YtoajckhfnadhjaaGreatDoor
namespace Go.Proofs.YtoajckhfnadhjaaGreatDoor
open Go.RowKit
set_option linter.unusedVariables false

theorem OwnS.room {w : World} {B n cap : Nat} {A : Option Addr} {ls : List (List UInt8)} (h : OwnS w B (.slice A n cap) ls) : n = ls.length ∧ n ≤ cap ∧ cap ≤ maxLen ∧ (A = none → cap = 0) ∧ (∀ a, A = some a → a.off = 0 ∧ a.spot = none) := by
  rcases h.2 with ⟨e, h0⟩ | ⟨g, cap', cur, e, hb, hg, hn, hm, hsz, ht⟩
  · cases e
    exact ⟨h0.symm, Nat.le_refl _, by simp, (fun _ => rfl), (fun a e => by cases e)⟩
  · cases e
    exact ⟨rfl, hn, hm, (fun e => by cases e), (fun a e => by cases e; exact ⟨rfl, rfl⟩)⟩
end Go.Proofs.YtoajckhfnadhjaaGreatDoor
namespace Go.Proofs.YtoajckhfnadhjaaGreatDoor
open Go.RowKit
set_option linter.unusedVariables false

theorem refisamek_any (A A2 : Option Addr) (l m : List Im) (c c2 : Nat) (w : World) (hs : Ids w w.heap.size A l) (ht : Ids w w.heap.size A2 m) (hn : l.length ≤ 900000) (hn2 : m.length ≤ 900000) (r : Bool) (hr : decide (ikeys l = ikeys m) = r) :
    Calls Tryz.prog 17 #[.slice A l.length c, .slice A2 m.length c2] w fun e w' => e = .returned (.bool r) ∧ Below w.heap.size w w' := by
  have h := refisame_any A A2 l m c c2 w hs ht (by omega) (by omega)
  rw [show decide (l = m) = r by rw [← hr]; exact decide_eq_decide.2 ⟨fun e => by rw [e], fun e => ikeys_inj e⟩] at h
  exact h
end Go.Proofs.YtoajckhfnadhjaaGreatDoor
namespace Go.Proofs.YtoajckhfnadhjaaGreatDoor
open Go.RowKit
set_option linter.unusedVariables false

def zeroT : Ptm := ⟨⟨#[]⟩, none, 0, [], none, 0, []⟩
/-- What Get tells of bytes. -/
def GotP (s : ByteArray) (z : Ptm) (er : Int) : Prop := (er = 0 → checkP z.key = 0 ∧ toB (putP z.key) = s) ∧ (er ≠ 0 → z = zeroT ∧ ∀ k : PatK, k.deps.length ≤ 9223372036854775807 → checkP k = 0 → toB (putP k) ≠ s)
/-- What Get leaves. -/
def GetPL (s : ByteArray) (w : World) (e : Ending) (w' : World) : Prop := ∃ (z : Ptm) (er : Int), e = .returned (.tuple #[z.val, .int .i64 er]) ∧ Hid (GotP s z er) ∧ z.Ok w' w'.heap.size ∧ Below w.heap.size w w'
/-- What Put leaves. -/
def PutPL (x : Ptm) (w : World) (e : Ending) (w' : World) : Prop := ∃ (s : ByteArray) (er : Int), e = .returned (.tuple #[.string s, .int .i64 er]) ∧ Hid ((checkP x.key = 0 → s = toB (putP x.key) ∧ er = 0) ∧ (checkP x.key ≠ 0 → s = ⟨#[]⟩ ∧ er = checkP x.key)) ∧ Below w.heap.size w w'
/-- What all that a patch names of others is. -/
def namedP (p : PatK) : List Ik := setI ((p.ops.flatMap idsO).filter fun i => decide (i.1 ≠ p.name))
/-- Package patch, of light patches. -/
structure PatC : Prop where
  check : ∀ (x : Ptm) (w : World), x.Ok w w.heap.size → x.Lt → x.In → Tabs w → Nums w → Calls Tryz.prog 10 #[x.val] w fun e w' => e = .returned (.int .i64 (checkP x.key)) ∧ Below w.heap.size w w'
  put : ∀ (x : Ptm) (w : World), x.Ok w w.heap.size → x.Lt → x.In → Tabs w → Nums w → Calls Tryz.prog 8 #[x.val] w (PutPL x w)
  get : ∀ (s : ByteArray) (w : World), s.size ≤ 500000 → Tabs w → Nums w → Calls Tryz.prog 14 #[.string s] w (GetPL s w)
  same : ∀ (x y : Ptm) (w : World), x.Ok w w.heap.size → y.Ok w w.heap.size → x.Lt → y.Lt → x.In → y.In → Calls Tryz.prog 11 #[x.val, y.val] w fun e w' => e = .returned (.bool (decide (x.key = y.key))) ∧ Below w.heap.size w w'
  copy : ∀ (x : Ptm) (w : World), x.Ok w w.heap.size → x.Lt → x.In → Calls Tryz.prog 13 #[x.val] w fun e w' => ∃ z : Ptm, e = .returned z.val ∧ Hid (z.key = x.key) ∧ z.Ok w' w'.heap.size ∧ Hid (OpsFew z.ops) ∧ Below w.heap.size w w'
  made : ∀ (x : Ptm) (w : World), x.Ok w w.heap.size → x.Lt → x.In → (∀ o ∈ x.ops, o.first ≤ 1099511627776) → Calls Tryz.prog 18 #[x.val] w (IdsLeft w (madeP x.name.data.toList (okeys x.ops)))
  named : ∀ (x : Ptm) (w : World), x.Ok w w.heap.size → x.Lt → x.In → Calls Tryz.prog 20 #[x.val] w (IdsLeft w (namedP x.key))
/-- awake of layer 13. -/
def AwP : Prop := ∀ w : World, Tabs w → Nums w → Calls Tryz.prog 7 #[] w fun e w' => e = .returned (.bool true) ∧ Below w.heap.size w w'
end Go.Proofs.YtoajckhfnadhjaaGreatDoor
