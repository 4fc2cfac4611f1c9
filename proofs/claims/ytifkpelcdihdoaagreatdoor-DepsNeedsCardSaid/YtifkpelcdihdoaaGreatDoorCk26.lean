/- Package patch: done. -/
import Derived.Test.YtifkpelcdihdoaaGreatDoorProg
import Derived.WalkKit
import Derived.WalkSpells
import Derived.Handy
import Derived.Lib.Hide
import Derived.Shelf.Strings.BuilderK
import Derived.BigQuiet
import Derived.Deep.QuietTactic
import Derived.Lib.AtoiAllCases
import Derived.Lib.ItoaMem
import Derived.Test.YtifkpelcdihdoaaGreatDoorShelf
import Derived.Deep.RegionHeld3
import Derived.Deep.CutRange
import Derived.Lib.AppendIntMem
import Derived.BigRegion
import Derived.Deep.RegionWith
import Derived.Lib.QuietBelow
import Derived.Test.YtifkpelcdihdoaaGreatDoorCk25
namespace Go.Proofs.YtifkpelcdihdoaaGreatDoor
open Go.RowKit
set_option linter.unusedVariables false

theorem steps_cons (name : List UInt8) (deps : List (List UInt8)) (m : List Ik) (o : OpK) (r : List OpK) : stepsO name deps m (o :: r) = (stepO name deps m o && stepsO name deps (m ++ comesO name o) r) := rfl
theorem steps_app (name : List UInt8) (deps : List (List UInt8)) : ∀ (a : List OpK) (m : List Ik) (b : List OpK), stepsO name deps m (a ++ b) = (stepsO name deps m a && stepsO name deps (m ++ madeP name a) b)
  | [], m, b => by simp [stepsO, madeP]
  | o :: a, m, b => by
    have ih := steps_app name deps a (m ++ comesO name o) b
    rw [List.cons_append, steps_cons, steps_cons, ih, show m ++ comesO name o ++ madeP name a = m ++ madeP name (o :: a) by simp [madeP], Bool.and_assoc]
theorem steps_take (name : List UInt8) (deps : List (List UInt8)) (l : List Om) (k : Nat) (hk : k < l.length) : stepsO name deps [] (okeys (l.take (k + 1))) = (stepsO name deps [] (okeys (l.take k)) && stepO name deps (madeP name (okeys (l.take k))) l[k].key) := by
  rw [List.take_succ_eq_append_getElem hk, show okeys (l.take k ++ [l[k]]) = okeys (l.take k) ++ [l[k].key] by unfold okeys; rw [List.map_append]; rfl, steps_app, List.nil_append, steps_cons]
  rw [show stepsO name deps (madeP name (okeys (l.take k)) ++ comesO name l[k].key) [] = true from rfl, Bool.and_true]
theorem steps_part {name : List UInt8} {deps : List (List UInt8)} {l : List Om} (k : Nat) (h : stepsO name deps [] (okeys (l.take k)) = false) : stepsO name deps [] (okeys l) = false := by
  have e : okeys l = okeys (l.take k) ++ okeys (l.drop k) := by unfold okeys; rw [← List.map_append, List.take_append_drop]
  rw [e, steps_app, h]
  rfl
theorem steps_len (name : List UInt8) (deps : List (List UInt8)) : ∀ (l : List OpK) (m : List Ik), stepsO name deps m l = true → (madeP name l).length ≤ 2001 * l.length
  | [], m, _ => by simp [madeP]
  | o :: l, m, h => by
    rw [steps_cons, Bool.and_eq_true] at h
    have h1 := steps_len name deps l _ h.2
    have h2 : mayO o = true := by
      have h3 := h.1
      unfold stepO at h3
      simp only [Bool.and_eq_true] at h3
      exact h3.1.1
    have h3 := (comes_ids (name := name) h2).1
    have e : madeP name (o :: l) = comesO name o ++ madeP name l := by simp [madeP]
    rw [e, List.length_append, List.length_cons]
    omega
/-- What Check asks of a patch's parts. -/
structure Ptm.Ck (x : Ptm) : Prop where
  name : x.name.size ≤ 9223372036854775807
  few : x.deps.length ≤ 1000000
  deps : ∀ d ∈ x.deps, d.length ≤ 9223372036854775807
  many : x.ops.length ≤ 9223372036854775807
  ops : ∀ o ∈ x.ops, o.Sz
set_option maxHeartbeats 8000000 in
set_option maxRecDepth 100000 in
theorem pdone_any (x : Ptm) (w : World) (ox : x.Ok w w.heap.size) (sx : x.Ck) (hT : Tabs w) (hri : Rising x.deps) (r : Bool) (hr : doneP x.key = r) :
    Calls Tryz.prog 67 #[.agg #[.string x.name, .slice x.a1 x.deps.length x.c1, .slice x.a2 x.ops.length x.c2]] w fun e w' => e = .returned (.bool r) ∧ Below w.heap.size w w' := by
  obtain ⟨hb, hx⟩ := pat_box w x
  have HP := Lib.hid hx
  have HB := Lib.hid hb
  have OX := Lib.hid (ox.on hb)
  have HT := Lib.hid (Tabs.on hT hb)
  have SX := Lib.hid sx
  have HRI := Lib.hid hri
  have HR : Hid ((decide (x.ops.length ≤ 2000) && stepsO x.name.data.toList x.deps [] (okeys x.ops)) = r) := by
    show _ = _
    rw [← hr]
    unfold doneP
    rw [show x.key.ops.length = x.ops.length from okeys_len _]
    rfl
  have jm := sx.many
  clear hb hx ox hT sx hri hr
  go_enter Tryz.func67, Tryz.ntmps67
  go_upto_region 1 with (fail)
  generalize (w.alloc (.cells #[.string x.name, .slice x.a1 x.deps.length x.c1, .slice x.a2 x.ops.length x.c2] 35)) = wb at *
  generalize (Value.agg #[.string x.name, .slice x.a1 x.deps.length x.c1, .slice x.a2 x.ops.length x.c2]) = vx
  have p0 := HP.out.c0
  have p1 := HP.out.c1
  have p2 := HP.out.c2
  by_cases h2 : x.ops.length ≤ 2000
  · have q2 : ¬ (x.ops.length : Int) > 2000 := by omega
    have HR2 : Hid (stepsO x.name.data.toList x.deps [] (okeys x.ops) = r) := by
      show _ = _
      rw [← HR.out, decide_eq_true h2, Bool.true_and]
    have CL := Lib.hid (plooker_any x wb)
    clear HR
    go_upto_region 4 with (go_at_call 84; refine CL.out.mono ?_; rintro e wl ⟨gm, gq, gk, g3, g2, k3, k2, bm, rfl, hl, hbl, hbm⟩)
    replace HP := Lib.hid (HP.out.on hbl)
    have HL0 : Hid (LookAt wl gm gq gk g3 g2 k3 k2 bm x (madeP x.name.data.toList (okeys (x.ops.take 0)))) := hl
    have HBL := Lib.hid hbl
    have HBM := Lib.hid hbm
    have HLL := Lib.hid hl
    have HM0 : Hid (stepsO x.name.data.toList x.deps [] (okeys (x.ops.take 0)) = true) := rfl
    have HG0 : Hid (wl.grownBy wl (some bm)) := grownBy_refl _ _
    clear hl hbl hbm CL p0 p1 p2 q2
    have p2 := HP.out.c2
    go_wp2_with fail
    go_loopw [15] (fun iv wr => ∃ k : Nat, iv = .int .i64 (k : Int) ∧ k ≤ x.ops.length ∧ Hid (stepsO x.name.data.toList x.deps [] (okeys (x.ops.take k)) = true) ∧ Hid (LookAt wr gm gq gk g3 g2 k3 k2 bm x (madeP x.name.data.toList (okeys (x.ops.take k)))) ∧ Hid (wl.grownBy wr (some bm))) (fun iv _ => x.ops.length - (intOf iv).toNat)
    case atStart => exact ⟨0, rfl, Nat.zero_le _, HM0.out, HL0.out, HG0.out⟩
    case round =>
      clear HM0 HL0 HG0 p2
      obtain ⟨k, rfl, hk, HM, HL, HG⟩ := hrel
      by_cases hlt : k < x.ops.length
      · have hBR := below_look HBL.out HG.out HBM.out
        have hS := OX.out.ops.on hBR
        obtain ⟨b, off, hA, hbB, hcx⟩ := hS.1.get hlt
        have HOK := Lib.hid (OX.out.ops.2 x.ops[k] (List.getElem_mem _))
        have HSZ := Lib.hid (SX.out.ops x.ops[k] (List.getElem_mem _))
        have hstep := steps_take x.name.data.toList x.deps x.ops k hlt
        rw [HM.out, Bool.true_and] at hstep
        have HSTEP := Lib.hid hstep
        have HMK := Lib.hid (made_take x.name.data.toList x.ops k hlt)
        have HPT : Hid (stepsO x.name.data.toList x.deps [] (okeys (x.ops.take (k + 1))) = false → stepsO x.name.data.toList x.deps [] (okeys x.ops) = false) := steps_part (k + 1)
        have hml := steps_len x.name.data.toList x.deps _ _ HM.out
        rw [okeys_len, List.length_take] at hml
        have HML : Hid ((madeP x.name.data.toList (okeys (x.ops.take k))).length ≤ 100000000000) := by show _ ≤ _; omega
        obtain ⟨o, ho⟩ : ∃ o, x.ops[k] = o := ⟨_, rfl⟩
        rw [ho] at HOK HSZ HSTEP HMK hcx
        have RX := Lib.hid (op_rng hcx)
        obtain ⟨hbx, hX⟩ := op_box wr o
        have HX := Lib.hid hX
        have HL1 := Lib.hid (HL.out.on hbx)
        have HG1 := Lib.hid (Rk.grown_below HG.out hbx)
        have u0 : (0 : Int) ≤ (k : Int) := by omega
        have u1 : (k : Int) < (x.ops.length : Int) := by omega
        rw [hA]
        clear hBR hS hcx hbx hX ho hbB hml hstep HM HL HG
        go_upto_region 7 with (refine wpList_load_mid rfl 84 _ rfl b (off + k * 16) rfl [.int .i64 o.kind, .string o.self.p, .int .i64 o.self.n, .string o.parent.p, .int .i64 o.parent.n, .string o.dst.p, .int .i64 o.dst.n, .string o.name, .string o.dname, .string o.left.p, .int .i64 o.left.n, .string o.right.p, .int .i64 o.right.n, .slice o.a1 o.dels.length o.c1, .int .i64 o.first, .slice o.a2 o.lines.length o.c2] _ RX.out Tryz.underlying84 rfl (by kernel_rfl) ?_)
        generalize (wr.alloc (.cells #[.int .i64 o.kind, .string o.self.p, .int .i64 o.self.n, .string o.parent.p, .int .i64 o.parent.n, .string o.dst.p, .int .i64 o.dst.n, .string o.name, .string o.dname, .string o.left.p, .int .i64 o.left.n, .string o.right.p, .int .i64 o.right.n, .slice o.a1 o.dels.length o.c1, .int .i64 o.first, .slice o.a2 o.lines.length o.c2] 84)) = wa at *
        generalize hgx : wr.heap.size = gx at *
        clear RX hgx
        generalize (Value.agg #[.int .i64 o.kind, .string o.self.p, .int .i64 o.self.n, .string o.parent.p, .int .i64 o.parent.n, .string o.dst.p, .int .i64 o.dst.n, .string o.name, .string o.dname, .string o.left.p, .int .i64 o.left.n, .string o.right.p, .int .i64 o.right.n, .slice o.a1 o.dels.length o.c1, .int .i64 o.first, .slice o.a2 o.lines.length o.c2]) = vo
        obtain ⟨q, hq⟩ : ∃ q, stepO x.name.data.toList x.deps (madeP x.name.data.toList (okeys (x.ops.take k))) o.key = q := ⟨_, rfl⟩
        have HQ := Lib.hid hq
        rw [hq] at HSTEP
        clear hq
        have CS := Lib.hid (plook1_any wb gm gq gk g3 g2 k3 k2 bm x _ o wa HL1.out (below_look HBL.out HG1.out HBM.out) HBM.out HOK.out HSZ.out OX.out.deps HRI.out SX.out.few SX.out.name HT.out HML.out q HQ.out)
        -- @P1
        go_wp2_with ((with_reducible refine wpList_load_opw (.tmp 5) gx o HX.out ?_ ?_ ?_ ?_); rfl; rfl; rfl; simp only [Act.put, List.setIfInBounds_toArray, List.set_cons_zero, List.set_cons_succ, Om.val, Om.cells])
        refine CS.out.mono ?_
        rintro e w2 ⟨rfl, hl2, hg2⟩
        have HG2 := Lib.hid (Rk.grown_both HG1.out hg2)
        have HL2 : Hid (q = true → LookAt w2 gm gq gk g3 g2 k3 k2 bm x (madeP x.name.data.toList (okeys (x.ops.take (k + 1))))) := by
          intro h
          rw [HMK.out]
          exact hl2 h
        clear hl2 hg2 CS HX HL1 HG1 HMK
        cases q
        · have HF : Hid (r = false) := by
            show _ = _
            rw [← HR2.out]
            exact HPT.out HSTEP.out
          have HFB := Lib.hid (HB.out.trans ((below_look HBL.out HG2.out HBM.out).mono HB.out.size))
          clear HSTEP HPT HL2
          go_wp2
          go_ret
          exact ⟨by rw [HF.out]; rfl, HFB.out⟩
        · have HM2 := HSTEP
          have HL3 := Lib.hid (HL2.out rfl)
          clear HSTEP HPT HL2
          go_wp2
          go_roundw
          case rel => exact ⟨k + 1, by go_num, by omega, HM2.out, HL3.out, HG2.out⟩
          case measure => simp [intOf]; omega
      · obtain rfl : k = x.ops.length := by omega
        have HF : Hid (r = true) := by
          show _ = _
          rw [← HR2.out]
          have h := HM.out
          rwa [List.take_length] at h
        have HFB := Lib.hid (HB.out.trans ((below_look HBL.out HG.out HBM.out).mono HB.out.size))
        clear HM HL
        go_wp2
        go_ret
        exact ⟨by rw [HF.out]; rfl, HFB.out⟩
  · have q2 : (x.ops.length : Int) > 2000 := by omega
    have HF : Hid (r = false) := by
      show _ = _
      rw [← HR.out, decide_eq_false h2, Bool.false_and]
    go_wp2
    go_ret
    exact ⟨by rw [HF.out]; rfl, HB.out⟩
end Go.Proofs.YtifkpelcdihdoaaGreatDoor
