/- Package patch: done. slices.Contains of strings. name.Minus, Both, Within, Has, Same. Package patch: noName, hung, Check. -/
import Derived.BigRegion
import Derived.Deep.RegionWith
import Derived.BigQuiet
import Derived.Deep.QuietTactic
import Derived.Handy
import Derived.Test.YtoajckhfnadhjaaGreatDoorShelf
import Derived.Test.YtoajckhfnadhjaaGreatDoorCk23
namespace Go.Proofs.YtoajckhfnadhjaaGreatDoor
open Go.RowKit
set_option linter.unusedVariables false

theorem steps_cons (name : List UInt8) (deps : List (List UInt8)) (m : List Ik) (o : OpK) (r : List OpK) : stepsO name deps m (o :: r) = (stepO name deps m o && stepsO name deps (m ++ comesO name o) r) := rfl
theorem steps_app (name : List UInt8) (deps : List (List UInt8)) : ∀ (a : List OpK) (m : List Ik) (b : List OpK), stepsO name deps m (a ++ b) = (stepsO name deps m a && stepsO name deps (m ++ madeP name a) b)
  | [], m, b => by simp [stepsO, madeP]
  | o :: a, m, b => by
    have ih := steps_app name deps a (m ++ comesO name o) b
    rw [List.cons_append, steps_cons, steps_cons, ih, show m ++ comesO name o ++ madeP name a = m ++ madeP name (o :: a) by simp [madeP], Bool.and_assoc]
theorem steps_take (name : List UInt8) (deps : List (List UInt8)) (l : List Om) (k : Nat) (hk : k < l.length) : stepsO name deps [] (okeys (l.take (k + 1))) = (stepsO name deps [] (okeys (l.take k)) && stepO name deps (madeP name (okeys (l.take k))) l[k].key) := by
  rw [List.take_succ_eq_append_getElem hk, show okeys (l.take k ++ [l[k]]) = okeys (l.take k) ++ [l[k].key] by unfold okeys; rw [List.map_append]; rfl, steps_app, List.nil_append, steps_cons]
  rw [show stepsO name deps (madeP name (okeys (l.take k)) ++ comesO name l[k].key) [] = true from rfl, Bool.and_true]
theorem steps_part {name : List UInt8} {deps : List (List UInt8)} {l : List Om} (k : Nat) (h : stepsO name deps [] (okeys (l.take k)) = false) : stepsO name deps [] (okeys l) = false := by
  have e : okeys l = okeys (l.take k) ++ okeys (l.drop k) := by unfold okeys; rw [← List.map_append, List.take_append_drop]
  rw [e, steps_app, h]
  rfl
theorem steps_len (name : List UInt8) (deps : List (List UInt8)) : ∀ (l : List OpK) (m : List Ik), stepsO name deps m l = true → (madeP name l).length ≤ 2001 * l.length
  | [], m, _ => by simp [madeP]
  | o :: l, m, h => by
    rw [steps_cons, Bool.and_eq_true] at h
    have h1 := steps_len name deps l _ h.2
    have h2 : mayO o = true := by
      have h3 := h.1
      unfold stepO at h3
      simp only [Bool.and_eq_true] at h3
      exact h3.1.1
    have h3 := (comes_ids (name := name) h2).1
    have e : madeP name (o :: l) = comesO name o ++ madeP name l := by simp [madeP]
    rw [e, List.length_append, List.length_cons]
    omega
/-- What Check asks of a patch's parts. -/
structure Ptm.Ck (x : Ptm) : Prop where
  name : x.name.size ≤ 9223372036854775807
  few : x.deps.length ≤ 1000000
  deps : ∀ d ∈ x.deps, d.length ≤ 9223372036854775807
  many : x.ops.length ≤ 9223372036854775807
  ops : ∀ o ∈ x.ops, o.Sz
set_option maxHeartbeats 8000000 in
set_option maxRecDepth 100000 in
theorem pdone_any (x : Ptm) (w : World) (ox : x.Ok w w.heap.size) (sx : x.Ck) (hT : Tabs w) (hri : Rising x.deps) (r : Bool) (hr : doneP x.key = r) :
    Calls Tryz.prog 31 #[.agg #[.string x.name, .slice x.a1 x.deps.length x.c1, .slice x.a2 x.ops.length x.c2]] w fun e w' => e = .returned (.bool r) ∧ Below w.heap.size w w' := by
  obtain ⟨hb, hx⟩ := pat_box w x
  have HP := Lib.hid hx
  have HB := Lib.hid hb
  have OX := Lib.hid (ox.on hb)
  have HT := Lib.hid (Tabs.on hT hb)
  have SX := Lib.hid sx
  have HRI := Lib.hid hri
  have HR : Hid ((decide (x.ops.length ≤ 2000) && stepsO x.name.data.toList x.deps [] (okeys x.ops)) = r) := by
    show _ = _
    rw [← hr]
    unfold doneP
    rw [show x.key.ops.length = x.ops.length from okeys_len _]
    rfl
  have jm := sx.many
  clear hb hx ox hT sx hri hr
  go_enter Tryz.func31, Tryz.ntmps31
  go_upto_region 1 with (fail)
  generalize (w.alloc (.cells #[.string x.name, .slice x.a1 x.deps.length x.c1, .slice x.a2 x.ops.length x.c2] 25)) = wb at *
  generalize (Value.agg #[.string x.name, .slice x.a1 x.deps.length x.c1, .slice x.a2 x.ops.length x.c2]) = vx
  have p0 := HP.out.c0
  have p1 := HP.out.c1
  have p2 := HP.out.c2
  by_cases h2 : x.ops.length ≤ 2000
  · have q2 : ¬ (x.ops.length : Int) > 2000 := by omega
    have HR2 : Hid (stepsO x.name.data.toList x.deps [] (okeys x.ops) = r) := by
      show _ = _
      rw [← HR.out, decide_eq_true h2, Bool.true_and]
    have CL := Lib.hid (plooker_any x wb)
    clear HR
    go_upto_region 4 with (go_at_call 68; refine CL.out.mono ?_; rintro e wl ⟨gm, gq, gk, g3, g2, k3, k2, bm, rfl, hl, hbl, hbm⟩)
    replace HP := Lib.hid (HP.out.on hbl)
    have HL0 : Hid (LookAt wl gm gq gk g3 g2 k3 k2 bm x (madeP x.name.data.toList (okeys (x.ops.take 0)))) := hl
    have HBL := Lib.hid hbl
    have HBM := Lib.hid hbm
    have HLL := Lib.hid hl
    have HM0 : Hid (stepsO x.name.data.toList x.deps [] (okeys (x.ops.take 0)) = true) := rfl
    have HG0 : Hid (wl.grownBy wl (some bm)) := grownBy_refl _ _
    clear hl hbl hbm CL p0 p1 p2 q2
    have p2 := HP.out.c2
    go_wp2_with fail
    go_loopw [15] (fun iv wr => ∃ k : Nat, iv = .int .i64 (k : Int) ∧ k ≤ x.ops.length ∧ Hid (stepsO x.name.data.toList x.deps [] (okeys (x.ops.take k)) = true) ∧ Hid (LookAt wr gm gq gk g3 g2 k3 k2 bm x (madeP x.name.data.toList (okeys (x.ops.take k)))) ∧ Hid (wl.grownBy wr (some bm))) (fun iv _ => x.ops.length - (intOf iv).toNat)
    case atStart => exact ⟨0, rfl, Nat.zero_le _, HM0.out, HL0.out, HG0.out⟩
    case round =>
      clear HM0 HL0 HG0 p2
      obtain ⟨k, rfl, hk, HM, HL, HG⟩ := hrel
      by_cases hlt : k < x.ops.length
      · have hBR := below_look HBL.out HG.out HBM.out
        have hS := OX.out.ops.on hBR
        obtain ⟨b, off, hA, hbB, hcx⟩ := hS.1.get hlt
        have HOK := Lib.hid (OX.out.ops.2 x.ops[k] (List.getElem_mem _))
        have HSZ := Lib.hid (SX.out.ops x.ops[k] (List.getElem_mem _))
        have hstep := steps_take x.name.data.toList x.deps x.ops k hlt
        rw [HM.out, Bool.true_and] at hstep
        have HSTEP := Lib.hid hstep
        have HMK := Lib.hid (made_take x.name.data.toList x.ops k hlt)
        have HPT : Hid (stepsO x.name.data.toList x.deps [] (okeys (x.ops.take (k + 1))) = false → stepsO x.name.data.toList x.deps [] (okeys x.ops) = false) := steps_part (k + 1)
        have hml := steps_len x.name.data.toList x.deps _ _ HM.out
        rw [okeys_len, List.length_take] at hml
        have HML : Hid ((madeP x.name.data.toList (okeys (x.ops.take k))).length ≤ 100000000000) := by show _ ≤ _; omega
        obtain ⟨o, ho⟩ : ∃ o, x.ops[k] = o := ⟨_, rfl⟩
        rw [ho] at HOK HSZ HSTEP HMK hcx
        have RX := Lib.hid (op_rng hcx)
        obtain ⟨hbx, hX⟩ := op_box wr o
        have HX := Lib.hid hX
        have HL1 := Lib.hid (HL.out.on hbx)
        have HG1 := Lib.hid (Rk.grown_below HG.out hbx)
        have u0 : (0 : Int) ≤ (k : Int) := by omega
        have u1 : (k : Int) < (x.ops.length : Int) := by omega
        rw [hA]
        clear hBR hS hcx hbx hX ho hbB hml hstep HM HL HG
        go_upto_region 7 with (refine wpList_load_mid rfl 42 _ rfl b (off + k * 16) rfl [.int .i64 o.kind, .string o.self.p, .int .i64 o.self.n, .string o.parent.p, .int .i64 o.parent.n, .string o.dst.p, .int .i64 o.dst.n, .string o.name, .string o.dname, .string o.left.p, .int .i64 o.left.n, .string o.right.p, .int .i64 o.right.n, .slice o.a1 o.dels.length o.c1, .int .i64 o.first, .slice o.a2 o.lines.length o.c2] _ RX.out Tryz.underlying42 rfl (by kernel_rfl) ?_)
        generalize (wr.alloc (.cells #[.int .i64 o.kind, .string o.self.p, .int .i64 o.self.n, .string o.parent.p, .int .i64 o.parent.n, .string o.dst.p, .int .i64 o.dst.n, .string o.name, .string o.dname, .string o.left.p, .int .i64 o.left.n, .string o.right.p, .int .i64 o.right.n, .slice o.a1 o.dels.length o.c1, .int .i64 o.first, .slice o.a2 o.lines.length o.c2] 42)) = wa at *
        generalize hgx : wr.heap.size = gx at *
        clear RX hgx
        generalize (Value.agg #[.int .i64 o.kind, .string o.self.p, .int .i64 o.self.n, .string o.parent.p, .int .i64 o.parent.n, .string o.dst.p, .int .i64 o.dst.n, .string o.name, .string o.dname, .string o.left.p, .int .i64 o.left.n, .string o.right.p, .int .i64 o.right.n, .slice o.a1 o.dels.length o.c1, .int .i64 o.first, .slice o.a2 o.lines.length o.c2]) = vo
        obtain ⟨q, hq⟩ : ∃ q, stepO x.name.data.toList x.deps (madeP x.name.data.toList (okeys (x.ops.take k))) o.key = q := ⟨_, rfl⟩
        have HQ := Lib.hid hq
        rw [hq] at HSTEP
        clear hq
        have CS := Lib.hid (plook1_any wb gm gq gk g3 g2 k3 k2 bm x _ o wa HL1.out (below_look HBL.out HG1.out HBM.out) HBM.out HOK.out HSZ.out OX.out.deps HRI.out SX.out.few SX.out.name HT.out HML.out q HQ.out)
        -- @P1
        go_wp2_with ((with_reducible refine wpList_load_opw (.tmp 5) gx o HX.out ?_ ?_ ?_ ?_); rfl; rfl; rfl; simp only [Act.put, List.setIfInBounds_toArray, List.set_cons_zero, List.set_cons_succ, Om.val, Om.cells])
        refine CS.out.mono ?_
        rintro e w2 ⟨rfl, hl2, hg2⟩
        have HG2 := Lib.hid (Rk.grown_both HG1.out hg2)
        have HL2 : Hid (q = true → LookAt w2 gm gq gk g3 g2 k3 k2 bm x (madeP x.name.data.toList (okeys (x.ops.take (k + 1))))) := by
          intro h
          rw [HMK.out]
          exact hl2 h
        clear hl2 hg2 CS HX HL1 HG1 HMK
        cases q
        · have HF : Hid (r = false) := by
            show _ = _
            rw [← HR2.out]
            exact HPT.out HSTEP.out
          have HFB := Lib.hid (HB.out.trans ((below_look HBL.out HG2.out HBM.out).mono HB.out.size))
          clear HSTEP HPT HL2
          go_wp2
          go_ret
          exact ⟨by rw [HF.out]; rfl, HFB.out⟩
        · have HM2 := HSTEP
          have HL3 := Lib.hid (HL2.out rfl)
          clear HSTEP HPT HL2
          go_wp2
          go_roundw
          case rel => exact ⟨k + 1, by go_num, by omega, HM2.out, HL3.out, HG2.out⟩
          case measure => simp [intOf]; omega
      · obtain rfl : k = x.ops.length := by omega
        have HF : Hid (r = true) := by
          show _ = _
          rw [← HR2.out]
          have h := HM.out
          rwa [List.take_length] at h
        have HFB := Lib.hid (HB.out.trans ((below_look HBL.out HG.out HBM.out).mono HB.out.size))
        clear HM HL
        go_wp2
        go_ret
        exact ⟨by rw [HF.out]; rfl, HFB.out⟩
  · have q2 : (x.ops.length : Int) > 2000 := by omega
    have HF : Hid (r = false) := by
      show _ = _
      rw [← HR.out, decide_eq_false h2, Bool.false_and]
    go_wp2
    go_ret
    exact ⟨by rw [HF.out]; rfl, HB.out⟩
end Go.Proofs.YtoajckhfnadhjaaGreatDoor
namespace Go.Proofs.YtoajckhfnadhjaaGreatDoor
open Go.RowKit
set_option linter.unusedVariables false

theorem contains_eq (ss : List ByteArray) (s : ByteArray) : Lib.containsS ss s = decide (s.data.toList ∈ lists ss) := by
  rw [Bool.eq_iff_iff, Lib.containsS_iff, decide_eq_true_eq, lists, List.mem_map]
  constructor
  · exact fun h => ⟨s, h, rfl⟩
  · rintro ⟨t, ht, e⟩
    rw [← bytes_inj e]
    exact ht

theorem contains_any (A : Option Addr) (ss : List ByteArray) (cap : Nat) (s : ByteArray) (w : World) (hs : Strs w w.heap.size A ss) (hn : ss.length ≤ 1000000) :
    Calls Tryz.prog 96 #[.slice A ss.length cap, .string s] w fun e w' => e = .returned (.bool (decide (s.data.toList ∈ lists ss))) ∧ w' = w := by
  by_cases h0 : 0 < ss.length
  · obtain ⟨b, off, rfl, hb, hc⟩ := hs h0
    have h := Tryz.slices_Contains_string b off ss.length cap ss s w (Nat.le_refl _) (by omega) (fun j hj => by rw [hc j hj]; simp [List.getD_eq_getElem?_getD, List.getElem?_eq_getElem hj])
    rw [List.take_of_length_le (Nat.le_refl _), contains_eq] at h
    exact h
  · obtain rfl : ss = [] := List.length_eq_zero_iff.1 (by omega)
    have h := Tryz.slices_Contains_string_empty A cap s w
    simpa [lists] using h
end Go.Proofs.YtoajckhfnadhjaaGreatDoor
namespace Go.Proofs.YtoajckhfnadhjaaGreatDoor
open Go.RowKit Go.Sort
set_option linter.unusedVariables false

theorem ins_len (x : List UInt8) : ∀ l, (ins x l).length ≤ l.length + 1
  | [] => by simp [ins]
  | y :: r => by
    have := ins_len x r
    unfold ins
    split
    · simp; omega
    · split <;> simp
theorem setS_len (l : List (List UInt8)) : (setS l).length ≤ l.length := by
  suffices h : ∀ (l a : List (List UInt8)), (l.foldl (fun a x => ins x a) a).length ≤ l.length + a.length by simpa [setS] using h l []
  intro l
  induction l with
  | nil => simp
  | cons x r ih =>
    intro a
    have h1 := ih (ins x a)
    have h2 := ins_len x a
    simp only [List.foldl_cons, List.length_cons]
    omega

set_option maxRecDepth 100000 in
theorem has_any (A : Option Addr) (ss : List ByteArray) (cap : Nat) (s : ByteArray) (w : World) (hs : Strs w w.heap.size A ss) (hn : ss.length ≤ 1000000) :
    Calls Tryz.prog 67 #[.slice A ss.length cap, .string s] w fun e w' => e = .returned (.bool (decide (s.data.toList ∈ lists ss))) ∧ w' = w := by
  have h := contains_any A ss cap s w hs hn
  generalize decide (s.data.toList ∈ lists ss) = r at *
  clear hs
  go_enter Tryz.func67, Tryz.ntmps67
  go_wp2_with (go_at_call 96; refine h.mono ?_; rintro e w1 ⟨rfl, rfl⟩)
  go_ret
  exact ⟨rfl, rfl⟩

theorem equal_any (A A2 : Option Addr) (ss tt : List ByteArray) (cap cap2 : Nat) (w : World) (hs : Strs w w.heap.size A ss) (ht : Strs w w.heap.size A2 tt) (hn : ss.length ≤ 1000000) (hn2 : tt.length ≤ 1000000) :
    Calls Tryz.prog 32 #[.slice A ss.length cap, .slice A2 tt.length cap2] w fun e w' => e = .returned (.bool (decide (ss = tt))) ∧ ∃ q, w' = w.drewN q := by
  by_cases hl : ss.length = tt.length
  · by_cases h0 : 0 < ss.length
    · obtain ⟨b, off, rfl, hb, hc⟩ := hs h0
      obtain ⟨b2, off2, rfl, hb2, hc2⟩ := ht (by omega)
      have h := Tryz.slices_Equal_string b off ss.length cap b2 off2 tt.length cap2 ss tt w (Nat.le_refl _) (Nat.le_refl _) (by omega) (by omega) (fun j hj => by rw [hc j hj]; simp [List.getD_eq_getElem?_getD, List.getElem?_eq_getElem hj]) (fun j hj => by rw [hc2 j hj]; simp [List.getD_eq_getElem?_getD, List.getElem?_eq_getElem hj])
      rw [List.take_of_length_le (Nat.le_refl _), List.take_of_length_le (Nat.le_refl _)] at h
      exact h
    · obtain rfl : ss = [] := List.length_eq_zero_iff.1 (by omega)
      obtain rfl : tt = [] := List.length_eq_zero_iff.1 (by simpa using hl.symm)
      refine (Tryz.slices_Equal_string_empty A A2 cap 0 cap2 w (by omega)).mono ?_
      rintro e w' ⟨rfl, rfl⟩
      exact ⟨by simp, 0, rfl⟩
  · refine (Tryz.slices_Equal_string_lens A A2 ss.length cap tt.length cap2 w hl).mono ?_
    rintro e w' ⟨rfl, rfl⟩
    have : ss ≠ tt := fun e => hl (by rw [e])
    exact ⟨by simp [this], 0, rfl⟩

theorem toBs_eq (a b : List (List UInt8)) : decide (toBs a = toBs b) = decide (a = b) := by
  rw [decide_eq_decide]
  exact ⟨fun h => by rw [← lists_toBs a, h, lists_toBs], fun h => by rw [h]⟩

end Go.Proofs.YtoajckhfnadhjaaGreatDoor
namespace Go.Proofs.YtoajckhfnadhjaaGreatDoor
open Go.RowKit
set_option linter.unusedVariables false

theorem nname_any (s : ByteArray) (w : World) (hs : s.size ≤ 9223372036854775807) (r : Bool) (hr : rightB s = r) :
    Calls Tryz.prog 28 #[.string s] w fun e w' => e = .returned (.bool (!r)) ∧ Below w.heap.size w w' := by
  have C := Lib.hid (right_any s w hs)
  rw [hr] at C
  go_enter Tryz.func28, Tryz.ntmps28
  go_wp2_with fail
  refine C.out.mono ?_
  rintro e w1 ⟨rfl, hb⟩
  go_wp2
  go_ret
  exact ⟨rfl, hb⟩
theorem pnames_no {ls : List (List UInt8)} {k : Nat} (hk : k < ls.length) (h : nameK ls[k] = false) : ls.all nameK = false := by
  rw [List.all_eq_false]
  exact ⟨ls[k], List.getElem_mem _, by rw [h]; exact Bool.false_ne_true⟩
theorem pnames_yes {ls : List (List UInt8)} (h : ∀ k (hk : k < ls.length), nameK ls[k] = true) : ls.all nameK = true := by
  rw [List.all_eq_true]
  intro x hx
  obtain ⟨k, hk, rfl⟩ := List.getElem_of_mem hx
  exact h k hk
set_option maxHeartbeats 1000000 in
set_option maxRecDepth 100000 in
theorem nindex_any (A : Option Addr) (ls : List (List UInt8)) (cap : Nat) (w : World) (hs : Strs w w.heap.size A (toBs ls)) (hn : ls.length ≤ 1000000) (hl : ∀ x ∈ ls, x.length ≤ 9223372036854775807) :
    Calls Tryz.prog 65 #[.slice A ls.length cap, .func (.func 28) #[] #[]] w fun e w' => ∃ r : Int, e = .returned (.int .i64 r) ∧ decide (0 ≤ r) = !(ls.all nameK) ∧ Below w.heap.size w w' := by
  have HS := Lib.hid hs
  have HL := Lib.hid hl
  clear hs hl
  go_enter Tryz.func65, Tryz.ntmps65
  go_wp2
  go_loopw [8] (fun i wr => ∃ k : Nat, k ≤ ls.length ∧ i = .int .i64 (k : Int) ∧ Hid (∀ j (hj : j < ls.length), j < k → nameK ls[j] = true) ∧ Below w.heap.size w wr) (fun i _ => ls.length - (intOf i).toNat)
  case atStart => exact ⟨0, Nat.zero_le _, rfl, fun j _ h => absurd h (by omega), Below.refl _ _⟩
  case round =>
    obtain ⟨k, hk, rfl, hall, hb⟩ := hrel
    by_cases hlt : k < ls.length
    · obtain ⟨g, off, rfl, hg, hc⟩ := (HS.out.on hb).at_ (k := k) (by rw [toBs_len]; exact hlt)
      have e1 : (toBs ls)[k]'(by rw [toBs_len]; exact hlt) = toB ls[k] := by simp [toBs]
      rw [e1] at hc
      have hz : (toB ls[k]).size ≤ 9223372036854775807 := by
        have := HL.out ls[k] (List.getElem_mem _)
        simpa [toB, ByteArray.size] using this
      cases hd : rightB (toB ls[k]) with
      | false =>
        have C := Lib.hid (nname_any (toB ls[k]) wr hz false hd)
        have hfin : Hid (ls.all nameK = false) := pnames_no hlt hd
        have HB := Lib.hid hb
        clear hall hd e1 hz hb
        generalize toB ls[k] = z at *
        go_wp2_with fail
        refine C.out.mono ?_
        rintro e w1 ⟨rfl, hb1⟩
        have HB2 := Lib.hid (HB.out.trans (hb1.mono HB.out.size))
        clear hb1
        go_wp2
        go_ret
        exact ⟨k, rfl, by rw [hfin.out]; simp, HB2.out⟩
      | true =>
        have C := Lib.hid (nname_any (toB ls[k]) wr hz true hd)
        have hyes : Hid (∀ j (hj : j < ls.length), j < k + 1 → nameK ls[j] = true) := by
          intro j hj hjk
          by_cases hjk2 : j = k
          · subst hjk2; exact hd
          · exact hall.out j hj (by omega)
        have HB := Lib.hid hb
        clear hall hd e1 hz hb
        generalize toB ls[k] = z at *
        go_wp2_with fail
        refine C.out.mono ?_
        rintro e w1 ⟨rfl, hb1⟩
        have HB2 := Lib.hid (HB.out.trans (hb1.mono HB.out.size))
        clear hb1
        go_wp2
        go_roundw
        case rel => exact ⟨k + 1, by omega, by go_num, hyes, HB2.out⟩
        case measure => simp [intOf]; omega
    · obtain rfl : k = ls.length := by omega
      have hfin : Hid (ls.all nameK = true) := pnames_yes fun j hj => hall.out j hj hj
      clear hall
      go_wp2
      go_ret
      exact ⟨-1, rfl, by rw [hfin.out]; rfl, hb⟩
theorem ncontains_any (A : Option Addr) (ls : List (List UInt8)) (cap : Nat) (w : World) (hs : Strs w w.heap.size A (toBs ls)) (hn : ls.length ≤ 1000000) (hl : ∀ x ∈ ls, x.length ≤ 9223372036854775807) (r : Bool) (hr : ls.all nameK = r) :
    Calls Tryz.prog 29 #[.slice A ls.length cap, .func (.func 28) #[] #[]] w fun e w' => e = .returned (.bool (!r)) ∧ Below w.heap.size w w' := by
  have C := Lib.hid (nindex_any A ls cap w hs hn hl)
  rw [hr] at C
  clear hs hl hr
  go_enter Tryz.func29, Tryz.ntmps29
  go_wp2_with fail
  refine C.out.mono ?_
  rintro e w1 ⟨r, rfl, hr, hb⟩
  have HR := Lib.hid hr
  clear hr C
  go_wp2
  go_ret
  rw [← HR.out]
  exact ⟨rfl, hb⟩
theorem pset_any (A : Option Addr) (ls : List (List UInt8)) (c : Nat) (w : World) (hs : Strs w w.heap.size A (toBs ls)) (hn : ls.length ≤ 1000000) :
    Calls Tryz.prog 66 #[.slice A ls.length c] w fun e w' => ∃ A2 c2, e = .returned (.slice A2 (setS ls).length c2) ∧ Strs w' w'.heap.size A2 (toBs (setS ls)) ∧ Below w.heap.size w w' := by
  have h := set_any A (toBs ls) c w hs (by rw [toBs_len]; exact hn)
  rw [toBs_len, lists_toBs] at h
  refine h.mono ?_
  rintro e w' ⟨v, rfl, ho, hb⟩
  obtain ⟨A2, c2, rfl, hs2, _, _⟩ := ho.strs
  exact ⟨A2, c2, rfl, hs2, hb⟩
theorem pequal_any (A A2 : Option Addr) (la lc : List (List UInt8)) (cap cap2 : Nat) (w : World) (d : Bool) (hd : decide (la = lc) = d) (hs : Strs w w.heap.size A (toBs la)) (ht : Strs w w.heap.size A2 (toBs lc)) (hn : la.length ≤ 1000000) (hn2 : lc.length ≤ 1000000) :
    Calls Tryz.prog 32 #[.slice A la.length cap, .slice A2 lc.length cap2] w fun e w' => e = .returned (.bool d) ∧ Below w.heap.size w w' := by
  have h := equal_any A A2 (toBs la) (toBs lc) cap cap2 w hs ht (by rw [toBs_len]; exact hn) (by rw [toBs_len]; exact hn2)
  rw [toBs_len, toBs_len, toBs_eq, hd] at h
  refine h.mono ?_
  rintro e w' ⟨rfl, q, rfl⟩
  exact ⟨rfl, below_drewN (Below.refl _ _) q⟩
theorem phas_any (A : Option Addr) (ls : List (List UInt8)) (c : Nat) (s : ByteArray) (w : World) (hs : Strs w w.heap.size A (toBs ls)) (hn : ls.length ≤ 1000000) (r : Bool) (hr : decide (s.data.toList ∈ ls) = r) :
    Calls Tryz.prog 67 #[.slice A ls.length c, .string s] w fun e w' => e = .returned (.bool r) ∧ Below w.heap.size w w' := by
  have h := has_any A (toBs ls) c s w hs (by rw [toBs_len]; exact hn)
  rw [toBs_len, lists_toBs, hr] at h
  refine h.mono ?_
  rintro e w' ⟨rfl, rfl⟩
  exact ⟨rfl, Below.refl _ _⟩
set_option maxHeartbeats 4000000 in
set_option maxRecDepth 100000 in
theorem phung_any (x : Ptm) (w : World) (ox : x.Ok w w.heap.size) (sx : x.Ck) (r : Bool) (hr : hungP x.key = r) :
    Calls Tryz.prog 30 #[.agg #[.string x.name, .slice x.a1 x.deps.length x.c1, .slice x.a2 x.ops.length x.c2]] w fun e w' => e = .returned (.bool r) ∧ Below w.heap.size w w' := by
  obtain ⟨hb, hx⟩ := pat_box w x
  have HP := Lib.hid hx
  have HB := Lib.hid hb
  have OX := Lib.hid (ox.on hb)
  have SX := Lib.hid sx
  have HR : Hid ((decide (x.deps = setS x.deps) && !decide (x.name.data.toList ∈ x.deps)) = r) := hr
  clear hb hx ox sx hr
  go_enter Tryz.func30, Tryz.ntmps30
  go_upto_region 1 with (fail)
  generalize (w.alloc (.cells #[.string x.name, .slice x.a1 x.deps.length x.c1, .slice x.a2 x.ops.length x.c2] 25)) = wb at *
  have p0 := HP.out.c0
  have p1 := HP.out.c1
  have p2 := HP.out.c2
  -- @P1
  have HDR : Hid (Below wb.heap.size wb wb.drew) := (Below.refl _ _).drew
  refine wp_region_noPanic ?_
  refine wp_region_held_drew (S := fun W => Below wb.heap.size wb W) (by kernel_rfl) HDR.out (fun hHeld => ?_)
  refine wpAnyH_take (i := 0) (oi := { dst := some 3, op := _, type := _, pos := _, after := _, guard := _ }) (v := .pointer (some ⟨w.heap.size, 1, none⟩)) rfl (by kernel_rfl) (by kernel_rfl) (by kernel_rfl) (fun _ _ _ h => h) (Or.inl ⟨by rfl, fun w' hSw => ?_⟩) (by assumption) ?_
  · ((try dsimp only at hSw); go_simp)
  try simp only [Act.put, List.setIfInBounds_toArray, List.set_cons_zero, List.set_cons_succ]
  refine wpAnyH_take (i := 1) (oi := { dst := some 4, op := _, type := _, pos := _, after := _, guard := _ }) (v := .slice x.a1 x.deps.length x.c1) rfl (by kernel_rfl) (by kernel_rfl) (by kernel_rfl) (fun _ _ _ h => h) (Or.inl ⟨by rfl, fun w' hSw => ?_⟩) (by assumption) ?_
  · (have q0 := (hSw.cell (rec_cell_lt p0)).trans p0; have q1 := (hSw.cell (rec_cell_lt p1)).trans p1; have q2 := (hSw.cell (rec_cell_lt p2)).trans p2; go_simp)
  try simp only [Act.put, List.setIfInBounds_toArray, List.set_cons_zero, List.set_cons_succ]
  refine wpAnyH_take (i := 2) (oi := { dst := some 5, op := _, type := _, pos := _, after := _, guard := _ }) (v := .pointer (some ⟨w.heap.size, 1, none⟩)) rfl (by kernel_rfl) (by kernel_rfl) (by kernel_rfl) (fun _ _ _ h => h) (Or.inl ⟨by rfl, fun w' hSw => ?_⟩) (by assumption) ?_
  · ((try dsimp only at hSw); go_simp)
  try simp only [Act.put, List.setIfInBounds_toArray, List.set_cons_zero, List.set_cons_succ]
  refine wpAnyH_take (i := 3) (oi := { dst := some 6, op := _, type := _, pos := _, after := _, guard := _ }) (v := .slice x.a1 x.deps.length x.c1) rfl (by kernel_rfl) (by kernel_rfl) (by kernel_rfl) (fun _ _ _ h => h) (Or.inl ⟨by rfl, fun w' hSw => ?_⟩) (by assumption) ?_
  · (have q0 := (hSw.cell (rec_cell_lt p0)).trans p0; have q1 := (hSw.cell (rec_cell_lt p1)).trans p1; have q2 := (hSw.cell (rec_cell_lt p2)).trans p2; go_simp)
  try simp only [Act.put, List.setIfInBounds_toArray, List.set_cons_zero, List.set_cons_succ]
  have XB0 := Lib.hid HDR.out
  generalize hwD : wb.drew = wD at *
  clear hwD HDR
  refine wpAnyH_ready (rs := [4]) (by kernel_rfl) (by simp) ?_
  refine AllReadyH.cons rfl (fun K hK => ?_) AllReadyH.nil
  go_simp
  go_at_call 66
  refine (pset_any x.a1 x.deps x.c1 _ (OX.out.deps.on XB0.out) SX.out.few).mono ?_
  rintro e wc ⟨A2, c2, rfl, hs2, hb⟩
  have XB1 := Lib.hid (XB0.out.trans (hb.mono XB0.out.size))
  have HS2 := Lib.hid hs2
  clear hs2 hb
  refine hK.out _ _ (XB1.out) (fun hHeld4 => ?_)
  clear hK K hHeld XB0
  try simp only [Act.put, List.setIfInBounds_toArray, List.set_cons_zero, List.set_cons_succ]
  obtain ⟨q, hq⟩ : ∃ q, decide (x.deps = setS x.deps) = q := ⟨_, rfl⟩
  have HQ := Lib.hid hq
  rw [hq] at HR
  clear hq
  refine wpAnyH_ready (rs := [5]) (by kernel_rfl) (by simp) ?_
  refine AllReadyH.cons rfl (fun K hK => ?_) AllReadyH.nil
  go_simp
  go_at_call 32
  refine (pequal_any x.a1 A2 x.deps (setS x.deps) x.c1 c2 _ q HQ.out (OX.out.deps.on XB1.out) HS2.out SX.out.few (Nat.le_trans (setS_len _) SX.out.few)).mono ?_
  rintro e wd ⟨rfl, hb⟩
  have XB2 := Lib.hid (XB1.out.trans (hb.mono XB1.out.size))
  clear hb
  refine hK.out _ _ (XB2.out) (fun hHeld5 => ?_)
  clear hK K hHeld4 XB1 HS2
  try simp only [Act.put, List.setIfInBounds_toArray, List.set_cons_zero, List.set_cons_succ]
  refine wpAnyH_take (i := 6) (oi := { dst := some 9, op := _, type := _, pos := _, after := _, guard := _ }) (v := .bool q) rfl (by kernel_rfl) (by kernel_rfl) (by kernel_rfl) (fun _ _ _ h => h) (Or.inl ⟨by rfl, fun w' hSw => ?_⟩) (by assumption) ?_
  · ((try dsimp only at hSw); go_simp)
  try simp only [Act.put, List.setIfInBounds_toArray, List.set_cons_zero, List.set_cons_succ]
  cases q
  · have HF : Hid (r = false) := by show _ = _; rw [← HR.out, Bool.false_and]
    refine wpAnyH_take (i := 7) (oi := { dst := some 10, op := _, type := _, pos := _, after := _, guard := _ }) (v := undef) rfl (by kernel_rfl) (by kernel_rfl) (by kernel_rfl) (fun _ _ _ h => h) (Or.inr ⟨by rfl, rfl⟩) (by assumption) ?_
    try simp only [Act.put, List.setIfInBounds_toArray, List.set_cons_zero, List.set_cons_succ]
    refine wpAnyH_take (i := 8) (oi := { dst := some 11, op := _, type := _, pos := _, after := _, guard := _ }) (v := undef) rfl (by kernel_rfl) (by kernel_rfl) (by kernel_rfl) (fun _ _ _ h => h) (Or.inr ⟨by rfl, rfl⟩) (by assumption) ?_
    try simp only [Act.put, List.setIfInBounds_toArray, List.set_cons_zero, List.set_cons_succ]
    refine wpAnyH_take (i := 9) (oi := { dst := some 12, op := _, type := _, pos := _, after := _, guard := _ }) (v := undef) rfl (by kernel_rfl) (by kernel_rfl) (by kernel_rfl) (fun _ _ _ h => h) (Or.inr ⟨by rfl, rfl⟩) (by assumption) ?_
    try simp only [Act.put, List.setIfInBounds_toArray, List.set_cons_zero, List.set_cons_succ]
    refine wpAnyH_take (i := 10) (oi := { dst := some 13, op := _, type := _, pos := _, after := _, guard := _ }) (v := undef) rfl (by kernel_rfl) (by kernel_rfl) (by kernel_rfl) (fun _ _ _ h => h) (Or.inr ⟨by rfl, rfl⟩) (by assumption) ?_
    try simp only [Act.put, List.setIfInBounds_toArray, List.set_cons_zero, List.set_cons_succ]
    refine wpAnyH_take (i := 11) (oi := { dst := some 14, op := _, type := _, pos := _, after := _, guard := _ }) (v := undef) rfl (by kernel_rfl) (by kernel_rfl) (by kernel_rfl) (fun _ _ _ h => h) (Or.inr ⟨by rfl, rfl⟩) (by assumption) ?_
    try simp only [Act.put, List.setIfInBounds_toArray, List.set_cons_zero, List.set_cons_succ]
    refine wpAnyH_take (i := 12) (oi := { dst := some 15, op := _, type := _, pos := _, after := _, guard := _ }) (v := undef) rfl (by kernel_rfl) (by kernel_rfl) (by kernel_rfl) (fun _ _ _ h => h) (Or.inr ⟨by rfl, rfl⟩) (by assumption) ?_
    try simp only [Act.put, List.setIfInBounds_toArray, List.set_cons_zero, List.set_cons_succ]
    refine wpAnyH_take (i := 13) (oi := { dst := some 16, op := _, type := _, pos := _, after := _, guard := _ }) (v := .bool false) rfl (by kernel_rfl) (by kernel_rfl) (by kernel_rfl) (fun _ _ _ h => h) (Or.inl ⟨by rfl, fun w' hSw => ?_⟩) (by assumption) ?_
    · ((try dsimp only at hSw); go_simp)
    try simp only [Act.put, List.setIfInBounds_toArray, List.set_cons_zero, List.set_cons_succ]
    refine wpAnyH_take (i := 14) (oi := { dst := some 2, op := _, type := _, pos := _, after := _, guard := _ }) (v := .bool false) rfl (by kernel_rfl) (by kernel_rfl) (by kernel_rfl) (fun _ _ _ h => h) (Or.inl ⟨by rfl, fun w' hSw => ?_⟩) (by assumption) ?_
    · ((try dsimp only at hSw); go_simp)
    try simp only [Act.put, List.setIfInBounds_toArray, List.set_cons_zero, List.set_cons_succ]
    refine wpAnyH_done (by kernel_rfl) ?_ _
    refine NoPanic.normal ?_
    go_wp2
    go_ret
    exact ⟨by rw [HF.out]; rfl, HB.out.trans (XB2.out.mono HB.out.size)⟩
  · refine wpAnyH_take (i := 7) (oi := { dst := some 10, op := _, type := _, pos := _, after := _, guard := _ }) (v := .pointer (some ⟨w.heap.size, 1, none⟩)) rfl (by kernel_rfl) (by kernel_rfl) (by kernel_rfl) (fun _ _ _ h => h) (Or.inl ⟨by rfl, fun w' hSw => ?_⟩) (by assumption) ?_
    · ((try dsimp only at hSw); go_simp)
    try simp only [Act.put, List.setIfInBounds_toArray, List.set_cons_zero, List.set_cons_succ]
    refine wpAnyH_take (i := 8) (oi := { dst := some 11, op := _, type := _, pos := _, after := _, guard := _ }) (v := .slice x.a1 x.deps.length x.c1) rfl (by kernel_rfl) (by kernel_rfl) (by kernel_rfl) (fun _ _ _ h => h) (Or.inl ⟨by rfl, fun w' hSw => ?_⟩) (by assumption) ?_
    · (have q0 := (hSw.cell (rec_cell_lt p0)).trans p0; have q1 := (hSw.cell (rec_cell_lt p1)).trans p1; have q2 := (hSw.cell (rec_cell_lt p2)).trans p2; go_simp)
    try simp only [Act.put, List.setIfInBounds_toArray, List.set_cons_zero, List.set_cons_succ]
    refine wpAnyH_take (i := 9) (oi := { dst := some 12, op := _, type := _, pos := _, after := _, guard := _ }) (v := .pointer (some ⟨w.heap.size, 0, none⟩)) rfl (by kernel_rfl) (by kernel_rfl) (by kernel_rfl) (fun _ _ _ h => h) (Or.inl ⟨by rfl, fun w' hSw => ?_⟩) (by assumption) ?_
    · ((try dsimp only at hSw); go_simp)
    try simp only [Act.put, List.setIfInBounds_toArray, List.set_cons_zero, List.set_cons_succ]
    refine wpAnyH_take (i := 10) (oi := { dst := some 13, op := _, type := _, pos := _, after := _, guard := _ }) (v := .string x.name) rfl (by kernel_rfl) (by kernel_rfl) (by kernel_rfl) (fun _ _ _ h => h) (Or.inl ⟨by rfl, fun w' hSw => ?_⟩) (by assumption) ?_
    · (have q0 := (hSw.cell (rec_cell_lt p0)).trans p0; have q1 := (hSw.cell (rec_cell_lt p1)).trans p1; have q2 := (hSw.cell (rec_cell_lt p2)).trans p2; go_simp)
    try simp only [Act.put, List.setIfInBounds_toArray, List.set_cons_zero, List.set_cons_succ]
    obtain ⟨h, hh⟩ : ∃ h, decide (x.name.data.toList ∈ x.deps) = h := ⟨_, rfl⟩
    have HH := Lib.hid hh
    rw [Bool.true_and, hh] at HR
    clear hh
    refine wpAnyH_ready (rs := [11]) (by kernel_rfl) (by simp) ?_
    refine AllReadyH.cons rfl (fun K hK => ?_) AllReadyH.nil
    go_simp
    go_at_call 67
    refine (phas_any x.a1 x.deps x.c1 x.name _ (OX.out.deps.on XB2.out) SX.out.few h HH.out).mono ?_
    rintro e we ⟨rfl, hb⟩
    have XB3 := Lib.hid (XB2.out.trans (hb.mono XB2.out.size))
    clear hb
    refine hK.out _ _ (XB3.out) (fun hHeld11 => ?_)
    clear hK K hHeld5 XB2
    try simp only [Act.put, List.setIfInBounds_toArray, List.set_cons_zero, List.set_cons_succ]
    have HF : Hid (r = !h) := HR.out.symm
    refine wpAnyH_take (i := 12) (oi := { dst := some 15, op := _, type := _, pos := _, after := _, guard := _ }) (v := .bool !h) rfl (by kernel_rfl) (by kernel_rfl) (by kernel_rfl) (fun _ _ _ h => h) (Or.inl ⟨by rfl, fun w' hSw => ?_⟩) (by assumption) ?_
    · ((try dsimp only at hSw); go_simp)
    try simp only [Act.put, List.setIfInBounds_toArray, List.set_cons_zero, List.set_cons_succ]
    refine wpAnyH_take (i := 13) (oi := { dst := some 16, op := _, type := _, pos := _, after := _, guard := _ }) (v := .bool !h) rfl (by kernel_rfl) (by kernel_rfl) (by kernel_rfl) (fun _ _ _ h => h) (Or.inl ⟨by rfl, fun w' hSw => ?_⟩) (by assumption) ?_
    · ((try dsimp only at hSw); go_simp)
    try simp only [Act.put, List.setIfInBounds_toArray, List.set_cons_zero, List.set_cons_succ]
    refine wpAnyH_take (i := 14) (oi := { dst := some 2, op := _, type := _, pos := _, after := _, guard := _ }) (v := .bool !h) rfl (by kernel_rfl) (by kernel_rfl) (by kernel_rfl) (fun _ _ _ h => h) (Or.inl ⟨by rfl, fun w' hSw => ?_⟩) (by assumption) ?_
    · ((try dsimp only at hSw); go_simp)
    try simp only [Act.put, List.setIfInBounds_toArray, List.set_cons_zero, List.set_cons_succ]
    refine wpAnyH_done (by kernel_rfl) ?_ _
    refine NoPanic.normal ?_
    go_wp2
    go_ret
    exact ⟨by rw [HF.out]; rfl, HB.out.trans (XB3.out.mono HB.out.size)⟩
set_option maxHeartbeats 4000000 in
set_option maxRecDepth 100000 in
theorem pcheck_any (x : Ptm) (w : World) (ox : x.Ok w w.heap.size) (sx : x.Ck) (hT : Tabs w) (r : Int) (hr : checkP x.key = r) :
    Calls Tryz.prog 10 #[.agg #[.string x.name, .slice x.a1 x.deps.length x.c1, .slice x.a2 x.ops.length x.c2]] w fun e w' => e = .returned (.int .i64 r) ∧ Below w.heap.size w w' := by
  obtain ⟨hb, hx⟩ := pat_box w x
  have HP := Lib.hid hx
  have HB := Lib.hid hb
  have OX := Lib.hid (ox.on hb)
  have HT := Lib.hid (Tabs.on hT hb)
  have SX := Lib.hid sx
  rw [check_is, show nameK x.key.name = rightB x.name from congrArg rightB (toB_of x.name), show x.key.deps = x.deps from rfl] at hr
  obtain ⟨a, ha⟩ : ∃ a, rightB x.name = a := ⟨_, rfl⟩
  obtain ⟨d, hd⟩ : ∃ d, x.deps.all nameK = d := ⟨_, rfl⟩
  obtain ⟨u, hu⟩ : ∃ u, hungP x.key = u := ⟨_, rfl⟩
  obtain ⟨v, hv⟩ : ∃ v, doneP x.key = v := ⟨_, rfl⟩
  rw [ha, hd, hu, hv] at hr
  have HRI : Hid (u = true → Rising x.deps) := fun e => by
    rw [e] at hu
    unfold hungP at hu
    rw [Bool.and_eq_true, decide_eq_true_eq] at hu
    have h := rising_setS x.key.deps
    rw [← hu.1] at h
    exact h
  have HA := Lib.hid ha
  have HD := Lib.hid hd
  have HU := Lib.hid hu
  have HV := Lib.hid hv
  have HR := Lib.hid hr
  clear hb hx ox hT sx ha hd hu hv hr
  go_enter Tryz.func10, Tryz.ntmps10
  go_upto_region 1 with (fail)
  generalize (w.alloc (.cells #[.string x.name, .slice x.a1 x.deps.length x.c1, .slice x.a2 x.ops.length x.c2] 25)) = wb at *
  generalize (Value.agg #[.string x.name, .slice x.a1 x.deps.length x.c1, .slice x.a2 x.ops.length x.c2]) = vx
  have CN := Lib.hid (nname_any x.name wb SX.out.name a HA.out)
  have p0 := HP.out.c0
  have p1 := HP.out.c1
  go_wp2_with fail
  refine CN.out.mono ?_
  rintro e w1 ⟨rfl, hb1⟩
  replace HP := Lib.hid (HP.out.on hb1)
  replace OX := Lib.hid (OX.out.on hb1)
  replace HT := Lib.hid (Tabs.on HT.out hb1)
  replace HB := Lib.hid (HB.out.trans (hb1.mono HB.out.size))
  clear hb1 CN p0 p1 HA
  have p0 := HP.out.c0
  have p1 := HP.out.c1
  have p2 := HP.out.c2
  cases a
  · have HF : Hid (r = 7) := HR.out.symm
    clear HR
    go_wp2
    go_ret
    exact ⟨by rw [HF.out]; rfl, HB.out⟩
  · have CC := Lib.hid (ncontains_any x.a1 x.deps x.c1 w1 OX.out.deps SX.out.few SX.out.deps d HD.out)
    go_wp2_with fail
    refine CC.out.mono ?_
    rintro e w2 ⟨rfl, hb2⟩
    replace HP := Lib.hid (HP.out.on hb2)
    replace OX := Lib.hid (OX.out.on hb2)
    replace HT := Lib.hid (Tabs.on HT.out hb2)
    replace HB := Lib.hid (HB.out.trans (hb2.mono HB.out.size))
    clear hb2 CC p0 p1 p2 HD
    have p0 := HP.out.c0
    have p1 := HP.out.c1
    have p2 := HP.out.c2
    cases d
    · have HF : Hid (r = 7) := HR.out.symm
      clear HR
      go_wp2
      go_ret
      exact ⟨by rw [HF.out]; rfl, HB.out⟩
    · have CH := Lib.hid (phung_any x w2 OX.out SX.out u HU.out)
      go_wp2_with fail
      refine CH.out.mono ?_
      rintro e w3 ⟨rfl, hb3⟩
      replace HP := Lib.hid (HP.out.on hb3)
      replace OX := Lib.hid (OX.out.on hb3)
      replace HT := Lib.hid (Tabs.on HT.out hb3)
      replace HB := Lib.hid (HB.out.trans (hb3.mono HB.out.size))
      clear hb3 CH p0 p1 p2 HU
      have p0 := HP.out.c0
      have p1 := HP.out.c1
      have p2 := HP.out.c2
      cases u
      · have HF : Hid (r = 2) := HR.out.symm
        clear HR
        go_wp2
        go_ret
        exact ⟨by rw [HF.out]; rfl, HB.out⟩
      · have CD := Lib.hid (pdone_any x w3 OX.out SX.out HT.out (HRI.out rfl) v HV.out)
        go_wp2_with fail
        refine CD.out.mono ?_
        rintro e w4 ⟨rfl, hb4⟩
        replace HB := Lib.hid (HB.out.trans (hb4.mono HB.out.size))
        clear hb4 CD p0 p1 p2 HV
        cases v
        · have HF : Hid (r = 2) := HR.out.symm
          clear HR
          go_wp2
          go_ret
          exact ⟨by rw [HF.out]; rfl, HB.out⟩
        · have HF : Hid (r = 0) := HR.out.symm
          clear HR
          go_wp2
          go_ret
          exact ⟨by rw [HF.out]; rfl, HB.out⟩
end Go.Proofs.YtoajckhfnadhjaaGreatDoor
