/- The reference's Check of layer 13. The reference's Same of layer 13. -/
import Derived.BigQuiet
import Derived.Deep.QuietTactic
import Derived.Handy
import Derived.Test.YtoajckhfnadhjaaGreatDoorCk37
namespace Go.Proofs.YtoajckhfnadhjaaGreatDoor
open Go.RowKit
set_option linter.unusedVariables false

theorem names_no {x : Ptm} (h : nameK x.name.data.toList = false) : checkP x.key = 7 := by
  unfold checkP namesP13
  rw [show x.key.name = x.name.data.toList from rfl, h]
  rfl
theorem names_no2 {x : Ptm} {t : Nat} (ht : t < x.deps.length) (h : nameK x.deps[t] = false) : checkP x.key = 7 := by
  have h2 : x.deps.all nameK = false := by
    rw [List.all_eq_false]
    exact ⟨x.deps[t], List.getElem_mem ht, by simp [h]⟩
  unfold checkP namesP13
  rw [show x.key.deps = x.deps from rfl, h2, Bool.and_false]
  rfl
theorem names_yes {x : Ptm} (h : nameK x.name.data.toList = true) (h2 : ∀ t (ht : t < x.deps.length), nameK x.deps[t] = true) : checkP x.key = if mayP x.key = true then 0 else 2 := by
  have h3 : x.deps.all nameK = true := by
    rw [List.all_eq_true]
    intro d hd
    obtain ⟨j, hj, rfl⟩ := List.getElem_of_mem hd
    exact h2 j hj
  unfold checkP namesP13
  rw [show x.key.deps = x.deps from rfl, show x.key.name = x.name.data.toList from rfl, h, h3]
  rfl
set_option maxHeartbeats 8000000 in
set_option maxRecDepth 100000 in
theorem refpcheck_any (x : Ptm) (w : World) (ox : x.Ok w w.heap.size) (sx : x.Sz) (hm : (madeP x.name.data.toList (okeys x.ops)).length ≤ 900000) (hT : Tabs w) :
    Calls Tryz.prog 9 #[x.val] w fun e w' => e = .returned (.int .i64 (checkP x.key)) ∧ Below w.heap.size w w' := by
  obtain ⟨hb, hx⟩ := pat_box w x
  have HX := Lib.hid hx
  have HF := Lib.hid hb
  have OX := Lib.hid (ox.on hb)
  have HT := Lib.hid (Tabs.on hT hb)
  have SX := Lib.hid sx
  have HM := Lib.hid hm
  have hfew := sx.few
  clear hb hx ox sx hm hT
  unfold Ptm.val Ptm.cells
  go_enter Tryz.func9, Tryz.ntmps9
  go_upto_region 1 with (fail)
  generalize (w.alloc (.cells #[.string x.name, .slice x.a1 x.deps.length x.c1, .slice x.a2 x.ops.length x.c2] 25)) = wb at *
  generalize (Value.agg #[.string x.name, .slice x.a1 x.deps.length x.c1, .slice x.a2 x.ops.length x.c2]) = vx
  have a0 := HX.out.c0
  obtain ⟨r, hr⟩ : ∃ r, nameK x.name.data.toList = r := ⟨_, rfl⟩
  have CR := Lib.hid (refnamek_any x.name wb SX.out.name r hr)
  have HR := Lib.hid hr
  clear hr
  go_wp2_with fail
  refine CR.out.mono ?_
  rintro e w1 ⟨rfl, hb1⟩
  have HG1 := Lib.hid hb1
  clear CR a0 hb1
  cases r
  · have HE := Lib.hid (names_no HR.out)
    have HFW := Lib.hid (HF.out.trans (HG1.out.mono HF.out.size))
    go_wp2
    go_ret
    exact ⟨by rw [HE.out]; rfl, HFW.out⟩
  go_wp2
  go_loopw [3] (fun iv wr => ∃ k : Nat, k ≤ x.deps.length ∧ iv = .int .i64 (k : Int) ∧ Hid (∀ t (ht : t < x.deps.length), t < k → nameK x.deps[t] = true) ∧ Hid (Below wb.heap.size wb wr)) (fun iv _ => x.deps.length - (intOf iv).toNat)
  case atStart => exact ⟨0, Nat.zero_le _, rfl, fun t _ h => absurd h (by omega), HG1.out⟩
  case round =>
    clear HG1
    obtain ⟨k, hk, rfl, HALL, HG⟩ := hrel
    have a1 := (HX.out.on HG.out).c1
    by_cases hlt : k < x.deps.length
    · have hS := (OX.out.on HG.out).deps
      obtain ⟨b, off, eA, hbB, hcs⟩ := hS.at_ (k := k) (by rw [toBs_len]; exact hlt)
      have hcell : wr.cell? ⟨b, off + k, none⟩ = some (.string (toB x.deps[k])) := by rw [hcs]; congr 2; simp [toBs]
      obtain ⟨d, hd⟩ : ∃ d, x.deps[k] = d := ⟨_, rfl⟩
      have hdl : d.length ≤ 9223372036854775807 := by rw [← hd]; exact SX.out.deps _ (List.getElem_mem hlt)
      have HD := Lib.hid hd
      rw [hd] at hcell
      obtain ⟨r, hr⟩ : ∃ r, nameK d = r := ⟨_, rfl⟩
      have CR := Lib.hid (refnamek_any (toB d) wr (by rw [toB_size]; exact hdl) r (by rw [toB_list]; exact hr))
      have HRR := Lib.hid hr
      rw [eA] at a1
      have u0 : (0 : Int) ≤ (k : Int) := by omega
      have u1 : (k : Int) < (x.deps.length : Int) := by omega
      clear hS eA hbB hcs hd hr hdl
      go_wp2_with fail
      refine CR.out.mono ?_
      rintro e w2 ⟨rfl, hb2⟩
      have HG2 := Lib.hid (HG.out.trans (hb2.mono HG.out.size))
      clear CR a1 hb2 HG hcell
      cases r
      · have HE := Lib.hid (names_no2 hlt (by rw [HD.out]; exact HRR.out))
        have HFW := Lib.hid (HF.out.trans (HG2.out.mono HF.out.size))
        go_wp2
        go_ret
        exact ⟨by rw [HE.out]; rfl, HFW.out⟩
      · have HALL2 : Hid (∀ t (ht : t < x.deps.length), t < k + 1 → nameK x.deps[t] = true) := fun t ht htk => by
          by_cases e : t = k
          · subst e
            rw [HD.out]
            exact HRR.out
          · exact HALL.out t ht (by omega)
        clear HALL
        go_wp2
        go_roundw
        case rel => exact ⟨k + 1, by omega, by go_num, HALL2.out, HG2.out⟩
        case measure => simp [intOf]; omega
    · have HE := Lib.hid (names_yes HR.out (fun t ht => HALL.out t ht (by omega)))
      have a0 := (HX.out.on HG.out).c0
      have a2 := (HX.out.on HG.out).c2
      obtain ⟨m, hmm⟩ : ∃ m, mayP x.key = m := ⟨_, rfl⟩
      have CM : Hid (Calls Tryz.prog 27 #[.agg #[.string x.name, .slice x.a1 x.deps.length x.c1, .slice x.a2 x.ops.length x.c2]] wr fun e w' => e = .returned (.bool m) ∧ Below wr.heap.size wr w') := by
        have h := refpmay_any x wr (OX.out.on HG.out) SX.out HM.out (Tabs.on HT.out HG.out)
        rw [hmm] at h
        exact h
      rw [hmm] at HE
      clear hmm HALL
      go_wp2_with fail
      refine CM.out.mono ?_
      rintro e w2 ⟨rfl, hb2⟩
      have HFW := Lib.hid (HF.out.trans ((HG.out.trans (hb2.mono HG.out.size)).mono HF.out.size))
      clear CM a0 a1 a2 hb2 HG
      cases m
      · go_wp2
        go_ret
        exact ⟨by rw [HE.out]; rfl, HFW.out⟩
      · go_wp2
        go_ret
        exact ⟨by rw [HE.out]; rfl, HFW.out⟩
end Go.Proofs.YtoajckhfnadhjaaGreatDoor
namespace Go.Proofs.YtoajckhfnadhjaaGreatDoor
open Go.RowKit
set_option linter.unusedVariables false

theorem patk_eq (x y : Ptm) : decide (x.key = y.key) = (decide (x.name = y.name) && (decide (x.deps = y.deps) && decide (okeys x.ops = okeys y.ops))) := by
  by_cases h1 : x.name = y.name
  · by_cases h2 : x.deps = y.deps
    · by_cases h3 : okeys x.ops = okeys y.ops
      · simp [Ptm.key, h1, h2, h3]
      · simp [Ptm.key, h1, h2, h3]
    · simp [Ptm.key, h1, h2]
  · have h2 : ¬ x.name.data.toList = y.name.data.toList := fun h => h1 (bytes_inj h)
    have h3 : ¬ x.key = y.key := fun h => h2 (congrArg PatK.name h)
    simp [h1, h3]
set_option maxHeartbeats 8000000 in
set_option maxRecDepth 100000 in
theorem refpsame_any (x y : Ptm) (w : World) (ox : x.Ok w w.heap.size) (oy : y.Ok w w.heap.size) (fx : x.deps.length ≤ 900000) (fy : y.deps.length ≤ 900000) (lx : OpsFew x.ops) (ly : OpsFew y.ops) (nx : x.ops.length ≤ 100000) (ny : y.ops.length ≤ 100000) (r : Bool) (hr : decide (x.key = y.key) = r) :
    Calls Tryz.prog 12 #[x.val, y.val] w fun e w' => e = .returned (.bool r) ∧ Below w.heap.size w w' := by
  rw [patk_eq] at hr
  obtain ⟨hbx, hcx⟩ := pat_box w x
  obtain ⟨hby, hcy⟩ := pat_box (w.alloc (.cells #[.string x.name, .slice x.a1 x.deps.length x.c1, .slice x.a2 x.ops.length x.c2] 25)) y
  rw [show (w.alloc (.cells #[.string x.name, .slice x.a1 x.deps.length x.c1, .slice x.a2 x.ops.length x.c2] 25)).heap.size = w.heap.size + 1 by simp] at hcy
  have hb := hbx.trans (hby.mono hbx.size)
  have HX := Lib.hid (hcx.on hby)
  have HY := Lib.hid hcy
  have OX := Lib.hid (ox.on hb)
  have OY := Lib.hid (oy.on hb)
  have HB := Lib.hid hb
  have LX := Lib.hid lx
  have LY := Lib.hid ly
  clear hbx hcx hby hcy hb ox oy lx ly
  unfold Ptm.val Ptm.cells
  go_enter Tryz.func12, Tryz.ntmps12
  go_upto_region 1 with (fail)
  generalize ((w.alloc (.cells #[.string x.name, .slice x.a1 x.deps.length x.c1, .slice x.a2 x.ops.length x.c2] 25)).alloc (.cells #[.string y.name, .slice y.a1 y.deps.length y.c1, .slice y.a2 y.ops.length y.c2] 25)) = wb at *
  generalize (Value.agg #[.string x.name, .slice x.a1 x.deps.length x.c1, .slice x.a2 x.ops.length x.c2]) = vx
  generalize (Value.agg #[.string y.name, .slice y.a1 y.deps.length y.c1, .slice y.a2 y.ops.length y.c2]) = vy
  have x0 := HX.out.c0
  have y0 := HY.out.c0
  by_cases hn : x.name = y.name
  · rw [decide_eq_true hn, Bool.true_and] at hr
    rw [hn] at x0
    have q := str_eqb y.name
    have x1 := HX.out.c1
    have y1 := HY.out.c1
    obtain ⟨r1, hr1⟩ : ∃ r1, decide (x.deps = y.deps) = r1 := ⟨_, rfl⟩
    obtain ⟨r2, hr2⟩ : ∃ r2, decide (okeys x.ops = okeys y.ops) = r2 := ⟨_, rfl⟩
    rw [hr1, hr2] at hr
    have C1 := Lib.hid (refsamek_any x.a1 y.a1 x.deps y.deps x.c1 y.c1 wb OX.out.deps OY.out.deps fx fy r1 hr1)
    have HR2 := Lib.hid hr2
    clear hn hr1 hr2
    go_wp2_with fail
    refine C1.out.mono ?_
    rintro e w1 ⟨rfl, hb1⟩
    replace HX := Lib.hid (HX.out.on hb1)
    replace HY := Lib.hid (HY.out.on hb1)
    replace OX := Lib.hid (OX.out.on hb1)
    replace OY := Lib.hid (OY.out.on hb1)
    replace HB := Lib.hid (HB.out.trans (hb1.mono HB.out.size))
    clear hb1 C1 x0 y0 x1 y1 q
    cases r1
    · go_wp2
      go_ret
      exact ⟨by rw [← hr]; rfl, HB.out⟩
    · rw [Bool.true_and] at hr
      subst hr
      have x2 := HX.out.c2
      have y2 := HY.out.c2
      have C2 := Lib.hid (refosame_any x.a2 y.a2 x.ops y.ops x.c2 y.c2 w1 OX.out.ops OY.out.ops LX.out LY.out nx ny r2 HR2.out)
      go_wp2_with fail
      refine C2.out.mono ?_
      rintro e w2 ⟨rfl, hb2⟩
      have HF := Lib.hid (HB.out.trans (hb2.mono HB.out.size))
      clear hb2 C2 HB HX HY OX OY x2 y2
      go_wp2
      go_ret
      exact ⟨rfl, HF.out⟩
  · rw [decide_eq_false hn, Bool.false_and] at hr
    have q := str_ne hn
    subst hr
    clear hn
    go_wp2
    go_ret
    exact ⟨rfl, HB.out⟩
end Go.Proofs.YtoajckhfnadhjaaGreatDoor
