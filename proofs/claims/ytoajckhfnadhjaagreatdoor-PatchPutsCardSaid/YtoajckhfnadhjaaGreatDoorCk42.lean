/- PatchPuts: the bytes of any patch. -/
import Derived.BigQuiet
import Derived.Deep.QuietTactic
import Derived.Handy
import Derived.Deep.CutRange
import Derived.Deep.RegionHeld
import Derived.Test.YtoajckhfnadhjaaGreatDoorCk38
import Derived.Test.YtoajckhfnadhjaaGreatDoorCk39
namespace Go.Proofs.YtoajckhfnadhjaaGreatDoor
open Go.RowKit
set_option linter.unusedVariables false

theorem got_patch {x z : Ptm} {er : Int} (hc : checkP x.key = 0) (hd : x.deps.length ≤ 9223372036854775807) (hz : z.deps.length ≤ 9223372036854775807) (h : GotP (toB (putP x.key)) z er) : er = 0 ∧ z.key = x.key := by
  have e : er = 0 := Decidable.byContradiction fun hne => (h.2 hne).2 x.key hd hc rfl
  obtain ⟨h1, h2⟩ := h.1 e
  refine ⟨e, putP_inj h1 hc hz hd ?_⟩
  have h3 := congrArg (fun b : ByteArray => b.data.toList) h2
  simpa [toB_list] using h3
set_option maxHeartbeats 8000000 in
set_option maxRecDepth 100000 in
theorem patputs_any (c : PatC) (aw : AwP) (x q : Ptm) (w : World) (ox : x.Ok w w.heap.size) (oq : q.Ok w w.heap.size) (ix : x.In) (iq : q.In) (hT : Tabs w) (hN : Nums w) : Calls Tryz.prog 3 #[x.val, q.val] w fun e w' => e = .returned (.bool true) ∧ Below w.heap.size w w' := by
  have HAW := Lib.hid (fun W (hT : Tabs W) (hN : Nums W) => aw W hT hN)
  obtain ⟨hbx, hcx⟩ := pat_box w x
  obtain ⟨hbq, hcq⟩ := pat_box (w.alloc (.cells #[.string x.name, .slice x.a1 x.deps.length x.c1, .slice x.a2 x.ops.length x.c2] 25)) q
  have hb2 := hbx.trans (hbq.mono hbx.size)
  have HX := Lib.hid (hcx.on hbq)
  have HQ := Lib.hid hcq
  rw [show (w.alloc (.cells #[.string x.name, .slice x.a1 x.deps.length x.c1, .slice x.a2 x.ops.length x.c2] 25)).heap.size = w.heap.size + 1 by simp] at HQ
  have OX := Lib.hid (ox.on hb2)
  have OQ := Lib.hid (oq.on hb2)
  have HT := Lib.hid (Tabs.on hT hb2)
  have HN := Lib.hid (hN.on hb2)
  have HB := Lib.hid hb2
  have IX := Lib.hid ix
  have IQ := Lib.hid iq
  unfold Ptm.val Ptm.cells
  clear hbx hcx hbq hcq hb2 hT hN ox oq ix iq
  go_enter Tryz.func3, Tryz.ntmps3
  go_upto_region 1 with (fail)
  generalize ((w.alloc (.cells #[.string x.name, .slice x.a1 x.deps.length x.c1, .slice x.a2 x.ops.length x.c2] 25)).alloc (.cells #[.string q.name, .slice q.a1 q.deps.length q.c1, .slice q.a2 q.ops.length q.c2] 25)) = wb at *
  generalize hgx : w.heap.size = gx at *
  generalize hgq : gx + 1 = gq at *
  have HGX := Lib.hid hgx
  clear hgx hgq
  generalize (Value.agg #[.string x.name, .slice x.a1 x.deps.length x.c1, .slice x.a2 x.ops.length x.c2]) = vx
  generalize (Value.agg #[.string q.name, .slice q.a1 q.deps.length q.c1, .slice q.a2 q.ops.length q.c2]) = vq
  have CL := Lib.hid (light13_any x wb OX.out IX.out)
  have x0 := HX.out.c0
  have x1 := HX.out.c1
  have x2 := HX.out.c2
  -- @P1
  unfold Ptm.val Ptm.cells at CL
  go_wp2_with fail
  refine CL.out.mono ?_
  rintro e w1 ⟨rx, rfl, hlx, hb⟩
  have HLX := Lib.hid hlx.out
  replace HB := Lib.hid (HB.out.trans (hb.mono (by have h := HB.out.size; rw [HGX.out] at h; exact h)))
  replace HX := Lib.hid (HX.out.on hb)
  replace HQ := Lib.hid (HQ.out.on hb)
  replace OX := Lib.hid (OX.out.on hb)
  replace OQ := Lib.hid (OQ.out.on hb)
  replace HT := Lib.hid (Tabs.on HT.out hb)
  replace HN := Lib.hid (HN.out.on hb)
  clear hlx hb CL x0 x1 x2
  cases rx
  · go_wp2_with fail
    refine (HAW.out _ HT.out HN.out).mono ?_
    rintro e wz ⟨rfl, hb⟩
    have HF := Lib.hid (HB.out.trans (hb.mono (by have h := HB.out.size; rw [HGX.out] at h; exact h)))
    clear hb HAW HT HN HX HQ OX OQ
    go_wp2
    go_ret
    exact ⟨rfl, by rw [HGX.out]; exact HF.out⟩
  have LX := Lib.hid (HLX.out rfl)
  clear HLX
  have CL := Lib.hid (light13_any q w1 OQ.out IQ.out)
  have y0 := HQ.out.c0
  have y1 := HQ.out.c1
  have y2 := HQ.out.c2
  unfold Ptm.val Ptm.cells at CL
  go_wp2_with fail
  refine CL.out.mono ?_
  rintro e w2 ⟨rq, rfl, hlq, hb⟩
  have HLQ := Lib.hid hlq.out
  replace HB := Lib.hid (HB.out.trans (hb.mono (by have h := HB.out.size; rw [HGX.out] at h; exact h)))
  replace HX := Lib.hid (HX.out.on hb)
  replace HQ := Lib.hid (HQ.out.on hb)
  replace OX := Lib.hid (OX.out.on hb)
  replace OQ := Lib.hid (OQ.out.on hb)
  replace HT := Lib.hid (Tabs.on HT.out hb)
  replace HN := Lib.hid (HN.out.on hb)
  clear hlq hb CL y0 y1 y2
  cases rq
  · go_wp2_with fail
    refine (HAW.out _ HT.out HN.out).mono ?_
    rintro e wz ⟨rfl, hb⟩
    have HF := Lib.hid (HB.out.trans (hb.mono (by have h := HB.out.size; rw [HGX.out] at h; exact h)))
    clear hb HAW HT HN HX HQ OX OQ
    go_wp2
    go_ret
    exact ⟨rfl, by rw [HGX.out]; exact HF.out⟩
  have LQ := Lib.hid (HLQ.out rfl)
  clear HLQ
  have CP := Lib.hid (c.put x w2 OX.out LX.out IX.out HT.out HN.out)
  have x0 := HX.out.c0
  have x1 := HX.out.c1
  have x2 := HX.out.c2
  unfold Ptm.val Ptm.cells at CP
  -- @P2
  go_wp2_with fail
  refine CP.out.mono ?_
  rintro e w3 ⟨s, er, rfl, hse, hb⟩
  have HSE := Lib.hid hse.out
  replace HB := Lib.hid (HB.out.trans (hb.mono (by have h := HB.out.size; rw [HGX.out] at h; exact h)))
  replace HX := Lib.hid (HX.out.on hb)
  replace HQ := Lib.hid (HQ.out.on hb)
  replace OX := Lib.hid (OX.out.on hb)
  replace OQ := Lib.hid (OQ.out.on hb)
  replace HT := Lib.hid (Tabs.on HT.out hb)
  replace HN := Lib.hid (HN.out.on hb)
  clear hse hb CP x0 x1 x2
  obtain ⟨want, hwant⟩ : ∃ k, checkP x.key = k := ⟨_, rfl⟩
  have HWA := Lib.hid hwant
  obtain ⟨sx, mx, fx⟩ := light_fit LX.out IX.out
  have SX := Lib.hid sx
  have MX := Lib.hid mx
  have FX := Lib.hid fx
  have FQ := Lib.hid (light_fit LQ.out IQ.out).2.2
  clear hwant sx mx fx
  have CC : Hid (Calls Tryz.prog 9 #[.agg #[.string x.name, .slice x.a1 x.deps.length x.c1, .slice x.a2 x.ops.length x.c2]] w3 fun e w' => e = .returned (.int .i64 want) ∧ Below w3.heap.size w3 w') := by
    have h := refpcheck_any x w3 OX.out SX.out MX.out HT.out
    rw [HWA.out] at h
    exact h
  have x0 := HX.out.c0
  have x1 := HX.out.c1
  have x2 := HX.out.c2
  go_wp2_with fail
  refine CC.out.mono ?_
  rintro e w4 ⟨rfl, hb⟩
  replace HB := Lib.hid (HB.out.trans (hb.mono (by have h := HB.out.size; rw [HGX.out] at h; exact h)))
  replace HX := Lib.hid (HX.out.on hb)
  replace HQ := Lib.hid (HQ.out.on hb)
  replace OX := Lib.hid (OX.out.on hb)
  replace OQ := Lib.hid (OQ.out.on hb)
  replace HT := Lib.hid (Tabs.on HT.out hb)
  replace HN := Lib.hid (HN.out.on hb)
  clear hb CC x0 x1 x2
  -- @P3
  go_upto_region 5 with (fail)
  go_cut [45] from 26 to 45 (fun v wx => v = .bool false ∧ Hid (Below w4.heap.size w4 wx))
  case first =>
    obtain ⟨sm, hsm⟩ : ∃ b, decide (x.key = q.key) = b := ⟨_, rfl⟩
    have CK : Hid (∀ W, Below w4.heap.size w4 W → Calls Tryz.prog 10 #[.agg #[.string x.name, .slice x.a1 x.deps.length x.c1, .slice x.a2 x.ops.length x.c2]] W fun e w' => e = .returned (.int .i64 want) ∧ Below W.heap.size W w') := fun W hW => by
      have h := c.check x W (OX.out.on hW) LX.out IX.out (Tabs.on HT.out hW) (HN.out.on hW)
      rw [HWA.out] at h
      exact h
    have C7 : Hid (∀ W, Below w4.heap.size w4 W → Calls Tryz.prog 11 #[.agg #[.string x.name, .slice x.a1 x.deps.length x.c1, .slice x.a2 x.ops.length x.c2], .agg #[.string q.name, .slice q.a1 q.deps.length q.c1, .slice q.a2 q.ops.length q.c2]] W fun e w' => e = .returned (.bool sm) ∧ Below W.heap.size W w') := fun W hW => by
      have h := c.same x q W (OX.out.on hW) (OQ.out.on hW) LX.out LQ.out IX.out IQ.out
      rw [hsm] at h
      exact h
    have C10 : Hid (∀ W, Below w4.heap.size w4 W → Calls Tryz.prog 12 #[.agg #[.string x.name, .slice x.a1 x.deps.length x.c1, .slice x.a2 x.ops.length x.c2], .agg #[.string q.name, .slice q.a1 q.deps.length q.c1, .slice q.a2 q.ops.length q.c2]] W fun e w' => e = .returned (.bool sm) ∧ Below W.heap.size W w') := fun W hW =>
      refpsame_any x q W (OX.out.on hW) (OQ.out.on hW) (by have := LX.out.few; omega) (by have := LQ.out.few; omega) FX.out FQ.out (by have := LX.out.many; omega) (by have := LQ.out.many; omega) sm hsm
    have C15 : Hid (∀ W, Below w4.heap.size w4 W → Calls Tryz.prog 13 #[.agg #[.string x.name, .slice x.a1 x.deps.length x.c1, .slice x.a2 x.ops.length x.c2]] W fun e w' => ∃ z : Ptm, e = .returned z.val ∧ Hid (z.key = x.key) ∧ z.Ok w' w'.heap.size ∧ Hid (OpsFew z.ops) ∧ Below W.heap.size W w') := fun W hW => c.copy x W (OX.out.on hW) LX.out IX.out
    clear hsm HT HN HSE
    have HDR : Hid (Below w4.heap.size w4 w4.drew) := (Below.refl _ _).drew
    refine wp_region_noPanic ?_
    refine wp_region_held_drew (S := fun W => Below w4.heap.size w4 W) (by kernel_rfl) HDR.out (fun hHeld => ?_)
    refine wpAnyH_take (i := 0) (oi := { dst := some 26, op := _, type := _, pos := _, after := _, guard := _ }) (v := .agg #[.string x.name, .slice x.a1 x.deps.length x.c1, .slice x.a2 x.ops.length x.c2]) rfl (by kernel_rfl) (by kernel_rfl) (by kernel_rfl) (fun _ _ _ h => h) (Or.inl ⟨by rfl, fun w' hSw => ?_⟩) (by assumption) ?_
    · dsimp only at hSw
      have x0 := (HX.out.on hSw).c0
      have x1 := (HX.out.on hSw).c1
      have x2 := (HX.out.on hSw).c2
      have y0 := (HQ.out.on hSw).c0
      have y1 := (HQ.out.on hSw).c1
      have y2 := (HQ.out.on hSw).c2
      go_simp
    try simp only [Act.put, List.setIfInBounds_toArray, List.set_cons_zero, List.set_cons_succ]
    refine wpAnyH_take (i := 2) (oi := { dst := some 28, op := _, type := _, pos := _, after := _, guard := _ }) (v := .int .i64 want) rfl (by kernel_rfl) (by kernel_rfl) (by kernel_rfl) (fun _ _ _ h => h) (Or.inl ⟨by rfl, fun w' hSw => ?_⟩) (by assumption) ?_
    · dsimp only at hSw
      have x0 := (HX.out.on hSw).c0
      have x1 := (HX.out.on hSw).c1
      have x2 := (HX.out.on hSw).c2
      have y0 := (HQ.out.on hSw).c0
      have y1 := (HQ.out.on hSw).c1
      have y2 := (HQ.out.on hSw).c2
      go_simp
    try simp only [Act.put, List.setIfInBounds_toArray, List.set_cons_zero, List.set_cons_succ]
    have XD := Lib.hid HDR.out
    generalize hwD : w4.drew = wD at *
    clear hwD HDR
    refine wpAnyH_ready (rs := [1]) (by kernel_rfl) (by simp) ?_
    refine AllReadyH.cons rfl (fun K hK => ?_) AllReadyH.nil
    go_simp
    go_at_call 10
    refine (CK.out _ XD.out).mono ?_
    rintro e v1 ⟨rfl, hb⟩
    have X1 := Lib.hid (XD.out.trans (hb.mono XD.out.size))
    clear hb
    refine hK.out _ _ X1.out (fun hHeld1 => ?_)
    clear hK K hHeld
    try simp only [Act.put, List.setIfInBounds_toArray, List.set_cons_zero, List.set_cons_succ]
    refine wpAnyH_take (i := 3) (oi := { dst := some 29, op := _, type := _, pos := _, after := _, guard := _ }) (v := .bool false) rfl (by kernel_rfl) (by kernel_rfl) (by kernel_rfl) (fun _ _ _ h => h) (Or.inl ⟨by rfl, fun w' hSw => ?_⟩) (by assumption) ?_
    · dsimp only at hSw
      have x0 := (HX.out.on hSw).c0
      have x1 := (HX.out.on hSw).c1
      have x2 := (HX.out.on hSw).c2
      have y0 := (HQ.out.on hSw).c0
      have y1 := (HQ.out.on hSw).c1
      have y2 := (HQ.out.on hSw).c2
      go_simp
    try simp only [Act.put, List.setIfInBounds_toArray, List.set_cons_zero, List.set_cons_succ]
    refine wpAnyH_take (i := 4) (oi := { dst := some 30, op := _, type := _, pos := _, after := _, guard := _ }) (v := .bool false) rfl (by kernel_rfl) (by kernel_rfl) (by kernel_rfl) (fun _ _ _ h => h) (Or.inl ⟨by rfl, fun w' hSw => ?_⟩) (by assumption) ?_
    · dsimp only at hSw
      have x0 := (HX.out.on hSw).c0
      have x1 := (HX.out.on hSw).c1
      have x2 := (HX.out.on hSw).c2
      have y0 := (HQ.out.on hSw).c0
      have y1 := (HQ.out.on hSw).c1
      have y2 := (HQ.out.on hSw).c2
      go_simp
    try simp only [Act.put, List.setIfInBounds_toArray, List.set_cons_zero, List.set_cons_succ]
    refine wpAnyH_take (i := 5) (oi := { dst := some 31, op := _, type := _, pos := _, after := _, guard := _ }) (v := .agg #[.string x.name, .slice x.a1 x.deps.length x.c1, .slice x.a2 x.ops.length x.c2]) rfl (by kernel_rfl) (by kernel_rfl) (by kernel_rfl) (fun _ _ _ h => h) (Or.inl ⟨by rfl, fun w' hSw => ?_⟩) (by assumption) ?_
    · dsimp only at hSw
      have x0 := (HX.out.on hSw).c0
      have x1 := (HX.out.on hSw).c1
      have x2 := (HX.out.on hSw).c2
      have y0 := (HQ.out.on hSw).c0
      have y1 := (HQ.out.on hSw).c1
      have y2 := (HQ.out.on hSw).c2
      go_simp
    try simp only [Act.put, List.setIfInBounds_toArray, List.set_cons_zero, List.set_cons_succ]
    refine wpAnyH_take (i := 6) (oi := { dst := some 32, op := _, type := _, pos := _, after := _, guard := _ }) (v := .agg #[.string q.name, .slice q.a1 q.deps.length q.c1, .slice q.a2 q.ops.length q.c2]) rfl (by kernel_rfl) (by kernel_rfl) (by kernel_rfl) (fun _ _ _ h => h) (Or.inl ⟨by rfl, fun w' hSw => ?_⟩) (by assumption) ?_
    · dsimp only at hSw
      have x0 := (HX.out.on hSw).c0
      have x1 := (HX.out.on hSw).c1
      have x2 := (HX.out.on hSw).c2
      have y0 := (HQ.out.on hSw).c0
      have y1 := (HQ.out.on hSw).c1
      have y2 := (HQ.out.on hSw).c2
      go_simp
    try simp only [Act.put, List.setIfInBounds_toArray, List.set_cons_zero, List.set_cons_succ]
    refine wpAnyH_take (i := 8) (oi := { dst := some 34, op := _, type := _, pos := _, after := _, guard := _ }) (v := .agg #[.string x.name, .slice x.a1 x.deps.length x.c1, .slice x.a2 x.ops.length x.c2]) rfl (by kernel_rfl) (by kernel_rfl) (by kernel_rfl) (fun _ _ _ h => h) (Or.inl ⟨by rfl, fun w' hSw => ?_⟩) (by assumption) ?_
    · dsimp only at hSw
      have x0 := (HX.out.on hSw).c0
      have x1 := (HX.out.on hSw).c1
      have x2 := (HX.out.on hSw).c2
      have y0 := (HQ.out.on hSw).c0
      have y1 := (HQ.out.on hSw).c1
      have y2 := (HQ.out.on hSw).c2
      go_simp
    try simp only [Act.put, List.setIfInBounds_toArray, List.set_cons_zero, List.set_cons_succ]
    refine wpAnyH_take (i := 9) (oi := { dst := some 35, op := _, type := _, pos := _, after := _, guard := _ }) (v := .agg #[.string q.name, .slice q.a1 q.deps.length q.c1, .slice q.a2 q.ops.length q.c2]) rfl (by kernel_rfl) (by kernel_rfl) (by kernel_rfl) (fun _ _ _ h => h) (Or.inl ⟨by rfl, fun w' hSw => ?_⟩) (by assumption) ?_
    · dsimp only at hSw
      have x0 := (HX.out.on hSw).c0
      have x1 := (HX.out.on hSw).c1
      have x2 := (HX.out.on hSw).c2
      have y0 := (HQ.out.on hSw).c0
      have y1 := (HQ.out.on hSw).c1
      have y2 := (HQ.out.on hSw).c2
      go_simp
    try simp only [Act.put, List.setIfInBounds_toArray, List.set_cons_zero, List.set_cons_succ]
    refine wpAnyH_ready (rs := [7]) (by kernel_rfl) (by simp) ?_
    refine AllReadyH.cons rfl (fun K hK => ?_) AllReadyH.nil
    go_simp
    go_at_call 11
    refine (C7.out _ X1.out).mono ?_
    rintro e v2 ⟨rfl, hb⟩
    have X2 := Lib.hid (X1.out.trans (hb.mono X1.out.size))
    clear hb
    refine hK.out _ _ X2.out (fun hHeld7 => ?_)
    clear hK K hHeld1
    try simp only [Act.put, List.setIfInBounds_toArray, List.set_cons_zero, List.set_cons_succ]
    refine wpAnyH_ready (rs := [10]) (by kernel_rfl) (by simp) ?_
    refine AllReadyH.cons rfl (fun K hK => ?_) AllReadyH.nil
    go_simp
    go_at_call 12
    refine (C10.out _ X2.out).mono ?_
    rintro e v3 ⟨rfl, hb⟩
    have X3 := Lib.hid (X2.out.trans (hb.mono X2.out.size))
    clear hb
    refine hK.out _ _ X3.out (fun hHeld10 => ?_)
    clear hK K hHeld7
    try simp only [Act.put, List.setIfInBounds_toArray, List.set_cons_zero, List.set_cons_succ]
    refine wpAnyH_take (i := 11) (oi := { dst := some 37, op := _, type := _, pos := _, after := _, guard := _ }) (v := .bool false) rfl (by kernel_rfl) (by kernel_rfl) (by kernel_rfl) (fun _ _ _ h => h) (Or.inl ⟨by rfl, fun w' hSw => ?_⟩) (by assumption) ?_
    · dsimp only at hSw
      have x0 := (HX.out.on hSw).c0
      have x1 := (HX.out.on hSw).c1
      have x2 := (HX.out.on hSw).c2
      have y0 := (HQ.out.on hSw).c0
      have y1 := (HQ.out.on hSw).c1
      have y2 := (HQ.out.on hSw).c2
      go_simp
    try simp only [Act.put, List.setIfInBounds_toArray, List.set_cons_zero, List.set_cons_succ]
    refine wpAnyH_take (i := 12) (oi := { dst := some 38, op := _, type := _, pos := _, after := _, guard := _ }) (v := .bool false) rfl (by kernel_rfl) (by kernel_rfl) (by kernel_rfl) (fun _ _ _ h => h) (Or.inl ⟨by rfl, fun w' hSw => ?_⟩) (by assumption) ?_
    · dsimp only at hSw
      have x0 := (HX.out.on hSw).c0
      have x1 := (HX.out.on hSw).c1
      have x2 := (HX.out.on hSw).c2
      have y0 := (HQ.out.on hSw).c0
      have y1 := (HQ.out.on hSw).c1
      have y2 := (HQ.out.on hSw).c2
      go_simp
    try simp only [Act.put, List.setIfInBounds_toArray, List.set_cons_zero, List.set_cons_succ]
    refine wpAnyH_take (i := 13) (oi := { dst := some 39, op := _, type := _, pos := _, after := _, guard := _ }) (v := .bool false) rfl (by kernel_rfl) (by kernel_rfl) (by kernel_rfl) (fun _ _ _ h => h) (Or.inl ⟨by rfl, fun w' hSw => ?_⟩) (by assumption) ?_
    · dsimp only at hSw
      have x0 := (HX.out.on hSw).c0
      have x1 := (HX.out.on hSw).c1
      have x2 := (HX.out.on hSw).c2
      have y0 := (HQ.out.on hSw).c0
      have y1 := (HQ.out.on hSw).c1
      have y2 := (HQ.out.on hSw).c2
      go_simp
    try simp only [Act.put, List.setIfInBounds_toArray, List.set_cons_zero, List.set_cons_succ]
    refine wpAnyH_take (i := 14) (oi := { dst := some 40, op := _, type := _, pos := _, after := _, guard := _ }) (v := .agg #[.string x.name, .slice x.a1 x.deps.length x.c1, .slice x.a2 x.ops.length x.c2]) rfl (by kernel_rfl) (by kernel_rfl) (by kernel_rfl) (fun _ _ _ h => h) (Or.inl ⟨by rfl, fun w' hSw => ?_⟩) (by assumption) ?_
    · dsimp only at hSw
      have x0 := (HX.out.on hSw).c0
      have x1 := (HX.out.on hSw).c1
      have x2 := (HX.out.on hSw).c2
      have y0 := (HQ.out.on hSw).c0
      have y1 := (HQ.out.on hSw).c1
      have y2 := (HQ.out.on hSw).c2
      go_simp
    try simp only [Act.put, List.setIfInBounds_toArray, List.set_cons_zero, List.set_cons_succ]
    refine wpAnyH_take (i := 16) (oi := { dst := some 42, op := _, type := _, pos := _, after := _, guard := _ }) (v := .agg #[.string x.name, .slice x.a1 x.deps.length x.c1, .slice x.a2 x.ops.length x.c2]) rfl (by kernel_rfl) (by kernel_rfl) (by kernel_rfl) (fun _ _ _ h => h) (Or.inl ⟨by rfl, fun w' hSw => ?_⟩) (by assumption) ?_
    · dsimp only at hSw
      have x0 := (HX.out.on hSw).c0
      have x1 := (HX.out.on hSw).c1
      have x2 := (HX.out.on hSw).c2
      have y0 := (HQ.out.on hSw).c0
      have y1 := (HQ.out.on hSw).c1
      have y2 := (HQ.out.on hSw).c2
      go_simp
    try simp only [Act.put, List.setIfInBounds_toArray, List.set_cons_zero, List.set_cons_succ]
    refine wpAnyH_ready (rs := [15]) (by kernel_rfl) (by simp) ?_
    refine AllReadyH.cons rfl (fun K hK => ?_) AllReadyH.nil
    go_simp
    go_at_call 13
    refine (C15.out _ X3.out).mono ?_
    rintro e v4 ⟨y, rfl, hyk, hyo, hyf, hb⟩
    have X4 := Lib.hid (X3.out.trans (hb.mono X3.out.size))
    have HYO := Lib.hid hyo
    clear hb
    refine hK.out _ _ X4.out (fun hHeld15 => ?_)
    clear hK K hHeld10
    try simp only [Act.put, List.setIfInBounds_toArray, List.set_cons_zero, List.set_cons_succ]
    have HYK := Lib.hid hyk.out
    have HYF := Lib.hid hyf.out
    have HYD : Hid (y.deps.length ≤ 60 ∧ y.ops.length ≤ 30) := by
      show _ ∧ _
      have h1 := congrArg (fun k : PatK => k.deps.length) HYK.out
      have h2 := congrArg (fun k : PatK => k.ops.length) HYK.out
      have h3 := LX.out.few
      have h4 := LX.out.many
      simp only [Ptm.key, okeys_len] at h1 h2
      omega
    clear hyk hyo hyf
    unfold Ptm.val Ptm.cells
    refine wpAnyH_ready (rs := [17]) (by kernel_rfl) (by simp) ?_
    refine AllReadyH.cons rfl (fun K hK => ?_) AllReadyH.nil
    go_simp
    go_at_call 12
    refine (refpsame_any y x v4 HYO.out (OX.out.on X4.out) (by have := HYD.out.1; omega) (by have := LX.out.few; omega) HYF.out FX.out (by have := HYD.out.2; omega) (by have := LX.out.many; omega) true (decide_eq_true HYK.out)).mono ?_
    rintro e v5 ⟨rfl, hb⟩
    have X5 := Lib.hid (X4.out.trans (hb.mono X4.out.size))
    clear hb
    refine hK.out _ _ X5.out (fun hHeld17 => ?_)
    clear hK K hHeld15
    try simp only [Act.put, List.setIfInBounds_toArray, List.set_cons_zero, List.set_cons_succ]
    refine wpAnyH_take (i := 18) (oi := { dst := some 44, op := _, type := _, pos := _, after := _, guard := _ }) (v := .bool false) rfl (by kernel_rfl) (by kernel_rfl) (by kernel_rfl) (fun _ _ _ h => h) (Or.inl ⟨by rfl, fun w' hSw => ?_⟩) (by assumption) ?_
    · dsimp only at hSw
      have x0 := (HX.out.on hSw).c0
      have x1 := (HX.out.on hSw).c1
      have x2 := (HX.out.on hSw).c2
      have y0 := (HQ.out.on hSw).c0
      have y1 := (HQ.out.on hSw).c1
      have y2 := (HQ.out.on hSw).c2
      go_simp
    try simp only [Act.put, List.setIfInBounds_toArray, List.set_cons_zero, List.set_cons_succ]
    refine wpAnyH_take (i := 19) (oi := { dst := some 45, op := _, type := _, pos := _, after := _, guard := _ }) (v := .bool false) rfl (by kernel_rfl) (by kernel_rfl) (by kernel_rfl) (fun _ _ _ h => h) (Or.inl ⟨by rfl, fun w' hSw => ?_⟩) (by assumption) ?_
    · dsimp only at hSw
      have x0 := (HX.out.on hSw).c0
      have x1 := (HX.out.on hSw).c1
      have x2 := (HX.out.on hSw).c2
      have y0 := (HQ.out.on hSw).c0
      have y1 := (HQ.out.on hSw).c1
      have y2 := (HQ.out.on hSw).c2
      go_simp
    try simp only [Act.put, List.setIfInBounds_toArray, List.set_cons_zero, List.set_cons_succ]
    refine wpAnyH_done (by kernel_rfl) ?_ _
    refine NoPanic.normal ?_
    go_wp2_with fail
    go_meet
    case rel => exact ⟨rfl, X5.out⟩
  case rest =>
    obtain ⟨rfl, hcb⟩ := hcut
    have hb := hcb.out
    replace HB := Lib.hid (HB.out.trans (hb.mono (by have h := HB.out.size; rw [HGX.out] at h; exact h)))
    replace HX := Lib.hid (HX.out.on hb)
    replace OX := Lib.hid (OX.out.on hb)
    replace HT := Lib.hid (Tabs.on HT.out hb)
    replace HN := Lib.hid (HN.out.on hb)
    clear hb hcb HQ OQ LQ IQ FQ
    -- @P4
    by_cases hz : want = 0
    · obtain ⟨hs, rfl⟩ := HSE.out.1 (by rw [HWA.out]; exact hz)
      subst hz
      have HS := Lib.hid hs.symm
      have hbytes := light_bytes LX.out HWA.out
      have HFIT := Lib.hid (pat_fit HWA.out hbytes (by have := LX.out.few; omega))
      have CG := Lib.hid (fun W hT hN => c.get s W (by rw [hs, toB_size]; exact hbytes) hT hN)
      clear hs hbytes HSE
      go_wp2_with fail
      refine (CG.out _ HT.out HN.out).mono ?_
      rintro e w5 ⟨z, er, rfl, hgot, hzok, hb⟩
      have hzd : z.deps.length ≤ 9223372036854775807 := by
        by_cases e0 : er = 0
        · have h := hgot.out.1 e0
          have hby : (putP z.key).length ≤ 500000 := by rw [← toB_size, h.2, ← HS.out, toB_size]; exact light_bytes LX.out HWA.out
          have h2 := deps_le z.key
          have e2 : z.key.deps.length = z.deps.length := rfl
          omega
        · rw [(hgot.out.2 e0).1]
          decide
      obtain ⟨rfl, hzk⟩ := got_patch HWA.out (by have := LX.out.few; omega) hzd (by rw [HS.out]; exact hgot.out)
      have HZK := Lib.hid hzk
      have hzc : checkP z.key = 0 := by rw [hzk]; exact HWA.out
      have HZF := Lib.hid (pat_fit hzc (by rw [hzk]; exact light_bytes LX.out HWA.out) (by have h := congrArg (fun k : PatK => k.deps.length) hzk; have h2 := LX.out.few; simp only [Ptm.key] at h; omega))
      have hbz := pat_box w5 z
      have hb6 := hb.trans (hbz.1.mono hb.size)
      replace HX := Lib.hid (HX.out.on hb6)
      replace OX := Lib.hid (OX.out.on hb6)
      replace HT := Lib.hid (Tabs.on HT.out hb6)
      replace HN := Lib.hid (HN.out.on hb6)
      have HZ := Lib.hid hbz.2
      have HZO := Lib.hid (hzok.on hbz.1)
      replace HB := Lib.hid (HB.out.trans (hb6.mono (by have h := HB.out.size; rw [HGX.out] at h; exact h)))
      unfold Ptm.val Ptm.cells
      clear hgot hzok hb hbz hb6 CG hzk hzc hzd
      go_upto_region 10 with (fail)
      generalize (w5.alloc (.cells #[.string z.name, .slice z.a1 z.deps.length z.c1, .slice z.a2 z.ops.length z.c2] 25)) = w6 at *
      generalize hgz : w5.heap.size = gz at *
      clear hgz
      -- @P6
      go_wp2_with fail
      refine (HAW.out _ HT.out HN.out).mono ?_
      rintro e w7 ⟨rfl, hb⟩
      replace HB := Lib.hid (HB.out.trans (hb.mono (by have h := HB.out.size; rw [HGX.out] at h; exact h)))
      replace HX := Lib.hid (HX.out.on hb)
      replace OX := Lib.hid (OX.out.on hb)
      replace HZ := Lib.hid (HZ.out.on hb)
      replace HZO := Lib.hid (HZO.out.on hb)
      clear hb HAW HT HN
      have x0 := HX.out.c0
      have x1 := HX.out.c1
      have x2 := HX.out.c2
      have CP : Hid (Calls Tryz.prog 15 #[.agg #[.string x.name, .slice x.a1 x.deps.length x.c1, .slice x.a2 x.ops.length x.c2]] w7 fun e w' => e = .returned (.string s) ∧ Below w7.heap.size w7 w') := by
        have h := refpput_any x w7 OX.out HFIT.out.pu
        rw [HS.out] at h
        exact h
      go_wp2_with fail
      refine CP.out.mono ?_
      rintro e w8 ⟨rfl, hb⟩
      replace HB := Lib.hid (HB.out.trans (hb.mono (by have h := HB.out.size; rw [HGX.out] at h; exact h)))
      replace HX := Lib.hid (HX.out.on hb)
      replace OX := Lib.hid (OX.out.on hb)
      replace HZ := Lib.hid (HZ.out.on hb)
      replace HZO := Lib.hid (HZO.out.on hb)
      have q2 := str_eqb s
      clear hb CP x0 x1 x2
      have x0 := HX.out.c0
      have x1 := HX.out.c1
      have x2 := HX.out.c2
      have z0 := HZ.out.c0
      have z1 := HZ.out.c1
      have z2 := HZ.out.c2
      have CS : Hid (Calls Tryz.prog 12 #[.agg #[.string z.name, .slice z.a1 z.deps.length z.c1, .slice z.a2 z.ops.length z.c2], .agg #[.string x.name, .slice x.a1 x.deps.length x.c1, .slice x.a2 x.ops.length x.c2]] w8 fun e w' => e = .returned (.bool true) ∧ Below w8.heap.size w8 w') :=
        refpsame_any z x w8 HZO.out OX.out (by have := HZF.out.sz.few; omega) (by have := LX.out.few; omega) HZF.out.few FX.out (by have := HZF.out.sz.many; omega) (by have := LX.out.many; omega) true (decide_eq_true HZK.out)
      go_wp2_with fail
      refine CS.out.mono ?_
      rintro e w9 ⟨rfl, hb⟩
      have HF := Lib.hid (HB.out.trans (hb.mono (by have h := HB.out.size; rw [HGX.out] at h; exact h)))
      clear hb CS HB x0 x1 x2 z0 z1 z2 HX OX HZ HZO
      go_wp2
      go_ret
      exact ⟨rfl, by rw [HGX.out]; exact HF.out⟩
    · obtain ⟨rfl, hew⟩ := HSE.out.2 (by rw [HWA.out]; exact hz)
      rw [HWA.out] at hew
      have q1 : (want != 0) = true := by rw [bne_iff_ne]; exact hz
      clear hz HSE
      subst hew
      go_wp2_with fail
      refine (HAW.out _ HT.out HN.out).mono ?_
      rintro e wz ⟨rfl, hb⟩
      have HF := Lib.hid (HB.out.trans (hb.mono (by have h := HB.out.size; rw [HGX.out] at h; exact h)))
      clear hb HAW HT HN HX OX
      go_wp2
      go_ret
      exact ⟨rfl, by rw [HGX.out]; exact HF.out⟩
end Go.Proofs.YtoajckhfnadhjaaGreatDoor
