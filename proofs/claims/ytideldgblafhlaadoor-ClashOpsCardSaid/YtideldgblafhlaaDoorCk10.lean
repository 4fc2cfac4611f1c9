/- The reference's May of an operation. -/
import Derived.Lib.SlicesCompact
import Derived.BigQuiet
import Derived.Deep.QuietTactic
import Derived.Handy
import Derived.Test.YtideldgblafhlaaDoorCk09
namespace Go.Proofs.YtideldgblafhlaaDoor
open Go.RowKit
set_option linter.unusedVariables false

set_option maxHeartbeats 8000000 in
set_option maxRecDepth 100000 in
theorem refmaym_any (x : Om) (w : World) (ox : x.Ok w w.heap.size) (sx : x.Mz) (hT : Tabs w) :
    Calls Tryd.prog 15 #[x.val] w fun e w' => e = .returned (.bool (mayO x.key)) ∧ Below w.heap.size w w' := by
  obtain ⟨hb, hx⟩ := op_box w x
  have HX := Lib.hid hx
  have HF := Lib.hid hb
  have OX := Lib.hid (ox.on hb)
  have HT := Lib.hid (Tabs.on hT hb)
  clear hb hx ox hT
  unfold Om.val Om.cells
  go_enter Tryd.func15, Tryd.ntmps15
  go_upto_region 1 with (fail)
  generalize (w.alloc (.cells #[.int .i64 x.kind, .string x.self.p, .int .i64 x.self.n, .string x.parent.p, .int .i64 x.parent.n, .string x.dst.p, .int .i64 x.dst.n, .string x.name, .string x.dname, .string x.left.p, .int .i64 x.left.n, .string x.right.p, .int .i64 x.right.n, .slice x.a1 x.dels.length x.c1, .int .i64 x.first, .slice x.a2 x.lines.length x.c2] 27)) = wb at *
  have HG : Hid (Below wb.heap.size wb wb) := Below.refl _ _
  obtain ⟨b1, hb1⟩ : ∃ b, madeI x.key.self = b := ⟨_, rfl⟩
  have HQ1 := Lib.hid hb1
  have hc := op_cells HX.out
  have c_selfp := hc.selfp
  have c_selfn := hc.selfn
  have CQ := Lib.hid (fun W (hW : Below wb.heap.size wb W) => refmade_any x.self W sx.self b1 hb1)
  clear hc hb1
  go_wp2_with fail
  refine (CQ.out _ HG.out).mono ?_
  rintro e w1 ⟨rfl, hb⟩
  replace HX := Lib.hid (HX.out.on hb)
  replace HF := Lib.hid (HF.out.trans (hb.mono HF.out.size))
  replace HG := Lib.hid (HG.out.trans (hb.mono HG.out.size))
  clear hb CQ c_selfp c_selfn
  cases b1
  · have HV : Hid (mayO x.key = false) := by
      show _ = _
      simp [mayO, placeO, HQ1.out]
    go_wp2
    go_ret
    rw [HV.out]
    exact ⟨rfl, HF.out⟩
  · have hc := op_cells HX.out
    have c_kind := hc.kind
    clear hc
    by_cases h2 : x.kind < 1
    · have q2_0 : x.kind < 1 := h2
      have HH2_0 : Hid (¬ 1 ≤ x.key.kind) := fun e => absurd (show 1 ≤ x.kind from e) (by omega)
      clear h2
      have HV : Hid (mayO x.key = false) := by
        show _ = _
        simp [mayO, placeO, HQ1.out, HH2_0.out]
      go_wp2
      go_ret
      rw [HV.out]
      exact ⟨rfl, HF.out⟩
    · have q2_0 : ¬ x.kind < 1 := h2
      have HH2_0 : Hid (1 ≤ x.key.kind) := show 1 ≤ x.kind by omega
      clear h2
      by_cases h3 : 5 < x.kind
      · have q3_0 : x.kind > 5 := h3
        have HH3_0 : Hid (¬ x.key.kind ≤ 5) := fun e => absurd (show x.kind ≤ 5 from e) (by omega)
        clear h3
        have HV : Hid (mayO x.key = false) := by
          show _ = _
          simp [mayO, placeO, HQ1.out, HH2_0.out, HH3_0.out]
        go_wp2
        go_ret
        rw [HV.out]
        exact ⟨rfl, HF.out⟩
      · have q3_0 : ¬ x.kind > 5 := h3
        have q3_1 : ¬ 5 < x.kind := h3
        have HH3_0 : Hid (x.key.kind ≤ 5) := show x.kind ≤ 5 by omega
        clear h3
        have hc := op_cells HX.out
        have c_kind := hc.kind
        clear hc
        by_cases h4 : x.kind = 5
        · have q4_0 : (x.kind == 5) = true := by simpa using h4
          have HH4_0 : Hid (x.key.kind = 5) := h4
          clear h4
          obtain ⟨b5, hb5⟩ : ∃ b, noneI x.key.parent = b := ⟨_, rfl⟩
          have HQ5 := Lib.hid hb5
          have hc := op_cells HX.out
          have c_parentp := hc.parentp
          have c_parentn := hc.parentn
          have CQ := Lib.hid (fun W (hW : Below wb.heap.size wb W) => refnone_any x.parent W b5 hb5)
          clear hc hb5
          go_wp2_with fail
          refine (CQ.out _ HG.out).mono ?_
          rintro e w5 ⟨rfl, hb⟩
          replace HX := Lib.hid (HX.out.on hb)
          replace HF := Lib.hid (HF.out.trans (hb.mono HF.out.size))
          replace HG := Lib.hid (HG.out.trans (hb.mono HG.out.size))
          clear hb CQ c_parentp c_parentn
          cases b5
          · have HV : Hid (mayO x.key = false) := by
              show _ = _
              simp [mayO, HQ1.out, HH4_0.out, HQ5.out]
            go_wp2
            go_ret
            rw [HV.out]
            exact ⟨rfl, HF.out⟩
          · obtain ⟨b6, hb6⟩ : ∃ b, noneI x.key.dst = b := ⟨_, rfl⟩
            have HQ6 := Lib.hid hb6
            have hc := op_cells HX.out
            have c_dstp := hc.dstp
            have c_dstn := hc.dstn
            have CQ := Lib.hid (fun W (hW : Below wb.heap.size wb W) => refnone_any x.dst W b6 hb6)
            clear hc hb6
            go_wp2_with fail
            refine (CQ.out _ HG.out).mono ?_
            rintro e w6 ⟨rfl, hb⟩
            replace HX := Lib.hid (HX.out.on hb)
            replace HF := Lib.hid (HF.out.trans (hb.mono HF.out.size))
            replace HG := Lib.hid (HG.out.trans (hb.mono HG.out.size))
            clear hb CQ c_dstp c_dstn
            cases b6
            · have HV : Hid (mayO x.key = false) := by
                show _ = _
                simp [mayO, HQ1.out, HH4_0.out, HQ5.out, HQ6.out]
              go_wp2
              go_ret
              rw [HV.out]
              exact ⟨rfl, HF.out⟩
            · have hc := op_cells HX.out
              have c_name := hc.name
              clear hc
              by_cases h8 : x.name = ⟨#[]⟩
              · have q8_0 : (x.name.toList == []) = true := by rw [h8, toList_eq]; rfl
                have HH8_0 : Hid (x.key.name = []) := by show x.name.data.toList = []; rw [h8]
                clear h8
                have hc := op_cells HX.out
                have c_dname := hc.dname
                clear hc
                by_cases h10 : x.dname = ⟨#[]⟩
                · have q10_0 : (x.dname.toList == []) = true := by rw [h10, toList_eq]; rfl
                  have HH10_0 : Hid (x.key.dname = []) := by show x.dname.data.toList = []; rw [h10]
                  clear h10
                  obtain ⟨b11, hb11⟩ : ∃ b, hunkO x.key = b := ⟨_, rfl⟩
                  have HQ11 := Lib.hid hb11
                  have hc := op_cells HX.out
                  have c_kind := hc.kind
                  have c_selfp := hc.selfp
                  have c_selfn := hc.selfn
                  have c_parentp := hc.parentp
                  have c_parentn := hc.parentn
                  have c_dstp := hc.dstp
                  have c_dstn := hc.dstn
                  have c_name := hc.name
                  have c_dname := hc.dname
                  have c_leftp := hc.leftp
                  have c_leftn := hc.leftn
                  have c_rightp := hc.rightp
                  have c_rightn := hc.rightn
                  have c_dels := hc.dels
                  have c_first := hc.first
                  have c_lines := hc.lines
                  have CQ := Lib.hid (fun W (hW : Below wb.heap.size wb W) => refhunk_any x W (OX.out.on hW) sx (Tabs.on HT.out hW) b11 hb11)
                  clear hc hb11
                  go_wp2_with fail
                  refine (CQ.out _ HG.out).mono ?_
                  rintro e w11 ⟨rfl, hb⟩
                  replace HX := Lib.hid (HX.out.on hb)
                  replace HF := Lib.hid (HF.out.trans (hb.mono HF.out.size))
                  replace HG := Lib.hid (HG.out.trans (hb.mono HG.out.size))
                  clear hb CQ c_kind c_selfp c_selfn c_parentp c_parentn c_dstp c_dstn c_name c_dname c_leftp c_leftn c_rightp c_rightn c_dels c_first c_lines
                  have HV : Hid (mayO x.key = b11) := by
                    show _ = _
                    simp [mayO, HQ1.out, HH4_0.out, HQ5.out, HQ6.out, HH8_0.out, HH10_0.out, HQ11.out]
                  go_wp2
                  go_ret
                  rw [HV.out]
                  exact ⟨rfl, HF.out⟩
                · have q10_0 : (x.dname.toList == []) = false := str_ne_empty h10
                  have HH10_0 : Hid (x.key.dname ≠ []) := fun e => h10 (bytes_inj (t := ⟨#[]⟩) (show x.dname.data.toList = [] from e))
                  clear h10
                  have HV : Hid (mayO x.key = false) := by
                    show _ = _
                    simp [mayO, HQ1.out, HH4_0.out, HQ5.out, HQ6.out, HH8_0.out, HH10_0.out]
                  go_wp2
                  go_ret
                  rw [HV.out]
                  exact ⟨rfl, HF.out⟩
              · have q8_0 : (x.name.toList == []) = false := str_ne_empty h8
                have HH8_0 : Hid (x.key.name ≠ []) := fun e => h8 (bytes_inj (t := ⟨#[]⟩) (show x.name.data.toList = [] from e))
                clear h8
                have HV : Hid (mayO x.key = false) := by
                  show _ = _
                  simp [mayO, HQ1.out, HH4_0.out, HQ5.out, HQ6.out, HH8_0.out]
                go_wp2
                go_ret
                rw [HV.out]
                exact ⟨rfl, HF.out⟩
        · have q4_0 : (x.kind == 5) = false := by simpa using h4
          have HH4_0 : Hid (x.key.kind ≠ 5) := h4
          clear h4
          obtain ⟨b12, hb12⟩ : ∃ b, noneI x.key.left = b := ⟨_, rfl⟩
          have HQ12 := Lib.hid hb12
          have hc := op_cells HX.out
          have c_leftp := hc.leftp
          have c_leftn := hc.leftn
          have CQ := Lib.hid (fun W (hW : Below wb.heap.size wb W) => refnone_any x.left W b12 hb12)
          clear hc hb12
          go_wp2_with fail
          refine (CQ.out _ HG.out).mono ?_
          rintro e w12 ⟨rfl, hb⟩
          replace HX := Lib.hid (HX.out.on hb)
          replace HF := Lib.hid (HF.out.trans (hb.mono HF.out.size))
          replace HG := Lib.hid (HG.out.trans (hb.mono HG.out.size))
          clear hb CQ c_leftp c_leftn
          cases b12
          · have HV : Hid (mayO x.key = false) := by
              show _ = _
              simp [mayO, placeO, HQ1.out, HH2_0.out, HH3_0.out, HH4_0.out, HQ12.out]
            go_wp2
            go_ret
            rw [HV.out]
            exact ⟨rfl, HF.out⟩
          · obtain ⟨b13, hb13⟩ : ∃ b, noneI x.key.right = b := ⟨_, rfl⟩
            have HQ13 := Lib.hid hb13
            have hc := op_cells HX.out
            have c_rightp := hc.rightp
            have c_rightn := hc.rightn
            have CQ := Lib.hid (fun W (hW : Below wb.heap.size wb W) => refnone_any x.right W b13 hb13)
            clear hc hb13
            go_wp2_with fail
            refine (CQ.out _ HG.out).mono ?_
            rintro e w13 ⟨rfl, hb⟩
            replace HX := Lib.hid (HX.out.on hb)
            replace HF := Lib.hid (HF.out.trans (hb.mono HF.out.size))
            replace HG := Lib.hid (HG.out.trans (hb.mono HG.out.size))
            clear hb CQ c_rightp c_rightn
            cases b13
            · have HV : Hid (mayO x.key = false) := by
                show _ = _
                simp [mayO, placeO, HQ1.out, HH2_0.out, HH3_0.out, HH4_0.out, HQ12.out, HQ13.out]
              go_wp2
              go_ret
              rw [HV.out]
              exact ⟨rfl, HF.out⟩
            · by_cases h14 : x.dels.length = 0
              · have c_dels := (op_cells HX.out).dels
                rw [h14] at c_dels
                have HH14_0 : Hid (x.key.dels = []) := by show ikeys x.dels = _; rw [List.length_eq_zero_iff.1 h14]; rfl
                clear h14
                have hc := op_cells HX.out
                have c_first := hc.first
                clear hc
                by_cases h15 : x.first = 0
                · have q15_0 : (x.first == 0) = true := by simpa using h15
                  have q15_1 : (x.first != 0) = false := by simpa using h15
                  have HH15_0 : Hid (x.key.first = 0) := h15
                  clear h15
                  by_cases h16 : x.lines.length = 0
                  · have c_lines := (op_cells HX.out).lines
                    rw [h16] at c_lines
                    have HH16_0 : Hid (x.key.lines = []) := List.length_eq_zero_iff.1 h16
                    clear h16
                    obtain ⟨b17, hb17⟩ : ∃ b, orI x.key.parent 0 = b := ⟨_, rfl⟩
                    have HQ17 := Lib.hid hb17
                    have hc := op_cells HX.out
                    have c_parentp := hc.parentp
                    have c_parentn := hc.parentn
                    have CQ := Lib.hid (fun W (hW : Below wb.heap.size wb W) => refor_any x.parent 0 W sx.parent b17 hb17)
                    clear hc hb17
                    go_wp2_with fail
                    refine (CQ.out _ HG.out).mono ?_
                    rintro e w17 ⟨rfl, hb⟩
                    replace HX := Lib.hid (HX.out.on hb)
                    replace HF := Lib.hid (HF.out.trans (hb.mono HF.out.size))
                    replace HG := Lib.hid (HG.out.trans (hb.mono HG.out.size))
                    clear hb CQ c_parentp c_parentn
                    cases b17
                    · have HV : Hid (mayO x.key = false) := by
                        show _ = _
                        simp [mayO, placeO, HQ1.out, HH2_0.out, HH3_0.out, HH4_0.out, HQ12.out, HQ13.out, HH14_0.out, HH15_0.out, HH16_0.out, HQ17.out]
                      go_wp2
                      go_ret
                      rw [HV.out]
                      exact ⟨rfl, HF.out⟩
                    · obtain ⟨b18, hb18⟩ : ∃ b, nameK x.key.name = b := ⟨_, rfl⟩
                      have HQ18 := Lib.hid hb18
                      have hc := op_cells HX.out
                      have c_name := hc.name
                      have CQ := Lib.hid (fun W (hW : Below wb.heap.size wb W) => refnamek_any x.name W sx.name b18 hb18)
                      clear hc hb18
                      go_wp2_with fail
                      refine (CQ.out _ HG.out).mono ?_
                      rintro e w18 ⟨rfl, hb⟩
                      replace HX := Lib.hid (HX.out.on hb)
                      replace HF := Lib.hid (HF.out.trans (hb.mono HF.out.size))
                      replace HG := Lib.hid (HG.out.trans (hb.mono HG.out.size))
                      clear hb CQ c_name
                      cases b18
                      · have HV : Hid (mayO x.key = false) := by
                          show _ = _
                          simp [mayO, placeO, HQ1.out, HH2_0.out, HH3_0.out, HH4_0.out, HQ12.out, HQ13.out, HH14_0.out, HH15_0.out, HH16_0.out, HQ17.out, HQ18.out]
                        go_wp2
                        go_ret
                        rw [HV.out]
                        exact ⟨rfl, HF.out⟩
                      · have hc := op_cells HX.out
                        have c_kind := hc.kind
                        clear hc
                        by_cases h19 : x.kind = 4
                        · have q19_0 : (x.kind == 4) = true := by simpa using h19
                          have HH19_0 : Hid (x.key.kind = 4) := h19
                          clear h19
                          obtain ⟨b20, hb20⟩ : ∃ b, orI x.key.dst 0 = b := ⟨_, rfl⟩
                          have HQ20 := Lib.hid hb20
                          have hc := op_cells HX.out
                          have c_dstp := hc.dstp
                          have c_dstn := hc.dstn
                          have CQ := Lib.hid (fun W (hW : Below wb.heap.size wb W) => refor_any x.dst 0 W sx.dst b20 hb20)
                          clear hc hb20
                          go_wp2_with fail
                          refine (CQ.out _ HG.out).mono ?_
                          rintro e w20 ⟨rfl, hb⟩
                          replace HX := Lib.hid (HX.out.on hb)
                          replace HF := Lib.hid (HF.out.trans (hb.mono HF.out.size))
                          replace HG := Lib.hid (HG.out.trans (hb.mono HG.out.size))
                          clear hb CQ c_dstp c_dstn
                          cases b20
                          · have HV : Hid (mayO x.key = false) := by
                              show _ = _
                              simp [mayO, placeO, HQ1.out, HQ12.out, HQ13.out, HH14_0.out, HH15_0.out, HH16_0.out, HQ17.out, HQ18.out, HH19_0.out, HQ20.out]
                            go_wp2
                            go_ret
                            rw [HV.out]
                            exact ⟨rfl, HF.out⟩
                          · obtain ⟨b21, hb21⟩ : ∃ b, nameK x.key.dname = b := ⟨_, rfl⟩
                            have HQ21 := Lib.hid hb21
                            have hc := op_cells HX.out
                            have c_dname := hc.dname
                            have CQ := Lib.hid (fun W (hW : Below wb.heap.size wb W) => refnamek_any x.dname W sx.dname b21 hb21)
                            clear hc hb21
                            go_wp2_with fail
                            refine (CQ.out _ HG.out).mono ?_
                            rintro e w21 ⟨rfl, hb⟩
                            replace HX := Lib.hid (HX.out.on hb)
                            replace HF := Lib.hid (HF.out.trans (hb.mono HF.out.size))
                            replace HG := Lib.hid (HG.out.trans (hb.mono HG.out.size))
                            clear hb CQ c_dname
                            cases b21
                            · have HV : Hid (mayO x.key = false) := by
                                show _ = _
                                simp [mayO, placeO, HQ1.out, HQ12.out, HQ13.out, HH14_0.out, HH15_0.out, HH16_0.out, HQ17.out, HQ18.out, HH19_0.out, HQ20.out, HQ21.out]
                              go_wp2
                              go_ret
                              rw [HV.out]
                              exact ⟨rfl, HF.out⟩
                            · have hc := op_cells HX.out
                              have c_dstp := hc.dstp
                              have c_dstn := hc.dstn
                              have c_parentp := hc.parentp
                              have c_parentn := hc.parentn
                              have c_name := hc.name
                              have c_dname := hc.dname
                              clear hc
                              by_cases h22 : x.dst = x.parent
                              · have q22_0 : ∀ W, (binOp .neq 23 (.agg #[.string x.dst.p, .int .i64 x.dst.n]) (.agg #[.string x.parent.p, .int .i64 x.parent.n])).run Tryd.prog W = .ok (.bool false) W := fun W => by rw [neq_id, decide_eq_true h22]; rfl
                                have HH22_0 : Hid (x.key.dst = x.key.parent) := by show x.dst.key = x.parent.key; rw [h22]
                                clear h22
                                by_cases h23 : x.dname = x.name
                                · have q23_0 : (x.dname.toList == x.name.toList) = true := by rw [h23]; exact str_eqb _
                                  have HH23_0 : Hid (x.key.dname = x.key.name) := by show x.dname.data.toList = x.name.data.toList; rw [h23]
                                  clear h23
                                  have HV : Hid (mayO x.key = false) := by
                                    show _ = _
                                    simp [mayO, placeO, HQ1.out, HQ12.out, HQ13.out, HH14_0.out, HH15_0.out, HH16_0.out, HQ17.out, HQ18.out, HH19_0.out, HH22_0.out, HH23_0.out]
                                  go_wp2
                                  go_ret
                                  rw [HV.out]
                                  exact ⟨rfl, HF.out⟩
                                · have q23_0 : (x.dname.toList == x.name.toList) = false := str_ne h23
                                  have HH23_0 : Hid (x.key.dname ≠ x.key.name) := fun e => h23 (bytes_inj e)
                                  clear h23
                                  have HV : Hid (mayO x.key = true) := by
                                    show _ = _
                                    simp [mayO, placeO, HQ1.out, HQ12.out, HQ13.out, HH14_0.out, HH15_0.out, HH16_0.out, HQ17.out, HQ18.out, HH19_0.out, HQ21.out, HH22_0.out, HH23_0.out]
                                  go_wp2
                                  go_ret
                                  rw [HV.out]
                                  exact ⟨rfl, HF.out⟩
                              · have q22_0 : ∀ W, (binOp .neq 23 (.agg #[.string x.dst.p, .int .i64 x.dst.n]) (.agg #[.string x.parent.p, .int .i64 x.parent.n])).run Tryd.prog W = .ok (.bool true) W := fun W => by rw [neq_id, decide_eq_false h22]; rfl
                                have HH22_0 : Hid (x.key.dst ≠ x.key.parent) := fun e => h22 (Im.key_inj e)
                                clear h22
                                have HV : Hid (mayO x.key = true) := by
                                  show _ = _
                                  simp [mayO, placeO, HQ1.out, HQ12.out, HQ13.out, HH14_0.out, HH15_0.out, HH16_0.out, HQ17.out, HQ18.out, HH19_0.out, HQ20.out, HQ21.out, HH22_0.out]
                                go_wp2
                                go_ret
                                rw [HV.out]
                                exact ⟨rfl, HF.out⟩
                        · have q19_0 : (x.kind == 4) = false := by simpa using h19
                          have HH19_0 : Hid (x.key.kind ≠ 4) := h19
                          clear h19
                          obtain ⟨b24, hb24⟩ : ∃ b, noneI x.key.dst = b := ⟨_, rfl⟩
                          have HQ24 := Lib.hid hb24
                          have hc := op_cells HX.out
                          have c_dstp := hc.dstp
                          have c_dstn := hc.dstn
                          have CQ := Lib.hid (fun W (hW : Below wb.heap.size wb W) => refnone_any x.dst W b24 hb24)
                          clear hc hb24
                          go_wp2_with fail
                          refine (CQ.out _ HG.out).mono ?_
                          rintro e w24 ⟨rfl, hb⟩
                          replace HX := Lib.hid (HX.out.on hb)
                          replace HF := Lib.hid (HF.out.trans (hb.mono HF.out.size))
                          replace HG := Lib.hid (HG.out.trans (hb.mono HG.out.size))
                          clear hb CQ c_dstp c_dstn
                          cases b24
                          · have HV : Hid (mayO x.key = false) := by
                              show _ = _
                              simp [mayO, placeO, HQ1.out, HH2_0.out, HH3_0.out, HH4_0.out, HQ12.out, HQ13.out, HH14_0.out, HH15_0.out, HH16_0.out, HQ17.out, HQ18.out, HH19_0.out, HQ24.out]
                            go_wp2
                            go_ret
                            rw [HV.out]
                            exact ⟨rfl, HF.out⟩
                          · have hc := op_cells HX.out
                            have c_dname := hc.dname
                            clear hc
                            by_cases h26 : x.dname = ⟨#[]⟩
                            · have q26_0 : (x.dname.toList == []) = true := by rw [h26, toList_eq]; rfl
                              have HH26_0 : Hid (x.key.dname = []) := by show x.dname.data.toList = []; rw [h26]
                              clear h26
                              have HV : Hid (mayO x.key = true) := by
                                show _ = _
                                simp [mayO, placeO, HQ1.out, HH2_0.out, HH3_0.out, HH4_0.out, HQ12.out, HQ13.out, HH14_0.out, HH15_0.out, HH16_0.out, HQ17.out, HQ18.out, HH19_0.out, HQ24.out, HH26_0.out]
                              go_wp2
                              go_ret
                              rw [HV.out]
                              exact ⟨rfl, HF.out⟩
                            · have q26_0 : (x.dname.toList == []) = false := str_ne_empty h26
                              have HH26_0 : Hid (x.key.dname ≠ []) := fun e => h26 (bytes_inj (t := ⟨#[]⟩) (show x.dname.data.toList = [] from e))
                              clear h26
                              have HV : Hid (mayO x.key = false) := by
                                show _ = _
                                simp [mayO, placeO, HQ1.out, HH2_0.out, HH3_0.out, HH4_0.out, HQ12.out, HQ13.out, HH14_0.out, HH15_0.out, HH16_0.out, HQ17.out, HQ18.out, HH19_0.out, HQ24.out, HH26_0.out]
                              go_wp2
                              go_ret
                              rw [HV.out]
                              exact ⟨rfl, HF.out⟩
                  · have c_lines := (op_cells HX.out).lines
                    obtain ⟨nd16, hnd16⟩ : ∃ n, x.lines.length = n := ⟨_, rfl⟩
                    have p16 : 0 < nd16 := by omega
                    have p16i : (0 : Int) < (nd16 : Int) := by omega
                    rw [hnd16] at c_lines
                    clear hnd16
                    have HH16_0 : Hid (x.key.lines ≠ []) := fun e => h16 (by rw [show x.lines = [] from e]; rfl)
                    clear h16
                    have HV : Hid (mayO x.key = false) := by
                      show _ = _
                      simp [mayO, placeO, HQ1.out, HH2_0.out, HH3_0.out, HH4_0.out, HQ12.out, HQ13.out, HH14_0.out, HH15_0.out, HH16_0.out]
                    go_wp2
                    go_ret
                    rw [HV.out]
                    exact ⟨rfl, HF.out⟩
                · have q15_0 : (x.first == 0) = false := by simpa using h15
                  have q15_1 : (x.first != 0) = true := by simpa using h15
                  have HH15_0 : Hid (x.key.first ≠ 0) := h15
                  clear h15
                  have HV : Hid (mayO x.key = false) := by
                    show _ = _
                    simp [mayO, placeO, HQ1.out, HH2_0.out, HH3_0.out, HH4_0.out, HQ12.out, HQ13.out, HH14_0.out, HH15_0.out]
                  go_wp2
                  go_ret
                  rw [HV.out]
                  exact ⟨rfl, HF.out⟩
              · have c_dels := (op_cells HX.out).dels
                obtain ⟨nd14, hnd14⟩ : ∃ n, x.dels.length = n := ⟨_, rfl⟩
                have p14 : 0 < nd14 := by omega
                have p14i : (0 : Int) < (nd14 : Int) := by omega
                rw [hnd14] at c_dels
                clear hnd14
                have HH14_0 : Hid (x.key.dels ≠ []) := fun e => h14 (by have h9 := ikeys_len x.dels; rw [show ikeys x.dels = [] from e] at h9; exact h9.symm)
                clear h14
                have HV : Hid (mayO x.key = false) := by
                  show _ = _
                  simp [mayO, placeO, HQ1.out, HH2_0.out, HH3_0.out, HH4_0.out, HQ12.out, HQ13.out, HH14_0.out]
                go_wp2
                go_ret
                rw [HV.out]
                exact ⟨rfl, HF.out⟩
end Go.Proofs.YtideldgblafhlaaDoor
