/- OpGets: the operation of any bytes. -/
import Derived.BigQuiet
import Derived.Deep.QuietTactic
import Derived.Handy
import Derived.WalkKit
import Derived.Lib.Hide
import Derived.Test.YtioknegeebgdbaaGreatDoorCk29
namespace Go.Proofs.YtioknegeebgdbaaGreatDoor
open Go.RowKit
set_option linter.unusedVariables false

set_option maxHeartbeats 8000000 in
set_option maxRecDepth 100000 in
theorem opgets_any (s : ByteArray) (w : World) (hs : s.size ≤ 9223372036854775807) (hT : Tabs w) (hN : Nums w) : Calls Tryz.prog 4 #[.string s] w fun e w' => e = .returned (.bool true) ∧ Below w.heap.size w w' := by
  have HAW := Lib.hid (fun W (hT : Tabs W) (hN : Nums W) => opawake_any W hT hN)
  have HT0 := Lib.hid hT
  have HN0 := Lib.hid hN
  clear hT hN
  by_cases hbig : 1500 < s.size
  · have q0 : (s.size : Int) > 1500 := by omega
    go_enter Tryz.func4, Tryz.ntmps4
    go_wp2_with fail
    refine (HAW.out _ HT0.out HN0.out).mono ?_
    rintro e w1 ⟨rfl, hb⟩
    have HB := Lib.hid hb
    clear hb HAW
    go_wp2
    go_ret
    exact ⟨rfl, HB.out⟩
  have q0 : ¬ (s.size : Int) > 1500 := by omega
  have CG := Lib.hid (opget_any s w HT0.out HN0.out (by omega))
  go_enter Tryz.func4, Tryz.ntmps4
  go_wp2_with fail
  refine CG.out.mono ?_
  rintro e w5 ⟨z, er, rfl, hgot, hzok, hb⟩
  have HG := Lib.hid hgot.out
  have hbz := op_box w5 z
  have hb6 := hb.trans (hbz.1.mono hb.size)
  have HZ := Lib.hid hbz.2
  have HZO := Lib.hid (hzok.on hbz.1)
  have HB := Lib.hid hb6
  have HT := Lib.hid (Tabs.on HT0.out hb6)
  have HN := Lib.hid (HN0.out.on hb6)
  unfold Om.val Om.cells
  clear hgot hzok hb hbz hb6 CG HT0 HN0
  go_upto_region 4 with (fail)
  generalize (w5.alloc (.cells #[.int .i64 z.kind, .string z.self.p, .int .i64 z.self.n, .string z.parent.p, .int .i64 z.parent.n, .string z.dst.p, .int .i64 z.dst.n, .string z.name, .string z.dname, .string z.left.p, .int .i64 z.left.n, .string z.right.p, .int .i64 z.right.n, .slice z.a1 z.dels.length z.c1, .int .i64 z.first, .slice z.a2 z.lines.length z.c2] 27)) = w4 at *
  generalize hgz : w5.heap.size = gz at *
  clear hgz hbig hs
  -- @P1
  by_cases he : er = 0
  · subst he
    obtain ⟨hm, hs2⟩ := HG.out.1 rfl
    have HM := Lib.hid hm
    have HS2 := Lib.hid hs2
    have HPU := Lib.hid (pu_may hm)
    clear hm hs2
    -- @P4
    go_wp2_with fail
    refine (HAW.out _ HT.out HN.out).mono ?_
    rintro e w6 ⟨rfl, hb⟩
    replace HZ := Lib.hid (HZ.out.on hb)
    replace HB := Lib.hid (HB.out.trans (hb.mono HB.out.size))
    replace HT := Lib.hid (Tabs.on HT.out hb)
    replace HZO := Lib.hid (HZO.out.on hb)
    clear hb HN HAW
    have c_kind := (op_cells HZ.out).kind
    have c_selfp := (op_cells HZ.out).selfp
    have c_selfn := (op_cells HZ.out).selfn
    have c_parentp := (op_cells HZ.out).parentp
    have c_parentn := (op_cells HZ.out).parentn
    have c_dstp := (op_cells HZ.out).dstp
    have c_dstn := (op_cells HZ.out).dstn
    have c_name := (op_cells HZ.out).name
    have c_dname := (op_cells HZ.out).dname
    have c_leftp := (op_cells HZ.out).leftp
    have c_leftn := (op_cells HZ.out).leftn
    have c_rightp := (op_cells HZ.out).rightp
    have c_rightn := (op_cells HZ.out).rightn
    have c_dels := (op_cells HZ.out).dels
    have c_first := (op_cells HZ.out).first
    have c_lines := (op_cells HZ.out).lines
    have CM : Hid (Calls Tryz.prog 8 #[.agg #[.int .i64 z.kind, .string z.self.p, .int .i64 z.self.n, .string z.parent.p, .int .i64 z.parent.n, .string z.dst.p, .int .i64 z.dst.n, .string z.name, .string z.dname, .string z.left.p, .int .i64 z.left.n, .string z.right.p, .int .i64 z.right.n, .slice z.a1 z.dels.length z.c1, .int .i64 z.first, .slice z.a2 z.lines.length z.c2]] w6 fun e w' => e = .returned (.bool true) ∧ Below w6.heap.size w6 w') := by
      have h := refmay_any z w6 HZO.out (sz_pu HPU.out HM.out) HT.out
      rw [HM.out] at h
      exact h
    -- @P5
    go_wp2_with fail
    refine CM.out.mono ?_
    rintro e w7 ⟨rfl, hb⟩
    replace HZ := Lib.hid (HZ.out.on hb)
    replace HB := Lib.hid (HB.out.trans (hb.mono HB.out.size))
    replace HZO := Lib.hid (HZO.out.on hb)
    clear hb CM c_kind c_selfp c_selfn c_parentp c_parentn c_dstp c_dstn c_name c_dname c_leftp c_leftn c_rightp c_rightn c_dels c_first c_lines
    have c_kind := (op_cells HZ.out).kind
    have c_selfp := (op_cells HZ.out).selfp
    have c_selfn := (op_cells HZ.out).selfn
    have c_parentp := (op_cells HZ.out).parentp
    have c_parentn := (op_cells HZ.out).parentn
    have c_dstp := (op_cells HZ.out).dstp
    have c_dstn := (op_cells HZ.out).dstn
    have c_name := (op_cells HZ.out).name
    have c_dname := (op_cells HZ.out).dname
    have c_leftp := (op_cells HZ.out).leftp
    have c_leftn := (op_cells HZ.out).leftn
    have c_rightp := (op_cells HZ.out).rightp
    have c_rightn := (op_cells HZ.out).rightn
    have c_dels := (op_cells HZ.out).dels
    have c_first := (op_cells HZ.out).first
    have c_lines := (op_cells HZ.out).lines
    have CP : Hid (Calls Tryz.prog 13 #[.agg #[.int .i64 z.kind, .string z.self.p, .int .i64 z.self.n, .string z.parent.p, .int .i64 z.parent.n, .string z.dst.p, .int .i64 z.dst.n, .string z.name, .string z.dname, .string z.left.p, .int .i64 z.left.n, .string z.right.p, .int .i64 z.right.n, .slice z.a1 z.dels.length z.c1, .int .i64 z.first, .slice z.a2 z.lines.length z.c2]] w7 fun e w' => e = .returned (.string s) ∧ Below w7.heap.size w7 w') := by
      have h := refoput_any z w7 HZO.out HPU.out
      rw [HS2.out] at h
      exact h
    -- @P6
    go_wp2_with fail
    refine CP.out.mono ?_
    rintro e w8 ⟨rfl, hb⟩
    have HF := Lib.hid (HB.out.trans (hb.mono HB.out.size))
    have q2 := str_eqb s
    clear hb CP HB c_kind c_selfp c_selfn c_parentp c_parentn c_dstp c_dstn c_name c_dname c_leftp c_leftn c_rightp c_rightn c_dels c_first c_lines HZ HZO
    go_wp2
    go_ret
    exact ⟨rfl, HF.out⟩
  · obtain ⟨rfl, -⟩ := HG.out.2 he
    have q1 : (er != 0) = true := by rw [bne_iff_ne]; exact he
    clear he
    -- @P2
    go_wp2_with fail
    refine (HAW.out _ HT.out HN.out).mono ?_
    rintro e w6 ⟨rfl, hb⟩
    replace HZ := Lib.hid (HZ.out.on hb)
    replace HB := Lib.hid (HB.out.trans (hb.mono HB.out.size))
    replace HT := Lib.hid (Tabs.on HT.out hb)
    replace HZO := Lib.hid (HZO.out.on hb)
    clear hb HN HAW
    have c_kind : w6.cell? ⟨gz, 0, none⟩ = some (.int .i64 0) := (op_cells HZ.out).kind
    have c_selfp : w6.cell? ⟨gz, 1, none⟩ = some (.string ⟨#[]⟩) := (op_cells HZ.out).selfp
    have c_selfn : w6.cell? ⟨gz, 2, none⟩ = some (.int .i64 0) := (op_cells HZ.out).selfn
    have c_parentp : w6.cell? ⟨gz, 3, none⟩ = some (.string ⟨#[]⟩) := (op_cells HZ.out).parentp
    have c_parentn : w6.cell? ⟨gz, 4, none⟩ = some (.int .i64 0) := (op_cells HZ.out).parentn
    have c_dstp : w6.cell? ⟨gz, 5, none⟩ = some (.string ⟨#[]⟩) := (op_cells HZ.out).dstp
    have c_dstn : w6.cell? ⟨gz, 6, none⟩ = some (.int .i64 0) := (op_cells HZ.out).dstn
    have c_name : w6.cell? ⟨gz, 7, none⟩ = some (.string ⟨#[]⟩) := (op_cells HZ.out).name
    have c_dname : w6.cell? ⟨gz, 8, none⟩ = some (.string ⟨#[]⟩) := (op_cells HZ.out).dname
    have c_leftp : w6.cell? ⟨gz, 9, none⟩ = some (.string ⟨#[]⟩) := (op_cells HZ.out).leftp
    have c_leftn : w6.cell? ⟨gz, 10, none⟩ = some (.int .i64 0) := (op_cells HZ.out).leftn
    have c_rightp : w6.cell? ⟨gz, 11, none⟩ = some (.string ⟨#[]⟩) := (op_cells HZ.out).rightp
    have c_rightn : w6.cell? ⟨gz, 12, none⟩ = some (.int .i64 0) := (op_cells HZ.out).rightn
    have c_dels : w6.cell? ⟨gz, 13, none⟩ = some (.slice none 0 0) := (op_cells HZ.out).dels
    have c_first : w6.cell? ⟨gz, 14, none⟩ = some (.int .i64 0) := (op_cells HZ.out).first
    have c_lines : w6.cell? ⟨gz, 15, none⟩ = some (.slice none 0 0) := (op_cells HZ.out).lines
    obtain ⟨hb1, -⟩ := op_box w6 zeroM
    have h1 := ops_one w6 zeroM (zeroM_ok _ _)
    obtain ⟨hb2, -⟩ := op_box (w6.alloc (.cells #[.int .i64 0, .string ⟨#[]⟩, .int .i64 0, .string ⟨#[]⟩, .int .i64 0, .string ⟨#[]⟩, .int .i64 0, .string ⟨#[]⟩, .string ⟨#[]⟩, .string ⟨#[]⟩, .int .i64 0, .string ⟨#[]⟩, .int .i64 0, .slice none 0 0, .int .i64 0, .slice none 0 0] 27)) zeroM
    have h2 := ops_one (w6.alloc (.cells #[.int .i64 0, .string ⟨#[]⟩, .int .i64 0, .string ⟨#[]⟩, .int .i64 0, .string ⟨#[]⟩, .int .i64 0, .string ⟨#[]⟩, .string ⟨#[]⟩, .string ⟨#[]⟩, .int .i64 0, .string ⟨#[]⟩, .int .i64 0, .slice none 0 0, .int .i64 0, .slice none 0 0] 27)) zeroM (zeroM_ok _ _)
    rw [show (w6.alloc (.cells #[.int .i64 0, .string ⟨#[]⟩, .int .i64 0, .string ⟨#[]⟩, .int .i64 0, .string ⟨#[]⟩, .int .i64 0, .string ⟨#[]⟩, .string ⟨#[]⟩, .string ⟨#[]⟩, .int .i64 0, .string ⟨#[]⟩, .int .i64 0, .slice none 0 0, .int .i64 0, .slice none 0 0] 27)).heap.size = w6.heap.size + 1 by simp] at h2
    have hb12 := hb1.trans (hb2.mono hb1.size)
    have CS : Hid (Calls Tryz.prog 11 #[.slice (some ⟨w6.heap.size, 0, none⟩) 1 1, .slice (some ⟨w6.heap.size + 1, 0, none⟩) 1 1] ((w6.alloc (.cells #[.int .i64 0, .string ⟨#[]⟩, .int .i64 0, .string ⟨#[]⟩, .int .i64 0, .string ⟨#[]⟩, .int .i64 0, .string ⟨#[]⟩, .string ⟨#[]⟩, .string ⟨#[]⟩, .int .i64 0, .string ⟨#[]⟩, .int .i64 0, .slice none 0 0, .int .i64 0, .slice none 0 0] 27)).alloc (.cells #[.int .i64 0, .string ⟨#[]⟩, .int .i64 0, .string ⟨#[]⟩, .int .i64 0, .string ⟨#[]⟩, .int .i64 0, .string ⟨#[]⟩, .string ⟨#[]⟩, .string ⟨#[]⟩, .int .i64 0, .string ⟨#[]⟩, .int .i64 0, .slice none 0 0, .int .i64 0, .slice none 0 0] 27)) fun e w' => e = .returned (.bool true) ∧ Below ((w6.alloc (.cells #[.int .i64 0, .string ⟨#[]⟩, .int .i64 0, .string ⟨#[]⟩, .int .i64 0, .string ⟨#[]⟩, .int .i64 0, .string ⟨#[]⟩, .string ⟨#[]⟩, .string ⟨#[]⟩, .int .i64 0, .string ⟨#[]⟩, .int .i64 0, .slice none 0 0, .int .i64 0, .slice none 0 0] 27)).alloc (.cells #[.int .i64 0, .string ⟨#[]⟩, .int .i64 0, .string ⟨#[]⟩, .int .i64 0, .string ⟨#[]⟩, .int .i64 0, .string ⟨#[]⟩, .string ⟨#[]⟩, .string ⟨#[]⟩, .int .i64 0, .string ⟨#[]⟩, .int .i64 0, .slice none 0 0, .int .i64 0, .slice none 0 0] 27)).heap.size ((w6.alloc (.cells #[.int .i64 0, .string ⟨#[]⟩, .int .i64 0, .string ⟨#[]⟩, .int .i64 0, .string ⟨#[]⟩, .int .i64 0, .string ⟨#[]⟩, .string ⟨#[]⟩, .string ⟨#[]⟩, .int .i64 0, .string ⟨#[]⟩, .int .i64 0, .slice none 0 0, .int .i64 0, .slice none 0 0] 27)).alloc (.cells #[.int .i64 0, .string ⟨#[]⟩, .int .i64 0, .string ⟨#[]⟩, .int .i64 0, .string ⟨#[]⟩, .int .i64 0, .string ⟨#[]⟩, .string ⟨#[]⟩, .string ⟨#[]⟩, .int .i64 0, .string ⟨#[]⟩, .int .i64 0, .slice none 0 0, .int .i64 0, .slice none 0 0] 27)) w') := refosame_any _ _ [zeroM] [zeroM] 1 1 _ (h1.on hb2) h2 (few_one zeroM_sz) (few_one zeroM_sz) (by decide) (by decide) true (decide_eq_true rfl)
    have HBB : Hid (Below w.heap.size w ((w6.alloc (.cells #[.int .i64 0, .string ⟨#[]⟩, .int .i64 0, .string ⟨#[]⟩, .int .i64 0, .string ⟨#[]⟩, .int .i64 0, .string ⟨#[]⟩, .string ⟨#[]⟩, .string ⟨#[]⟩, .int .i64 0, .string ⟨#[]⟩, .int .i64 0, .slice none 0 0, .int .i64 0, .slice none 0 0] 27)).alloc (.cells #[.int .i64 0, .string ⟨#[]⟩, .int .i64 0, .string ⟨#[]⟩, .int .i64 0, .string ⟨#[]⟩, .int .i64 0, .string ⟨#[]⟩, .string ⟨#[]⟩, .string ⟨#[]⟩, .int .i64 0, .string ⟨#[]⟩, .int .i64 0, .slice none 0 0, .int .i64 0, .slice none 0 0] 27))) := HB.out.trans (hb12.mono HB.out.size)
    clear hb1 h1 hb2 h2 hb12 HZ HT HZO HG HB
    -- @P3
    go_wp2_with fail
    refine CS.out.mono ?_
    rintro e w8 ⟨rfl, hb⟩
    have HF := Lib.hid (HBB.out.trans (hb.mono HBB.out.size))
    clear hb CS HBB c_kind c_selfp c_selfn c_parentp c_parentn c_dstp c_dstn c_name c_dname c_leftp c_leftn c_rightp c_rightn c_dels c_first c_lines
    go_wp2
    go_ret
    exact ⟨rfl, HF.out⟩
end Go.Proofs.YtioknegeebgdbaaGreatDoor
