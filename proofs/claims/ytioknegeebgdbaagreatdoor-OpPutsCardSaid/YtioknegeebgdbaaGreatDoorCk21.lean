/- Package op: Get. -/
import Derived.BigQuiet
import Derived.Deep.QuietTactic
import Derived.Handy
import Derived.Test.YtioknegeebgdbaaGreatDoorCk11
import Derived.Test.YtioknegeebgdbaaGreatDoorCk20
namespace Go.Proofs.YtioknegeebgdbaaGreatDoor
open Go.RowKit
set_option linter.unusedVariables false

/-- What Get tells of bytes. -/
def GotK (s : ByteArray) (z : Om) (er : Int) : Prop := (er = 0 → mayO z.key = true ∧ toB (putO z.key) = s) ∧ (er ≠ 0 → z = zeroM ∧ ∀ k, mayO k = true → toB (putO k) ≠ s)
/-- What Get leaves. -/
def GetLeft (s : ByteArray) (w : World) (e : Ending) (w' : World) : Prop := ∃ (z : Om) (er : Int), e = .returned (.tuple #[z.val, .int .i64 er]) ∧ Hid (GotK s z er) ∧ z.Ok w' w'.heap.size ∧ Below w.heap.size w w'
set_option maxHeartbeats 8000000 in
set_option maxRecDepth 100000 in
theorem opget_any (s : ByteArray) (w : World) (hT : Tabs w) (hN : Nums w) (hs : s.size ≤ 100000) : Calls Tryz.prog 12 #[.string s] w (GetLeft s w) := by
  obtain ⟨hb, hx⟩ := op_box w zeroM
  have HR := Lib.hid hx
  have HB := Lib.hid hb
  have HT := Lib.hid (Tabs.on hT hb)
  have HN := Lib.hid (hN.on hb)
  have hgl : w.heap.size < (w.alloc (.cells #[.int .i64 0, .string ⟨#[]⟩, .int .i64 0, .string ⟨#[]⟩, .int .i64 0, .string ⟨#[]⟩, .int .i64 0, .string ⟨#[]⟩, .string ⟨#[]⟩, .string ⟨#[]⟩, .int .i64 0, .string ⟨#[]⟩, .int .i64 0, .slice none 0 0, .int .i64 0, .slice none 0 0] 27)).heap.size := hx.lt
  have HN0 := Lib.hid hN
  have HT0 := Lib.hid hT
  clear hb hx hT hN
  go_enter Tryz.func12, Tryz.ntmps12
  go_upto_region 1 with (fail)
  have HR0 : Hid (OpAt (w.alloc (.cells #[.int .i64 0, .string ⟨#[]⟩, .int .i64 0, .string ⟨#[]⟩, .int .i64 0, .string ⟨#[]⟩, .int .i64 0, .string ⟨#[]⟩, .string ⟨#[]⟩, .string ⟨#[]⟩, .int .i64 0, .string ⟨#[]⟩, .int .i64 0, .slice none 0 0, .int .i64 0, .slice none 0 0] 27)) w.heap.size zeroM) := HR.out
  have HB0 : Hid (Below w.heap.size w (w.alloc (.cells #[.int .i64 0, .string ⟨#[]⟩, .int .i64 0, .string ⟨#[]⟩, .int .i64 0, .string ⟨#[]⟩, .int .i64 0, .string ⟨#[]⟩, .string ⟨#[]⟩, .string ⟨#[]⟩, .int .i64 0, .string ⟨#[]⟩, .int .i64 0, .slice none 0 0, .int .i64 0, .slice none 0 0] 27))) := HB.out
  have HT1 : Hid (Tabs (w.alloc (.cells #[.int .i64 0, .string ⟨#[]⟩, .int .i64 0, .string ⟨#[]⟩, .int .i64 0, .string ⟨#[]⟩, .int .i64 0, .string ⟨#[]⟩, .string ⟨#[]⟩, .string ⟨#[]⟩, .int .i64 0, .string ⟨#[]⟩, .int .i64 0, .slice none 0 0, .int .i64 0, .slice none 0 0] 27))) := HT.out
  have HN1 : Hid (Nums (w.alloc (.cells #[.int .i64 0, .string ⟨#[]⟩, .int .i64 0, .string ⟨#[]⟩, .int .i64 0, .string ⟨#[]⟩, .int .i64 0, .string ⟨#[]⟩, .string ⟨#[]⟩, .string ⟨#[]⟩, .int .i64 0, .string ⟨#[]⟩, .int .i64 0, .slice none 0 0, .int .i64 0, .slice none 0 0] 27))) := HN.out
  clear HR HB HT HN
  generalize (w.alloc (.cells #[.int .i64 0, .string ⟨#[]⟩, .int .i64 0, .string ⟨#[]⟩, .int .i64 0, .string ⟨#[]⟩, .int .i64 0, .string ⟨#[]⟩, .string ⟨#[]⟩, .string ⟨#[]⟩, .int .i64 0, .string ⟨#[]⟩, .int .i64 0, .slice none 0 0, .int .i64 0, .slice none 0 0] 27)) = w1 at *
  have CP := Lib.hid (opparts_any s w1)
  -- @P1
  go_wp2_with fail
  refine CP.out.mono ?_
  rintro e w2 ⟨b, g, rfl, hF, hr, hg1, hb1, hb⟩
  have HB2 := Lib.hid (HB0.out.trans (hb.mono HB0.out.size))
  have hR2 := HR0.out.on hb
  have CR := Lib.hid (opread_any w1 w2 b g s.data.toList HN1.out hb hg1 hF hr (by have : s.data.toList.length = s.size := (by simp); omega))
  clear hF hr hb1 CP HR0 HT1 HB0
  -- @P2
  go_wp2_with fail
  refine CR.out.mono ?_
  rintro e w3 ⟨z, er, rfl, hrd, hok, hfew, hg⟩
  have HRD := Lib.hid hrd.out
  have hR3 := hR2.grown hg (fun e => by simp only [Option.some.injEq] at e; omega)
  have hB3 := HB2.out.grown hg HB2.out.size (fun q hq => by simp only [Option.some.injEq] at hq; omega)
  have hbz := op_box w3 z
  have HZ := Lib.hid hbz.2
  have HR := Lib.hid (hR3.on hbz.1)
  have hB4 := hB3.trans (hbz.1.mono hB3.size)
  have HB := Lib.hid hB4
  have HT := Lib.hid (Tabs.on HT0.out hB4)
  have HN := Lib.hid (HN0.out.on hB4)
  have HSP := Lib.hid (hok.on hbz.1)
  have HFW := Lib.hid hfew.out
  have hl2 : w.heap.size < w2.heap.size := Nat.lt_of_lt_of_le hgl hb.size
  have hzg : w.heap.size < w3.heap.size := Nat.lt_of_lt_of_le hgl (Nat.le_trans hb.size hg.size)
  unfold Om.val Om.cells
  clear hrd hok hfew hg hR2 hR3 hB3 hbz hB4 CR HB2 HN1 HN0 HT0 hg1
  go_upto_region 3 with (fail)
  -- @P3
  by_cases he : er = 0
  · subst he
    cases hm : mayO z.key
    · have CX := Lib.hid (opput_no z _ HSP.out.ok HFW.out.sz HT.out hm)
      obtain ⟨zg, hzgd⟩ : ∃ q, w3.heap.size = q := ⟨_, rfl⟩
      rw [hzgd] at HZ hzg
      have q0 : ((0 : Int) != 0) = false := rfl
      generalize (w3.alloc (.cells #[.int .i64 z.kind, .string z.self.p, .int .i64 z.self.n, .string z.parent.p, .int .i64 z.parent.n, .string z.dst.p, .int .i64 z.dst.n, .string z.name, .string z.dname, .string z.left.p, .int .i64 z.left.n, .string z.right.p, .int .i64 z.right.n, .slice z.a1 z.dels.length z.c1, .int .i64 z.first, .slice z.a2 z.lines.length z.c2] 27)) = w4 at *
      have hzc := op_cells HZ.out
      have c_kind := hzc.kind
      have c_selfp := hzc.selfp
      have c_selfn := hzc.selfn
      have c_parentp := hzc.parentp
      have c_parentn := hzc.parentn
      have c_dstp := hzc.dstp
      have c_dstn := hzc.dstn
      have c_name := hzc.name
      have c_dname := hzc.dname
      have c_leftp := hzc.leftp
      have c_leftn := hzc.leftn
      have c_rightp := hzc.rightp
      have c_rightn := hzc.rightn
      have c_dels := hzc.dels
      have c_first := hzc.first
      have c_lines := hzc.lines
      go_upto_region 5 with (fail)
      -- @P5
      go_wp2_with fail
      refine CX.out.mono ?_
      rintro e w5 ⟨rfl, hb5⟩
      replace HR := Lib.hid (HR.out.on hb5)
      replace HB := Lib.hid (HB.out.trans (hb5.mono HB.out.size))
      replace HSP := Lib.hid (HSP.out.on hb5)
      replace HZ := Lib.hid (HZ.out.on hb5)
      clear hb5 CX hzc c_kind c_selfp c_selfn c_parentp c_parentn c_dstp c_dstn c_name c_dname c_leftp c_leftn c_rightp c_rightn c_dels c_first c_lines
      have HQ : Hid (OpAt (w5.setCells w.heap.size 0 (Om.cells zeroM)) w.heap.size zeroM) := Rk.At.put HR.out zeroM
      have HBQ := Lib.hid (HB.out.grown (Rk.setCells_grown w5 w.heap.size 0 (Om.cells zeroM)) HB.out.size (fun q hq => by simp only [Option.some.injEq] at hq; omega))
      have HV : Hid (GotK s zeroM 6) := ⟨fun h => absurd h (by decide), fun _ => ⟨rfl, fun k hk e => by
        have h1 := readO_put hk
        rw [← toB_list (putO k), e] at h1
        have h2 := HRD.out.symm.trans h1
        simp only [Prod.mk.injEq] at h2
        rw [← h2.1, hm] at hk
        cases hk⟩⟩
      clear hm HRD HZ HSP HFW HT HN HB
      go_wp2_with (refine wpList_store_op rfl (.tmp 2) (.tmp 32) rfl w.heap.size zeroM zeroM rfl rfl HR.out ?_; simp only [Act.put]; generalize (w5.setCells w.heap.size 0 (Om.cells zeroM)) = wq at *)
      (try simp only [Exit.inBlock, Exit.then])
      refine bodyPost_ret (ret_op2 rfl _ _ w.heap.size zeroM (.int .i64 6) rfl rfl HQ.out) rfl ?_
      exact ⟨zeroM, 6, rfl, HV, (by exact ⟨Rk.Row.nil, ⟨fun _ => rfl, Nat.le_refl _⟩, Strs.none_, ⟨fun _ => rfl, Nat.le_refl _⟩⟩), HBQ.out⟩
    · have CX := Lib.hid (opput_yes z _ HSP.out.ok HFW.out.sz HT.out HN.out hm)
      obtain ⟨pt, hpt⟩ : ∃ t, toB (putO z.key) = t := ⟨_, rfl⟩
      rw [hpt] at CX
      have HPT := Lib.hid hpt
      clear hpt
      obtain ⟨zg, hzgd⟩ : ∃ q, w3.heap.size = q := ⟨_, rfl⟩
      rw [hzgd] at HZ hzg
      have q0 : ((0 : Int) != 0) = false := rfl
      generalize (w3.alloc (.cells #[.int .i64 z.kind, .string z.self.p, .int .i64 z.self.n, .string z.parent.p, .int .i64 z.parent.n, .string z.dst.p, .int .i64 z.dst.n, .string z.name, .string z.dname, .string z.left.p, .int .i64 z.left.n, .string z.right.p, .int .i64 z.right.n, .slice z.a1 z.dels.length z.c1, .int .i64 z.first, .slice z.a2 z.lines.length z.c2] 27)) = w4 at *
      have hzc := op_cells HZ.out
      have c_kind := hzc.kind
      have c_selfp := hzc.selfp
      have c_selfn := hzc.selfn
      have c_parentp := hzc.parentp
      have c_parentn := hzc.parentn
      have c_dstp := hzc.dstp
      have c_dstn := hzc.dstn
      have c_name := hzc.name
      have c_dname := hzc.dname
      have c_leftp := hzc.leftp
      have c_leftn := hzc.leftn
      have c_rightp := hzc.rightp
      have c_rightn := hzc.rightn
      have c_dels := hzc.dels
      have c_first := hzc.first
      have c_lines := hzc.lines
      go_upto_region 5 with (fail)
      -- @P5
      go_wp2_with fail
      refine CX.out.mono ?_
      rintro e w5 ⟨rfl, hb5⟩
      replace HR := Lib.hid (HR.out.on hb5)
      replace HB := Lib.hid (HB.out.trans (hb5.mono HB.out.size))
      replace HSP := Lib.hid (HSP.out.on hb5)
      replace HZ := Lib.hid (HZ.out.on hb5)
      clear hb5 CX hzc c_kind c_selfp c_selfn c_parentp c_parentn c_dstp c_dstn c_name c_dname c_leftp c_leftn c_rightp c_rightn c_dels c_first c_lines
      by_cases hs2 : pt = s
      · have HQ : Hid (OpAt (w5.setCells w.heap.size 0 (Om.cells z)) w.heap.size z) := Rk.At.put HR.out z
        have HBQ := Lib.hid (HB.out.grown (Rk.setCells_grown w5 w.heap.size 0 (Om.cells z)) HB.out.size (fun q hq => by simp only [Option.some.injEq] at hq; omega))
        have HV : Hid (GotK s z 0) := ⟨fun _ => ⟨hm, HPT.out.trans hs2⟩, fun h => absurd rfl h⟩
        have q2 : (pt.toList == s.toList) = true := by rw [hs2]; exact str_eqb _
        have hgz : w5.grownBy (w5.setCells w.heap.size 0 (Om.cells z)) (some w.heap.size) := Rk.setCells_grown w5 w.heap.size 0 (Om.cells z)
        have HOE : Hid (z.Ok (w5.setCells w.heap.size 0 (Om.cells z)) (w5.setCells w.heap.size 0 (Om.cells z)).heap.size) := (HSP.out.grown hgz (by omega)).ok
        clear hm hs2 HRD HSP HFW HT HN HB HPT hgz
        go_wp2_with (first | (refine wpList_load_op rfl (.tmp 5) rfl zg z rfl HZ.out ?_; simp only [Act.put, List.setIfInBounds_toArray, List.set_cons_succ, List.set_cons_zero]) | (refine wpList_store_op rfl (.tmp 2) (.tmp 33) rfl w.heap.size zeroM z rfl rfl HR.out ?_; simp only [Act.put]; generalize (w5.setCells w.heap.size 0 (Om.cells z)) = wq at *))
        (try simp only [Exit.inBlock, Exit.then])
        refine bodyPost_ret (ret_op2 rfl _ _ w.heap.size z (.int .i64 0) rfl rfl HQ.out) rfl ?_
        exact ⟨z, 0, rfl, HV, HOE.out, HBQ.out⟩
      · have HQ : Hid (OpAt (w5.setCells w.heap.size 0 (Om.cells zeroM)) w.heap.size zeroM) := Rk.At.put HR.out zeroM
        have HBQ := Lib.hid (HB.out.grown (Rk.setCells_grown w5 w.heap.size 0 (Om.cells zeroM)) HB.out.size (fun q hq => by simp only [Option.some.injEq] at hq; omega))
        have HV : Hid (GotK s zeroM 6) := ⟨fun h => absurd h (by decide), fun _ => ⟨rfl, fun k hk e => by
          have h1 := readO_put hk
          rw [← toB_list (putO k), e] at h1
          have h2 := HRD.out.symm.trans h1
          simp only [Prod.mk.injEq] at h2
          rw [← h2.1] at e
          exact hs2 (HPT.out.symm.trans e)⟩⟩
        have q2 : (pt.toList == s.toList) = false := str_ne hs2
        clear hm hs2 HRD HZ HSP HFW HT HN HB HPT
        go_wp2_with (refine wpList_store_op rfl (.tmp 2) (.tmp 32) rfl w.heap.size zeroM zeroM rfl rfl HR.out ?_; simp only [Act.put]; generalize (w5.setCells w.heap.size 0 (Om.cells zeroM)) = wq at *)
        (try simp only [Exit.inBlock, Exit.then])
        refine bodyPost_ret (ret_op2 rfl _ _ w.heap.size zeroM (.int .i64 6) rfl rfl HQ.out) rfl ?_
        exact ⟨zeroM, 6, rfl, HV, (by exact ⟨Rk.Row.nil, ⟨fun _ => rfl, Nat.le_refl _⟩, Strs.none_, ⟨fun _ => rfl, Nat.le_refl _⟩⟩), HBQ.out⟩
  · generalize (w3.alloc (.cells #[.int .i64 z.kind, .string z.self.p, .int .i64 z.self.n, .string z.parent.p, .int .i64 z.parent.n, .string z.dst.p, .int .i64 z.dst.n, .string z.name, .string z.dname, .string z.left.p, .int .i64 z.left.n, .string z.right.p, .int .i64 z.right.n, .slice z.a1 z.dels.length z.c1, .int .i64 z.first, .slice z.a2 z.lines.length z.c2] 27)) = w4 at *
    have HQ : Hid (OpAt (w4.setCells w.heap.size 0 (Om.cells zeroM)) w.heap.size zeroM) := Rk.At.put HR.out zeroM
    have HBQ := Lib.hid (HB.out.grown (Rk.setCells_grown w4 w.heap.size 0 (Om.cells zeroM)) HB.out.size (fun q hq => by simp only [Option.some.injEq] at hq; omega))
    have HV : Hid (GotK s zeroM er) := ⟨fun h => absurd h he, fun _ => ⟨rfl, fun k hk e => by
      have h1 := readO_put hk
      rw [← toB_list (putO k), e] at h1
      have h2 := HRD.out.symm.trans h1
      simp only [Prod.mk.injEq] at h2
      exact he h2.2⟩⟩
    have q1 : (er != 0) = true := by rw [bne_iff_ne]; exact he
    clear he HRD HZ HSP HFW HT HN HB
    go_wp2_with (refine wpList_store_op rfl (.tmp 2) (.tmp 18) rfl w.heap.size zeroM zeroM rfl rfl HR.out ?_; simp only [Act.put]; generalize (w4.setCells w.heap.size 0 (Om.cells zeroM)) = wq at *)
    (try simp only [Exit.inBlock, Exit.then])
    refine bodyPost_ret (ret_op2 rfl _ _ w.heap.size zeroM (.int .i64 er) rfl rfl HQ.out) rfl ?_
    exact ⟨zeroM, er, rfl, HV, (by exact ⟨Rk.Row.nil, ⟨fun _ => rfl, Nat.le_refl _⟩, Strs.none_, ⟨fun _ => rfl, Nat.le_refl _⟩⟩), HBQ.out⟩
end Go.Proofs.YtioknegeebgdbaaGreatDoor
