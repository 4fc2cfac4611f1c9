/- Package op: the function that reads an operation's parts. -/
import Derived.BigRegion
import Derived.Deep.RegionWith
import Derived.BigQuiet
import Derived.Deep.QuietTactic
import Derived.Deep.CutRange
import Derived.StillTailTactics
import Derived.Test.YtoajckhfnadhjaaGreatDoorCk07
namespace Go.Proofs.YtoajckhfnadhjaaGreatDoor
open Go.RowKit
set_option linter.unusedVariables false

/-- What is read is no more than its bytes. -/
structure Om.Few (x : Om) : Prop where
  self : x.self.p.size ≤ 40
  parent : x.parent.p.size ≤ 40
  dst : x.dst.p.size ≤ 40
  left : x.left.p.size ≤ 40
  right : x.right.p.size ≤ 40
  name : x.name.size ≤ 500000
  dname : x.dname.size ≤ 500000
  few : x.dels.length ≤ 500000
  dels : ∀ i ∈ x.dels, i.p.size ≤ 40
  rows : x.lines.length ≤ 500000
  lines : ∀ l ∈ x.lines, l.length ≤ 500000
theorem Om.Few.sz {x : Om} (h : x.Few) : x.Sz :=
  ⟨by have := h.self; omega, by have := h.parent; omega, by have := h.dst; omega, by have := h.left; omega, by have := h.right; omega, by have := h.name; omega, by have := h.dname; omega, by have := h.few; omega, fun i hi => by have := h.dels i hi; omega, by have := h.rows; omega, fun l hl => by have := h.lines l hl; omega⟩
theorem sTexts_small (n : Nat) (s : St) : (sTexts n s).2.1.length ≤ s.1.length := by
  induction n with
  | zero => exact Nat.le_refl _
  | succ n ih =>
    have := (sText_len (sTexts n s).2).1
    show (sText (sTexts n s).2).2.1.length ≤ _
    omega
/-- The array of ids, of which n were read. -/
noncomputable def mk5 (n : Nat) (s : St) : List Im := ((sTexts n s).1.map fun t => imOf (idOfK t)) ++ List.replicate (5 - n) ⟨⟨#[]⟩, 0⟩
theorem mk5_len {n : Nat} (s : St) (h : n ≤ 5) : (mk5 n s).length = 5 := by
  unfold mk5
  rw [List.length_append, List.length_map, sTexts_len, List.length_replicate]
  omega
theorem mk5_set {n : Nat} (s : St) (h : n < 5) : (mk5 n s).set n (imOf (idOfK (sText (sTexts n s).2).1)) = mk5 (n + 1) s := by
  unfold mk5
  have hl : ((sTexts n s).1.map fun t => imOf (idOfK t)).length = n := by rw [List.length_map, sTexts_len]
  obtain ⟨m, hm⟩ : ∃ m, 5 - n = m + 1 := ⟨4 - n, by omega⟩
  have hm2 : 5 - (n + 1) = m := by omega
  rw [hm, hm2, List.set_append_right _ _ (by rw [hl]; exact Nat.le_refl _), hl, Nat.sub_self, List.replicate_succ, List.set_cons_zero]
  show _ = (((sTexts n s).1 ++ [(sText (sTexts n s).2).1]).map fun t => imOf (idOfK t)) ++ _
  rw [List.map_append, List.append_assoc]
  rfl
theorem mk5_five (s : St) : mk5 5 s = [imOf (idOfK ((sTexts 5 s).1.getD 0 [])), imOf (idOfK ((sTexts 5 s).1.getD 1 [])), imOf (idOfK ((sTexts 5 s).1.getD 2 [])), imOf (idOfK ((sTexts 5 s).1.getD 3 [])), imOf (idOfK ((sTexts 5 s).1.getD 4 []))] := by
  unfold mk5
  have h := sTexts_len 5 s
  match hx : (sTexts 5 s).1, h with
  | [a, b, c, d, e], _ => rfl
theorem arr_new (w : World) : Arr (w.alloc (.cells #[.string ⟨#[]⟩, .int .i64 0, .string ⟨#[]⟩, .int .i64 0, .string ⟨#[]⟩, .int .i64 0, .string ⟨#[]⟩, .int .i64 0, .string ⟨#[]⟩, .int .i64 0] 85)) w.heap.size (mk5 0 ([], 0)) := heap_alloc_new w _
theorem arr_indexAt {a k : Nat} (hk : k < 5) (W : World) : (Instr.indexAt 85 (.pointer (some ⟨a, 0, none⟩)) (.int .i64 (k : Int))).run Tryz.prog W = .ok (.pointer (some ⟨a, k * 2, none⟩)) W := by
  obtain ⟨i, hi⟩ := info_id
  have hs : (sizeOf 40).run Tryz.prog W = .ok 2 W := by rw [run_sizeOf W hi, cells_id]
  have e1 : Tryz.prog.arrayLen 85 = 5 := by kernel_rfl
  have e2 : Tryz.prog.elem 85 = 40 := by kernel_rfl
  rw [run_indexAt_array (h := by rw [e1, e2]; exact Tryz.underlying85), e1, e2, if_pos (by omega), hs, Result.andThen_ok]
  have e3 : (⟨a, 0, none⟩ : Addr).add ((k : Int).toNat * 2) = ⟨a, k * 2, none⟩ := by unfold Addr.add; split <;> simp_all
  rw [e3]
/-- What the function leaves: an operation, and an error; no other block than the reader's has changed. -/
def PartsLeft (w : World) (g : Nat) (l : List UInt8) (e : Ending) (w' : World) : Prop :=
  ∃ (z : Om) (er : Int), e = .returned (.tuple #[z.val, .int .i64 er]) ∧ Hid (readO l = (z.key, er)) ∧ z.Sep w' w.heap.size ∧ Hid z.Few ∧ w.grownBy w' (some g)
set_option maxHeartbeats 8000000 in
set_option maxRecDepth 100000 in
theorem opread_any (W0 w : World) (b g : Nat) (l : List UInt8) (hN : Nums W0) (hb0 : Below W0.heap.size W0 w) (hg0 : W0.heap.size ≤ g) (hF : FnAt w b g) (hr : RdS w g (l, 0)) (hl : l.length ≤ 500000) :
    Calls Tryz.prog 125 #[.pointer (some ⟨b, 0, none⟩)] w (PartsLeft w g l) := by
  obtain ⟨hb, h1, h2⟩ := op_box2 w zeroM zeroM
  have hP0 : PS w b g w.heap.size (w.heap.size + 1) ((w.alloc (.cells #[.int .i64 0, .string ⟨#[]⟩, .int .i64 0, .string ⟨#[]⟩, .int .i64 0, .string ⟨#[]⟩, .int .i64 0, .string ⟨#[]⟩, .string ⟨#[]⟩, .string ⟨#[]⟩, .int .i64 0, .string ⟨#[]⟩, .int .i64 0, .slice none 0 0, .int .i64 0, .slice none 0 0] 42)).alloc (.cells #[.int .i64 0, .string ⟨#[]⟩, .int .i64 0, .string ⟨#[]⟩, .int .i64 0, .string ⟨#[]⟩, .int .i64 0, .string ⟨#[]⟩, .string ⟨#[]⟩, .string ⟨#[]⟩, .int .i64 0, .string ⟨#[]⟩, .int .i64 0, .slice none 0 0, .int .i64 0, .slice none 0 0] 42)) (l, 0) zeroM := ⟨Rk.grown_below (Rk.grown_refl w g) hb, hr.below hb, h1, h2⟩
  have HPS := Lib.hid hP0
  have L : Hid (PL w b g w.heap.size (w.heap.size + 1)) := ⟨hF, Nat.le_refl _, by omega, by omega⟩
  have HNB := Lib.hid (fun (W : World) (s : St) (z : Om) (h : PS w b g w.heap.size (w.heap.size + 1) W s z) => h.nums hN hb0 hg0)
  obtain ⟨s1, hs1⟩ : ∃ s : St, s = (l, 0) := ⟨_, rfl⟩
  have hl1 : s1.1.length ≤ 500000 := by rw [hs1]; show l.length ≤ _; omega
  rw [← hs1] at HPS
  have HS1 := Lib.hid hs1
  clear hb h1 h2 hP0 hF hr hN hb0 hg0 hs1
  go_enter Tryz.func125, Tryz.ntmps125
  go_upto_region 2 with (fail)
  generalize ((w.alloc (.cells #[.int .i64 0, .string ⟨#[]⟩, .int .i64 0, .string ⟨#[]⟩, .int .i64 0, .string ⟨#[]⟩, .int .i64 0, .string ⟨#[]⟩, .string ⟨#[]⟩, .string ⟨#[]⟩, .int .i64 0, .string ⟨#[]⟩, .int .i64 0, .slice none 0 0, .int .i64 0, .slice none 0 0] 42)).alloc (.cells #[.int .i64 0, .string ⟨#[]⟩, .int .i64 0, .string ⟨#[]⟩, .int .i64 0, .string ⟨#[]⟩, .int .i64 0, .string ⟨#[]⟩, .string ⟨#[]⟩, .string ⟨#[]⟩, .int .i64 0, .string ⟨#[]⟩, .int .i64 0, .slice none 0 0, .int .i64 0, .slice none 0 0] 42)) = V0 at *
  -- @R2
  obtain ⟨n1, hn1⟩ : ∃ n, (sNum s1).1 = n := ⟨_, rfl⟩
  obtain ⟨t1, ht1⟩ : ∃ t, (sNum s1).2 = t := ⟨_, rfl⟩
  have CQ := Lib.hid (rnum_any g s1 _ HPS.out.rd (Nat.le_trans hl1 (by decide)))
  have hl1n : t1.1.length ≤ 500000 := by rw [← ht1]; exact Nat.le_trans (sNum_len _) hl1
  rw [hn1, ht1] at CQ
  have HN1 := Lib.hid hn1
  have HT1 := Lib.hid ht1
  have bx := HPS.out.box L.out
  clear hn1 ht1
  go_wp2_with fail
  refine CQ.out.mono ?_
  rintro e W1 ⟨rfl, hr, hg⟩
  replace HPS := Lib.hid (HPS.out.read L.out hr hg)
  have k0 := (op_cells HPS.out.op).kind
  have f0 := Rk.At.fz HPS.out.op 0
  replace HPS := Lib.hid (HPS.out.put L.out (op_put0 HPS.out.op (wrap64 (n1 : Int))) (grown_cell1 _ _ _ _))
  clear hr hg CQ bx
  go_upto_region 3 with (fail)
  generalize (W1.setCell ⟨w.heap.size + 1, 0, none⟩ (.int .i64 (wrap64 (n1 : Int)))) = V1 at *
  clear k0 f0
  obtain ⟨s2, hs2⟩ : ∃ s, s = t1 := ⟨_, rfl⟩
  subst hs2
  -- @R3
  obtain ⟨n2, hn2⟩ : ∃ n, (sNum s2).1 = n := ⟨_, rfl⟩
  obtain ⟨t2, ht2⟩ : ∃ t, (sNum s2).2 = t := ⟨_, rfl⟩
  have CQ := Lib.hid (rnum_any g s2 _ HPS.out.rd (Nat.le_trans hl1n (by decide)))
  have hl2n : t2.1.length ≤ 500000 := by rw [← ht2]; exact Nat.le_trans (sNum_len _) hl1n
  rw [hn2, ht2] at CQ
  have HN2 := Lib.hid hn2
  have HT2 := Lib.hid ht2
  have bx := HPS.out.box L.out
  clear hn2 ht2
  go_wp2_with fail
  refine CQ.out.mono ?_
  rintro e W2 ⟨rfl, hr, hg⟩
  replace HPS := Lib.hid (HPS.out.read L.out hr hg)
  have k0 := (op_cells HPS.out.op).first
  have f0 := Rk.At.fz HPS.out.op 14
  replace HPS := Lib.hid (HPS.out.put L.out (op_put14 HPS.out.op (wrap64 (n2 : Int))) (grown_cell1 _ _ _ _))
  clear hr hg CQ bx
  go_upto_region 4 with (fail)
  generalize (W2.setCell ⟨w.heap.size + 1, 14, none⟩ (.int .i64 (wrap64 (n2 : Int)))) = V2 at *
  clear k0 f0
  -- @R4
  have HG0 := HPS
  have harr := arr_new V2
  have hal : Below V2.heap.size V2 (V2.alloc (.cells #[.string ⟨#[]⟩, .int .i64 0, .string ⟨#[]⟩, .int .i64 0, .string ⟨#[]⟩, .int .i64 0, .string ⟨#[]⟩, .int .i64 0, .string ⟨#[]⟩, .int .i64 0] 85)) := (Below.refl _ _).alloc (Nat.le_refl _) _
  have hge : w.heap.size + 1 < V2.heap.size := HPS.out.op.lt
  replace HPS := Lib.hid (HPS.out.on hal)
  have HA := Lib.hid harr
  clear hal harr HG0
  go_upto_region 5 with (fail)
  generalize (V2.alloc (.cells #[.string ⟨#[]⟩, .int .i64 0, .string ⟨#[]⟩, .int .i64 0, .string ⟨#[]⟩, .int .i64 0, .string ⟨#[]⟩, .int .i64 0, .string ⟨#[]⟩, .int .i64 0] 85)) = V3 at *
  generalize hga : V2.heap.size = ga at *
  clear hga
  have HAN : Hid (ga ≠ w.heap.size ∧ ga ≠ w.heap.size + 1 ∧ w.heap.size ≤ ga ∧ ga ≠ g) := ⟨by omega, by omega, by omega, by have := L.out.fn.gl; omega⟩
  clear hge
  -- @R5
  go_wp2
  go_loopw [16] (fun iv wr => ∃ k : Nat, k ≤ 5 ∧ iv = .int .i64 (k : Int) ∧ Hid (PS w b g w.heap.size (w.heap.size + 1) wr (sTexts k t2).2 { zeroM with kind := wrap64 (n1 : Int), first := wrap64 (n2 : Int) }) ∧ Hid (Arr wr ga (mk5 k t2))) (fun iv _ => 5 - (intOf iv).toNat)
  case atStart => exact ⟨0, by omega, rfl, HPS.out, HA.out⟩
  case round =>
    clear HPS HA
    obtain ⟨k, hk, rfl, hps, harr⟩ := hrel
    by_cases hlt : k < 5
    · have hk5 : k < (mk5 k t2).length := by rw [mk5_len t2 hk]; exact hlt
      obtain ⟨st, hst⟩ : ∃ s, (sTexts k t2).2 = s := ⟨_, rfl⟩
      have hls : st.1.length ≤ 500000 := by rw [← hst]; exact Nat.le_trans (sTexts_small _ _) hl2n
      rw [hst] at hps
      obtain ⟨tx, htx⟩ : ∃ t, (sText st).1 = t := ⟨_, rfl⟩
      obtain ⟨sn, hsn⟩ : ∃ s, (sText st).2 = s := ⟨_, rfl⟩
      have CT := Lib.hid (rtext_any g st wr hps.out.rd (Nat.le_trans hls (by decide)))
      have htl : tx.length ≤ 500000 := by rw [← htx]; exact Nat.le_trans (sText_len _).2 hls
      rw [htx, hsn] at CT
      have HSN : Hid (sn = (sTexts (k + 1) t2).2) := by show _ = (sText (sTexts k t2).2).2; rw [hst, hsn]
      have HM5 : Hid ((mk5 k t2).set k (imOf (idOfK tx)) = mk5 (k + 1) t2) := by have h := mk5_set t2 hlt; rw [hst, htx] at h; exact h
      have CI := Lib.hid (fun W (hW : PS w b g w.heap.size (w.heap.size + 1) W sn { zeroM with kind := wrap64 (n1 : Int), first := wrap64 (n2 : Int) }) => opidof_any (toB tx) W (HNB.out W _ _ hW) (by rw [toB_size]; exact Nat.le_trans htl (by decide)))
      have IA := arr_indexAt (a := ga) hlt
      have bx := hps.out.box L.out
      have u0 : (k : Int) < 5 := by omega
      clear hst htx hsn hls htl
      generalize mk5 k t2 = m at *
      -- @R6
      go_wp2_with fail
      refine CT.out.mono ?_
      rintro e wa ⟨rfl, hr, hg⟩
      have HP1 := Lib.hid (hps.out.read L.out hr hg)
      have HA1 := Lib.hid (harr.out.grown hg (fun e => HAN.out.2.2.2 (by simp only [Option.some.injEq] at e; exact e.symm)))
      clear hps harr hr hg CT bx
      go_wp2_with fail
      refine (CI.out _ HP1.out).mono ?_
      rintro e wc ⟨rfl, hb⟩
      have HP2 := Lib.hid (HP1.out.on hb)
      have HA2 := Lib.hid (HA1.out.on hb)
      have hc := HA2.out.cell hk5
      have c0 := hc.1
      have c1 := hc.2
      have f0 := HA2.out.fz (k * 2)
      have f1 := HA2.out.fz (k * 2 + 1)
      obtain ⟨y, hy⟩ : ∃ y, idM (toB tx) = y := ⟨_, rfl⟩
      rw [hy]
      have hy2 : imOf (idOfK tx) = y := by rw [← hy]; unfold idM; rw [toB_list]
      have hg2 := Rk.grown_both (grownBy_set wc ga (k * 2) (.string y.p)) (grownBy_set _ ga (k * 2 + 1) (.int .i64 y.n))
      have hA3 := HA2.out.put hk5 y
      rw [← hy2, HM5.out, hy2] at hA3
      have HA3 := Lib.hid hA3
      have hP3 := HP2.out.arr L.out HAN.out.2.2.1 HAN.out.1 HAN.out.2.1 hg2
      rw [HSN.out] at hP3
      have HP3 := Lib.hid hP3
      clear hb hc hy hy2 hg2 hA3 hP3 HP1 HP2 HA1 HA2 HM5 HSN CI
      go_wp2
      go_roundw
      case rel => exact ⟨k + 1, by omega, by go_num, HP3.out, HA3.out⟩
      case measure => simp [intOf]; omega
    · have hk5 : k = 5 := by omega
      have u5 : ¬ (k : Int) < 5 := by omega
      replace hps := Lib.hid (hk5 ▸ hps.out)
      replace harr := Lib.hid (hk5 ▸ harr.out)
      -- @R10
      have e5 := mk5_five t2
      obtain ⟨y0, hy0⟩ : ∃ y, imOf (idOfK ((sTexts 5 t2).1.getD 0 [])) = y := ⟨_, rfl⟩
      obtain ⟨y1, hy1⟩ : ∃ y, imOf (idOfK ((sTexts 5 t2).1.getD 1 [])) = y := ⟨_, rfl⟩
      obtain ⟨y2, hy2⟩ : ∃ y, imOf (idOfK ((sTexts 5 t2).1.getD 2 [])) = y := ⟨_, rfl⟩
      obtain ⟨y3, hy3⟩ : ∃ y, imOf (idOfK ((sTexts 5 t2).1.getD 3 [])) = y := ⟨_, rfl⟩
      obtain ⟨y4, hy4⟩ : ∃ y, imOf (idOfK ((sTexts 5 t2).1.getD 4 [])) = y := ⟨_, rfl⟩
      obtain ⟨s3, hs3⟩ : ∃ s, (sTexts 5 t2).2 = s := ⟨_, rfl⟩
      have hl3 : s3.1.length ≤ 500000 := by rw [← hs3]; exact Nat.le_trans (sTexts_small _ _) hl2n
      rw [hy0, hy1, hy2, hy3, hy4] at e5
      have hA := harr.out
      rw [e5] at hA
      have hP := hps.out
      rw [hs3] at hP
      have HY0 := Lib.hid hy0
      have HY1 := Lib.hid hy1
      have HY2 := Lib.hid hy2
      have HY3 := Lib.hid hy3
      have HY4 := Lib.hid hy4
      have HS3 := Lib.hid hs3
      have a0 : wr.cell? ⟨ga, 0, none⟩ = some (.string y0.p) := (hA.cell (j := 0) (by simp)).1
      have b0 : wr.cell? ⟨ga, 1, none⟩ = some (.int .i64 y0.n) := (hA.cell (j := 0) (by simp)).2
      have a1 : wr.cell? ⟨ga, 2, none⟩ = some (.string y1.p) := (hA.cell (j := 1) (by simp)).1
      have b1 : wr.cell? ⟨ga, 3, none⟩ = some (.int .i64 y1.n) := (hA.cell (j := 1) (by simp)).2
      have a2 : wr.cell? ⟨ga, 4, none⟩ = some (.string y2.p) := (hA.cell (j := 2) (by simp)).1
      have b2 : wr.cell? ⟨ga, 5, none⟩ = some (.int .i64 y2.n) := (hA.cell (j := 2) (by simp)).2
      have a3 : wr.cell? ⟨ga, 6, none⟩ = some (.string y3.p) := (hA.cell (j := 3) (by simp)).1
      have b3 : wr.cell? ⟨ga, 7, none⟩ = some (.int .i64 y3.n) := (hA.cell (j := 3) (by simp)).2
      have a4 : wr.cell? ⟨ga, 8, none⟩ = some (.string y4.p) := (hA.cell (j := 4) (by simp)).1
      have b4 : wr.cell? ⟨ga, 9, none⟩ = some (.int .i64 y4.n) := (hA.cell (j := 4) (by simp)).2
      have i0 : ∀ W, (Instr.indexAt 85 (.pointer (some ⟨ga, 0, none⟩)) (.int .i64 0)).run Tryz.prog W = .ok (.pointer (some ⟨ga, 0, none⟩)) W := fun W => arr_indexAt (a := ga) (k := 0) (by decide) W
      have i1 : ∀ W, (Instr.indexAt 85 (.pointer (some ⟨ga, 0, none⟩)) (.int .i64 1)).run Tryz.prog W = .ok (.pointer (some ⟨ga, 2, none⟩)) W := fun W => arr_indexAt (a := ga) (k := 1) (by decide) W
      have i2 : ∀ W, (Instr.indexAt 85 (.pointer (some ⟨ga, 0, none⟩)) (.int .i64 2)).run Tryz.prog W = .ok (.pointer (some ⟨ga, 4, none⟩)) W := fun W => arr_indexAt (a := ga) (k := 2) (by decide) W
      have i3 : ∀ W, (Instr.indexAt 85 (.pointer (some ⟨ga, 0, none⟩)) (.int .i64 3)).run Tryz.prog W = .ok (.pointer (some ⟨ga, 6, none⟩)) W := fun W => arr_indexAt (a := ga) (k := 3) (by decide) W
      have i4 : ∀ W, (Instr.indexAt 85 (.pointer (some ⟨ga, 0, none⟩)) (.int .i64 4)).run Tryz.prog W = .ok (.pointer (some ⟨ga, 8, none⟩)) W := fun W => arr_indexAt (a := ga) (k := 4) (by decide) W
      have oc := op_cells hP.op
      have q1 := oc.selfp
      have q2 := oc.selfn
      have q3 := oc.parentp
      have q4 := oc.parentn
      have q5 := oc.dstp
      have q6 := oc.dstn
      have q9 := oc.leftp
      have q10 := oc.leftn
      have q11 := oc.rightp
      have q12 := oc.rightn
      have z1 := Rk.At.fz hP.op 1
      have z2 := Rk.At.fz hP.op 2
      have z3 := Rk.At.fz hP.op 3
      have z4 := Rk.At.fz hP.op 4
      have z5 := Rk.At.fz hP.op 5
      have z6 := Rk.At.fz hP.op 6
      have z9 := Rk.At.fz hP.op 9
      have z10 := Rk.At.fz hP.op 10
      have z11 := Rk.At.fz hP.op 11
      have z12 := Rk.At.fz hP.op 12
      have HP := Lib.hid hP
      have hP2 := HP.out.put L.out (op_put5 HP.out.op y0 y1 y2 y3 y4) (grown_put5 wr (w.heap.size + 1) y0 y1 y2 y3 y4)
      have HP2 := Lib.hid hP2
      clear hk5 hk hlt e5 hy0 hy1 hy2 hy3 hy4 hs3 hA hP oc harr hps hP2
      have hne : ga ≠ w.heap.size + 1 := HAN.out.2.1
      go_upto_region 10 with (fail)
      clear u5
      generalize (k : Int) = kz at *
      have HPS := Lib.hid (HP2.out.on ((Below.refl _ _).drew))
      go_cut [25] from 26 to 39 (fun _ wx => wx = (put5 wr (w.heap.size + 1) y0 y1 y2 y3 y4).drew)
      case first =>
        -- @R10f
        go_region
        go_wp2_with fail
        go_meet
        case rel => rfl
      case rest =>
      replace hcut := hcut.symm
      subst hcut
      clear i0 i1 i2 i3 i4 a0 a1 a2 a3 a4 b0 b1 b2 b3 b4 q1 q2 q3 q4 q5 q6 q9 q10 q11 q12 z1 z2 z3 z4 z5 z6 z9 z10 z11 z12 HP2 HP hne
      generalize (put5 wr (w.heap.size + 1) y0 y1 y2 y3 y4).drew = V4 at *
      go_upto_region 11 with (fail)
      -- @R11
      obtain ⟨x3, hx3⟩ : ∃ t, (sText s3).1 = t := ⟨_, rfl⟩
      obtain ⟨t3, ht3⟩ : ∃ t, (sText s3).2 = t := ⟨_, rfl⟩
      have CQ := Lib.hid (rtext_any g s3 _ HPS.out.rd (Nat.le_trans hl3 (by decide)))
      have hl3n : t3.1.length ≤ 500000 := by rw [← ht3]; exact Nat.le_trans (sText_len _).1 hl3
      rw [hx3, ht3] at CQ
      have HX3 := Lib.hid hx3
      have HT3 := Lib.hid ht3
      have bx := HPS.out.box L.out
      clear hx3 ht3
      go_wp2_with fail
      refine CQ.out.mono ?_
      rintro e W3 ⟨rfl, hr, hg⟩
      replace HPS := Lib.hid (HPS.out.read L.out hr hg)
      have k0 := (op_cells HPS.out.op).name
      have f0 := Rk.At.fz HPS.out.op 7
      replace HPS := Lib.hid (HPS.out.put L.out (op_put7 HPS.out.op (toB x3)) (grown_cell1 _ _ _ _))
      clear hr hg CQ bx
      go_upto_region 12 with (fail)
      generalize (W3.setCell ⟨w.heap.size + 1, 7, none⟩ (.string (toB x3))) = V3 at *
      clear k0 f0
      have hl4 := hl3n
      -- @R12
      obtain ⟨x4, hx4⟩ : ∃ t, (sText t3).1 = t := ⟨_, rfl⟩
      obtain ⟨t4, ht4⟩ : ∃ t, (sText t3).2 = t := ⟨_, rfl⟩
      have CQ := Lib.hid (rtext_any g t3 _ HPS.out.rd (Nat.le_trans hl4 (by decide)))
      have hl4n : t4.1.length ≤ 500000 := by rw [← ht4]; exact Nat.le_trans (sText_len _).1 hl4
      rw [hx4, ht4] at CQ
      have HX4 := Lib.hid hx4
      have HT4 := Lib.hid ht4
      have bx := HPS.out.box L.out
      clear hx4 ht4
      go_wp2_with fail
      refine CQ.out.mono ?_
      rintro e W4 ⟨rfl, hr, hg⟩
      replace HPS := Lib.hid (HPS.out.read L.out hr hg)
      have k0 := (op_cells HPS.out.op).dname
      have f0 := Rk.At.fz HPS.out.op 8
      replace HPS := Lib.hid (HPS.out.put L.out (op_put8 HPS.out.op (toB x4)) (grown_cell1 _ _ _ _))
      clear hr hg CQ bx
      go_upto_region 13 with (fail)
      generalize (W4.setCell ⟨w.heap.size + 1, 8, none⟩ (.string (toB x4))) = V4 at *
      clear k0 f0
      -- @R13
      obtain ⟨tl, htl⟩ : ∃ t, (sList t4).1 = t := ⟨_, rfl⟩
      obtain ⟨t5, ht5⟩ : ∃ t, (sList t4).2 = t := ⟨_, rfl⟩
      have CQ := Lib.hid (rlist_any g t4 _ HPS.out.rd (Nat.le_trans hl4n (by decide)))
      have hl5n : t5.1.length ≤ 500000 := by rw [← ht5]; exact Nat.le_trans (sList_len _).1 hl4n
      have htn : tl.length ≤ 500000 := by rw [← htl]; exact Nat.le_trans (sList_len _).2.1 hl4n
      have htx : Hid (∀ x ∈ tl, x.length ≤ 500000) := by intro x hx; rw [← htl] at hx; exact Nat.le_trans ((sList_len t4).2.2 x hx) hl4n
      unfold ListLeft at CQ
      rw [htl, ht5] at CQ
      have HTL := Lib.hid htl
      have HT5 := Lib.hid ht5
      have bx := HPS.out.box L.out
      have hob : w.heap.size + 1 < V4.heap.size := HPS.out.op.lt
      clear htl ht5
      go_wp2_with fail
      refine CQ.out.mono ?_
      rintro e W5 ⟨At, nt, ct, rfl, hnt, hown, hroom, hr, hg⟩
      replace HPS := Lib.hid (HPS.out.read L.out hr hg)
      have hin := owns_in hown
      have HIN : Hid (∀ k, (Value.slice At nt ct).ownBlock = some k → w.heap.size + 1 < k ∧ k < W5.heap.size) := fun k hk => ⟨by have := (hin k hk).1; omega, (hin k hk).2⟩
      have HOT := Lib.hid hown
      have hob5 : w.heap.size + 1 < W5.heap.size := HPS.out.op.lt
      have HBB := Lib.hid hob5
      have HNT := Lib.hid hnt
      have hntl : nt ≤ 500000 := by rw [hnt]; exact htn
      clear hr hg hown hin CQ bx hob hnt hroom htn
      -- @R13a
      generalize hBt : V4.heap.size = Bt at *
      clear hBt
      -- @R13b
      obtain ⟨zc, hzc⟩ : ∃ zc : Om, zc = ⟨wrap64 (n1 : Int), y0, y1, y2, toB x3, toB x4, y3, y4, none, 0, [], wrap64 (n2 : Int), none, 0, []⟩ := ⟨_, rfl⟩
      have HZC := Lib.hid hzc
      have HPZ : Hid (PS w b g w.heap.size (w.heap.size + 1) W5 t5 { zc with a1 := none, dels := [], c1 := 0 }) := by rw [hzc]; exact HPS.out
      have HOI : Hid (OwnId W5 W5.heap.size (.slice none 0 0) []) := Rk.Own.nil _ _
      clear hzc HPS
      obtain ⟨Bd, hBd⟩ : ∃ B, W5.heap.size = B := ⟨_, rfl⟩
      have HBD : Hid (Bd ≤ W5.heap.size) := by show _ ≤ _; omega
      rw [hBd] at HOI HIN HBB hob5
      clear hBd
      -- @R14
      go_wp2
      -- @R14a
      go_loopw [49] (fun iv wr => ∃ (k : Nat) (A : Option Addr) (c : Nat) (zs : List Im), k ≤ nt ∧ iv = .int .i64 (k : Int) ∧ Hid (zs.length = k) ∧ Hid (ikeys zs = (tl.take k).map idOfK) ∧ Hid (PS w b g w.heap.size (w.heap.size + 1) wr t5 { zc with a1 := A, dels := zs, c1 := c }) ∧ Hid (OwnId wr Bd (.slice A zs.length c) zs) ∧ Hid (OwnS wr Bt (.slice At nt ct) tl) ∧ Hid (Bd ≤ wr.heap.size)) (fun iv _ => nt - (intOf iv).toNat)
      case atStart => exact ⟨0, none, 0, [], Nat.zero_le _, rfl, rfl, by show _ = _; rw [List.take_zero]; rfl, HPZ.out, HOI.out, HOT.out, HBD.out⟩
      case round =>
        clear HPZ HOI HOT HBD
        obtain ⟨k, A, c, zs, hk, rfl, hzl, hzk, hps, hoi, hot, hbd⟩ := hrel
        by_cases hlt : k < nt
        · have hkt : k < tl.length := by rw [← HNT.out]; exact hlt
          -- @R15
          obtain ⟨tx, htx0⟩ : ∃ t, tl[k] = t := ⟨_, rfl⟩
          have htxl : tx.length ≤ 500000 := by rw [← htx0]; exact htx.out _ (List.getElem_mem hkt)
          have hsr := hot.out.at_.1
          obtain ⟨bs, os, eA, hbs, hcs⟩ := hsr.at_ (k := k) (by rw [toBs_len]; exact hkt)
          have hcell : wr.cell? ⟨bs, os + k, none⟩ = some (.string (toB tx)) := by rw [hcs]; congr 2; rw [← htx0]; simp [toBs]
          have IA := str_indexAt (c := ct) eA hlt
          obtain ⟨y, hy⟩ : ∃ y, idM (toB tx) = y := ⟨_, rfl⟩
          have CI := Lib.hid (fun W (hW : Below wr.heap.size wr W) => opidof_any (toB tx) W ((HNB.out wr _ _ hps.out).on hW) (by rw [toB_size]; exact Nat.le_trans htxl (by decide)))
          rw [hy] at CI
          -- @R15a
          have HKN : Hid (ikeys (zs ++ [y]) = (tl.take (k + 1)).map idOfK) := by
            show _ = _
            rw [List.take_succ_eq_append_getElem hkt, List.map_append, ← hzk.out, ikeys, List.map_append, htx0]
            show ikeys zs ++ [y.key] = ikeys zs ++ [idOfK tx]
            rw [← hy, idM_key, toB_list]
          have u0 : (0 : Int) ≤ (k : Int) := by omega
          have u1 : (k : Int) < (nt : Int) := by omega
          have hle : zs.length + [y].length ≤ 1000000 := by have h1 := hzl.out; simp only [List.length_cons, List.length_nil]; omega
          obtain ⟨M, hM⟩ : ∃ M, M = zs.length + [y].length := ⟨_, rfl⟩
          have HM := Lib.hid hM
          have HZL2 : Hid ((zs ++ [y]).length = k + 1) := by show _ = _; rw [List.length_append, hzl.out]; rfl
          clear htx0 htxl hsr hbs hcs hy eA hM hzk
          -- @R15b
          go_upto_region 16 with (fail)
          -- @R16
          have hdr : Below wr.heap.size wr wr.drew := (Below.refl _ _).drew
          have HDR := Lib.hid hdr
          have hpd := hps.out.on hdr
          have x0 := (op_cells hpd.op).dels
          have x1 := (op_cells hps.out.op).dels
          have HPD := Lib.hid hpd
          clear hdr hpd hcell IA
          go_region_law (first
            | (refine idR.step_append (by rfl) _ _ (by rfl) Bd (.slice A zs.length c) zs [y] (by rfl) HO5.out (some ⟨w5.heap.size, 0, none⟩) 1 1 (by rfl) rfl (fun e => by cases e) HY5.out hBs5.out hle M HM.out ?_
               intro A6 c6 w6 ho6 hg6
               have hp6 := HP5.out.own L.out (fun q hq => by have h1 := HO5.out.block q hq; have h2 := HBB.out; exact ⟨by omega, by omega, by omega⟩) hg6
               have d0 := (op_cells hp6.op).dels
               have d1 := Rk.At.fz hp6.op 13)
            | (go_simp
               go_at_call 126
               refine (CI.out _ HDR.out).mono ?_
               rintro e w5 ⟨rfl, hb5⟩
               have hbx := id_box w5 y
               have hp5 := (HPD.out.on hb5)
               have z0 := (op_cells hp5.op).dels
               have HP5 := Lib.hid (hp5.on hbx.1)
               have z1 := (op_cells HP5.out.op).dels
               have hb7 := (HDR.out.trans (hb5.mono HDR.out.size)).trans (hbx.1.mono (Nat.le_trans HDR.out.size hb5.size))
               have HO5 := Lib.hid (hoi.out.kept hb7)
               have HT5b := Lib.hid (hot.out.kept hb7)
               have HY5 := Lib.hid (hbx.2.row)
               have hBs5 : Hid (Bd ≤ (w5.alloc (.cells #[.string y.p, .int .i64 y.n] 40)).heap.size) := Nat.le_trans hbd.out hb7.size))
          all_goals
            have eM : M = (zs ++ [y]).length := by rw [HM.out, List.length_append]
            have hp7 := hp6.put L.out (op_put13 hp6.op A6 (zs ++ [y]) M c6 eM) (grown_cell1 w6 (w.heap.size + 1) 13 (.slice A6 M c6))
            have hg7 := grown_cell1 w6 (w.heap.size + 1) 13 (.slice A6 M c6)
            have ht6 := owns_grown HT5b.out hg6 (fun q hq e => by have h1 := (HIN.out q hq).2; have h2 := HO5.out.block q e; omega)
            have ht7 := owns_grown ht6 hg7 (fun q hq e => by have h1 := (HIN.out q hq).1; simp only [Option.some.injEq] at e; omega)
            have ho7 := ho6.grown hg7 (fun q hq e => by have h1 := ho6.block q hq; have h2 := HBB.out; simp only [Option.some.injEq] at e; omega)
            have hs7 : Bd ≤ (w6.setCell ⟨w.heap.size + 1, 13, none⟩ (.slice A6 M c6)).heap.size := Nat.le_trans hBs5.out (Nat.le_trans hg6.size hg7.size)
            have ho8 : OwnId (w6.setCell ⟨w.heap.size + 1, 13, none⟩ (.slice A6 M c6)) Bd (.slice A6 (zs ++ [y]).length c6) (zs ++ [y]) := by rw [← eM]; exact ho7
            have HP7 := Lib.hid hp7
            have HO8 := Lib.hid ho8
            have HT7 := Lib.hid ht7
            have HS7 := Lib.hid hs7
            clear eM hp7 hg7 ht6 ht7 ho7 hs7 ho8 hp6 d0 d1 ho6 hg6 HP5 HO5 HT5b HY5 hBs5 HM hps hoi hot hbd HPD HDR CI x0 x1 hle hp5 hb7 hbx hb5
            (try clear z0)
            (try clear z1)
            generalize (w6.setCell ⟨w.heap.size + 1, 13, none⟩ (.slice A6 M c6)) = w7 at *
            go_wp2
            go_roundw
            case rel => exact ⟨k + 1, A6, c6, zs ++ [y], by omega, by go_num, HZL2, HKN, HP7.out, HO8.out, HT7.out, HS7.out⟩
            case measure => simp [intOf]; omega
        · -- @R18
          have hkn : k = nt := by omega
          have u1 : ¬ (k : Int) < (nt : Int) := by omega
          have HKA : Hid (ikeys zs = tl.map idOfK) := by show _ = _; rw [hzk.out, hkn, HNT.out, List.take_length]
          have HZN : Hid (zs.length = tl.length) := by show _ = _; rw [hzl.out, hkn, HNT.out]
          obtain ⟨ll, hll⟩ : ∃ t, (sList t5).1 = t := ⟨_, rfl⟩
          obtain ⟨t6, ht6⟩ : ∃ t, (sList t5).2 = t := ⟨_, rfl⟩
          have CQ := Lib.hid (rlist_any g t5 _ hps.out.rd (Nat.le_trans hl5n (by decide)))
          have hlln : ll.length ≤ 500000 := by rw [← hll]; exact Nat.le_trans (sList_len _).2.1 hl5n
          have HLX : Hid (∀ x ∈ ll, x.length ≤ 500000) := by intro x hx; rw [← hll] at hx; exact Nat.le_trans ((sList_len t5).2.2 x hx) hl5n
          unfold ListLeft at CQ
          rw [hll, ht6] at CQ
          have HLL := Lib.hid hll
          have HT6 := Lib.hid ht6
          have bx := hps.out.box L.out
          have hob : w.heap.size + 1 < wr.heap.size := hps.out.op.lt
          have hgB : g < Bd := by have h1 := L.out.fn.gl; have h2 := HBB.out; omega
          clear hll ht6 hlt hkn hzk hzl hk HIN
          go_wp2_with fail
          refine CQ.out.mono ?_
          rintro e W8 ⟨A2, n2', c2, rfl, hn2, hown, hroom, hr, hg⟩
          have hps8 := hps.out.read L.out hr hg
          have hoi8 := hoi.out.grown hg (fun q hq e => by have h1 := hoi.out.block q hq; simp only [Option.some.injEq] at e; omega)
          have k0 := (op_cells hps8.op).lines
          have f0 := Rk.At.fz hps8.op 15
          have hg9 := grown_cell1 W8 (w.heap.size + 1) 15 (.slice A2 n2' c2)
          have hps9 := hps8.put L.out (op_put15 hps8.op A2 ll n2' c2 hn2) hg9
          have hoi9 := hoi8.grown hg9 (fun q hq e => by have h1 := hoi8.block q hq; have h2 := HBB.out; simp only [Option.some.injEq] at e; omega)
          have how9 := owns_grown hown hg9 (fun q hq e => by have h1 := (owns_in hown q hq).1; simp only [Option.some.injEq] at e; omega)
          have HPS := Lib.hid hps9
          have HOI := Lib.hid hoi9
          have HOW := Lib.hid how9
          have HNL := Lib.hid hn2
          have HRM := Lib.hid hroom
          clear hps8 hoi8 hg9 hps9 hoi9 how9 hn2 hown hroom hr hg CQ bx hps hoi hot hbd hgB
          go_upto_region 19 with (fail)
          generalize (W8.setCell ⟨w.heap.size + 1, 15, none⟩ (.slice A2 n2' c2)) = W9 at *
          clear k0 f0 u1
          -- @R19
          obtain ⟨zf, hzf⟩ : ∃ z : Om, z = ⟨wrap64 (n1 : Int), y0, y1, y2, toB x3, toB x4, y3, y4, A, c, zs, wrap64 (n2 : Int), A2, c2, ll⟩ := ⟨_, rfl⟩
          have HP9 : Hid (PS w b g w.heap.size (w.heap.size + 1) W9 t6 zf) := by
            have h := HPS.out
            rw [HZC.out] at h
            rw [hzf]
            exact h
          have HZF := Lib.hid hzf
          clear hzf HPS
          have hpd := HP9.out.on ((Below.refl _ _).drew)
          have HPD := Lib.hid hpd
          have bx := hpd.box L.out
          have HE := Lib.hid (err_any g t6.1 t6.2 W9.drew hpd.rd)
          clear hpd
          refine wp_region_still_tail 3 (by kernel_rfl) (by kernel_rfl) ?_
          simp only [List.take_succ_cons, List.take_zero, List.drop_succ_cons, List.drop_zero]
          change wpStill _ _ W9.drew _ _ _
          refine wpStill_step (fun K hK => ?_)
          refine still_load_op (by rfl) _ (by rfl) (w.heap.size + 1) zf (by rfl) HPD.out.op ?_
          simp only [Act.put, List.setIfInBounds_toArray, List.set_cons_succ, List.set_cons_zero]
          refine hK _ ?_
          clear hK K
          still_step
          still_call (HE.out.mono fun e w'' h => ⟨h.1, h.2.symm⟩)
          refine wpStill_nil ?_
          change wpList _ _ _ _ _ W9.drew
          -- @R20
          refine wpList_store_op rfl (.tmp 1) (.tmp 64) rfl w.heap.size zeroM zf rfl rfl HPD.out.res ?_
          have hq := Rk.At.put HPD.out.res zf
          have hgs := Rk.setCells_grown W9.drew w.heap.size 0 zf.cells
          have hdr : Below W9.heap.size W9 W9.drew := (Below.refl _ _).drew
          have hB2 := HBB.out
          have hoi := (HOI.out.kept hdr).grown hgs (fun q hq e => by have h1 := HOI.out.block q hq; simp only [Option.some.injEq] at e; omega)
          have how := owns_grown (HOW.out.kept hdr) hgs (fun q hq e => by have h1 := (owns_in HOW.out q hq).1; simp only [Option.some.injEq] at e; omega)
          have HFIN := Lib.hid (HPD.out.fin L.out hgs)
          have HQ : Hid (OpAt (W9.drew.setCells w.heap.size 0 zf.cells) w.heap.size zf) := hq
          have hws : w.heap.size ≤ wr.heap.size := by omega
          have HOK : Hid (zf.Sep (W9.drew.setCells w.heap.size 0 zf.cells) w.heap.size) := by
            rw [HNL.out] at how
            rw [HZF.out] at hoi how ⊢
            exact ⟨Rk.Own.lower hoi (by omega), OwnS.more how hws⟩
          have HFEW : Hid zf.Few := by
            -- @Rb
            rw [HZF.out]
            refine ⟨?_, ?_, ?_, ?_, ?_, ?_, ?_, ?_, ?_, hlln, HLX.out⟩
            · show y0.p.size ≤ 40
              rw [← HY0.out]
              exact imOf_short _
            · show y1.p.size ≤ 40
              rw [← HY1.out]
              exact imOf_short _
            · show y2.p.size ≤ 40
              rw [← HY2.out]
              exact imOf_short _
            · show y3.p.size ≤ 40
              rw [← HY3.out]
              exact imOf_short _
            · show y4.p.size ≤ 40
              rw [← HY4.out]
              exact imOf_short _
            · show (toB x3).size ≤ 500000
              rw [toB_size, ← HX3.out]
              exact Nat.le_trans (sText_len _).2 hl3
            · show (toB x4).size ≤ 500000
              rw [toB_size, ← HX4.out]
              exact Nat.le_trans (sText_len _).2 hl4
            · show zs.length ≤ 500000
              rw [HZN.out, ← HNT.out]
              exact hntl
            · intro i hi
              have h1 : i.key ∈ tl.map idOfK := by rw [← HKA.out]; exact mem_ikeys.2 hi
              obtain ⟨t, _, e⟩ := List.mem_map.1 h1
              have h2 := idOfK_short t
              rw [e] at h2
              have h3 : i.key.1.length = i.p.size := by show i.p.data.toList.length = _; simp
              omega
          have HV : Hid (readO l = (zf.key, t6.2)) := by
            -- @Rc
            show _ = _
            unfold readO
            simp only [← HS1.out, HN1.out, HT1.out, HN2.out, HT2.out, HS3.out, HX3.out, HT3.out, HX4.out, HT4.out, HTL.out, HT5.out, HLL.out, HT6.out]
            rw [HZF.out]
            unfold Om.key
            simp only [← HY0.out, ← HY1.out, ← HY2.out, ← HY3.out, ← HY4.out, imOf_key, toB_list, HKA.out, wrap_is]
          clear hq hgs hdr hoi how bx hws
          simp only [Act.put]
          generalize (W9.drew.setCells w.heap.size 0 zf.cells) = wq at *
          -- @R21
          go_wp2
          (try simp only [Exit.inBlock, Exit.then])
          refine bodyPost_ret (ret_op2 rfl _ _ w.heap.size zf (.int .i64 t6.2) rfl rfl HQ.out) rfl ?_
          exact ⟨zf, t6.2, rfl, HV, HOK.out, HFEW, HFIN.out⟩
end Go.Proofs.YtoajckhfnadhjaaGreatDoor
