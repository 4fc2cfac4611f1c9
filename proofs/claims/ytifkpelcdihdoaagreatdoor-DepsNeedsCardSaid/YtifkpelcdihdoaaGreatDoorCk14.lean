/- The reference's Same of rows of operations. The reference's Same of layer 13. -/
import Derived.Deep.CutRange
import Derived.Deep.MidRow
import Derived.Test.YtifkpelcdihdoaaGreatDoorCk13
namespace Go.Proofs.YtifkpelcdihdoaaGreatDoor
open Go.RowKit
set_option linter.unusedVariables false

theorem op_range {w : World} {b o k : Nat} {x : Om} (h : ∀ (r : Nat) (u : Value), (opR.enc x)[r]? = some u → w.cell? ⟨b, o + k * opR.k + r, none⟩ = some u) :
    w.rangeAt b (o + k * 16) [.int .i64 x.kind, .string x.self.p, .int .i64 x.self.n, .string x.parent.p, .int .i64 x.parent.n, .string x.dst.p, .int .i64 x.dst.n, .string x.name, .string x.dname, .string x.left.p, .int .i64 x.left.n, .string x.right.p, .int .i64 x.right.n, .slice x.a1 x.dels.length x.c1, .int .i64 x.first, .slice x.a2 x.lines.length x.c2] := fun j v hv => h j v hv
theorem refisamek_any (A A2 : Option Addr) (l m : List Im) (c c2 : Nat) (w : World) (hs : Ids w w.heap.size A l) (ht : Ids w w.heap.size A2 m) (hn : l.length ≤ 900000) (hn2 : m.length ≤ 900000) (r : Bool) (hr : decide (ikeys l = ikeys m) = r) :
    Calls Tryz.prog 76 #[.slice A l.length c, .slice A2 m.length c2] w fun e w' => e = .returned (.bool r) ∧ Below w.heap.size w w' := by
  have h := refisame_any A A2 l m c c2 w hs ht (by omega) (by omega)
  rw [show decide (l = m) = r by rw [← hr]; exact decide_eq_decide.2 ⟨fun e => by rw [e], fun e => ikeys_inj e⟩] at h
  exact h
theorem refsamek_any (A A2 : Option Addr) (l m : List (List UInt8)) (c c2 : Nat) (w : World) (hs : Strs w w.heap.size A (toBs l)) (ht : Strs w w.heap.size A2 (toBs m)) (hn : l.length ≤ 900000) (hn2 : m.length ≤ 900000) (r : Bool) (hr : decide (l = m) = r) :
    Calls Tryz.prog 10 #[.slice A l.length c, .slice A2 m.length c2] w fun e w' => e = .returned (.bool r) ∧ Below w.heap.size w w' := by
  have h := same_q A A2 (toBs l) (toBs m) c c2 w hs ht (by rw [toBs_len]; omega) (by rw [toBs_len]; omega)
  rw [toBs_len, toBs_len, show decide (toBs l = toBs m) = r by rw [← hr]; exact decide_eq_decide.2 ⟨fun e => by rw [← lists_toBs l, e, lists_toBs], fun e => by rw [e]⟩] at h
  exact h.mono fun e w' ⟨h, q, hq⟩ => ⟨h, by rw [hq]; exact below_drewN (Below.refl _ _) q⟩
theorem opk_ext {a b : OpK} (h1 : a.kind = b.kind) (h2 : a.self = b.self) (h3 : a.parent = b.parent) (h4 : a.dst = b.dst) (h5 : a.name = b.name) (h6 : a.dname = b.dname) (h7 : a.left = b.left) (h8 : a.right = b.right) (h9 : a.dels = b.dels) (h10 : a.first = b.first) (h11 : a.lines = b.lines) : a = b := by
  obtain ⟨⟩ := a
  obtain ⟨⟩ := b
  simp only at *
  subst h1 h2 h3 h4 h5 h6 h7 h8 h9 h10 h11
  rfl
set_option maxHeartbeats 8000000 in
set_option maxRecDepth 100000 in
theorem refosame_any (A A2 : Option Addr) (l m : List Om) (c c2 : Nat) (w : World) (hs : Ops w w.heap.size A l) (ht : Ops w w.heap.size A2 m) (hl : OpsFew l) (hm : OpsFew m) (hn : l.length ≤ 100000) (hn2 : m.length ≤ 100000) (RES : Bool) (hr : decide (okeys l = okeys m) = RES) :
    Calls Tryz.prog 53 #[.slice A l.length c, .slice A2 m.length c2] w fun e w' => e = .returned (.bool RES) ∧ Below w.heap.size w w' := by
  have HR := Lib.hid hr
  have HS := Lib.hid hs
  have HT := Lib.hid ht
  have HL := Lib.hid hl
  have HM := Lib.hid hm
  clear hr hs ht hl hm
  by_cases hlen : l.length = m.length
  · have b1 : (((l.length : Int)) != (m.length : Int)) = false := by simp; omega
    have HLEN := Lib.hid hlen
    clear hlen
    go_enter Tryz.func53, Tryz.ntmps53
    go_wp2
    go_loopw [5] (fun i wr => ∃ k : Nat, k ≤ l.length ∧ i = .int .i64 (k : Int) ∧ Hid (∀ j (hj : j < l.length) (hj2 : j < m.length), j < k → l[j].key = m[j].key) ∧ Hid (Below w.heap.size w wr)) (fun i _ => l.length - (intOf i).toNat)
    case atStart => exact ⟨0, Nat.zero_le _, rfl, fun j _ _ h => absurd h (by omega), Below.refl _ _⟩
    case round =>
      obtain ⟨k, hk, rfl, hall, hbr⟩ := hrel
      by_cases hlt : k < l.length
      · have hlt2 : k < m.length := by have := HLEN.out; omega
        have hS := HS.out.on hbr.out
        have hT := HT.out.on hbr.out
        have HNO : Hid (l[k].key ≠ m[k].key → RES = false) := fun h => by
          rw [← HR.out, decide_eq_false_iff_not]
          intro e
          refine h ?_
          have h1 : (okeys l)[k]? = some l[k].key := by simp [okeys, hlt]
          have h2 : (okeys m)[k]? = some m[k].key := by simp [okeys, hlt2]
          rw [e, h2] at h1
          exact (Option.some.inj h1).symm
        have HYES : Hid (l[k].key = m[k].key → Hid (∀ j (hj : j < l.length) (hj2 : j < m.length), j < k + 1 → l[j].key = m[j].key)) := fun e j hj hj2 hjk => by
          by_cases ej : j = k
          · subst ej; exact e
          · exact hall.out j hj hj2 (by omega)
        have ox := hS.2 l[k] (List.getElem_mem _)
        have oy := hT.2 m[k] (List.getElem_mem _)
        have LX := Lib.hid (HL.out l[k] (List.getElem_mem _))
        have LY := Lib.hid (HM.out m[k] (List.getElem_mem _))
        obtain ⟨b, off, rfl, hbB, hcx⟩ := hS.1.get hlt
        obtain ⟨b', off', rfl, hbB', hcy⟩ := hT.1.get hlt2
        generalize l[k] = x at *
        generalize m[k] = y at *
        have RX := Lib.hid (op_range hcx)
        obtain ⟨hbx, hX⟩ := op_box wr x
        have RY := Lib.hid (op_range (w := wr.alloc (.cells #[.int .i64 x.kind, .string x.self.p, .int .i64 x.self.n, .string x.parent.p, .int .i64 x.parent.n, .string x.dst.p, .int .i64 x.dst.n, .string x.name, .string x.dname, .string x.left.p, .int .i64 x.left.n, .string x.right.p, .int .i64 x.right.n, .slice x.a1 x.dels.length x.c1, .int .i64 x.first, .slice x.a2 x.lines.length x.c2] 84)) fun r u hu => (hbx.cell (p := ⟨b', _, none⟩) hbB').trans (hcy r u hu))
        obtain ⟨hby, hY⟩ := op_box (wr.alloc (.cells #[.int .i64 x.kind, .string x.self.p, .int .i64 x.self.n, .string x.parent.p, .int .i64 x.parent.n, .string x.dst.p, .int .i64 x.dst.n, .string x.name, .string x.dname, .string x.left.p, .int .i64 x.left.n, .string x.right.p, .int .i64 x.right.n, .slice x.a1 x.dels.length x.c1, .int .i64 x.first, .slice x.a2 x.lines.length x.c2] 84)) y
        have hbxy := hbx.trans (hby.mono hbx.size)
        have HF : Hid (Below w.heap.size w ((wr.alloc (.cells #[.int .i64 x.kind, .string x.self.p, .int .i64 x.self.n, .string x.parent.p, .int .i64 x.parent.n, .string x.dst.p, .int .i64 x.dst.n, .string x.name, .string x.dname, .string x.left.p, .int .i64 x.left.n, .string x.right.p, .int .i64 x.right.n, .slice x.a1 x.dels.length x.c1, .int .i64 x.first, .slice x.a2 x.lines.length x.c2] 84)).alloc (.cells #[.int .i64 y.kind, .string y.self.p, .int .i64 y.self.n, .string y.parent.p, .int .i64 y.parent.n, .string y.dst.p, .int .i64 y.dst.n, .string y.name, .string y.dname, .string y.left.p, .int .i64 y.left.n, .string y.right.p, .int .i64 y.right.n, .slice y.a1 y.dels.length y.c1, .int .i64 y.first, .slice y.a2 y.lines.length y.c2] 84))) := hbr.out.trans (hbxy.mono hbr.out.size)
        have OX := Lib.hid (ox.on hbxy)
        have OY := Lib.hid (oy.on hbxy)
        have HX := Lib.hid (hX.on hby)
        have HY := Lib.hid hY
        have u0 : (0 : Int) ≤ (k : Int) := by omega
        have u1 : (k : Int) < (l.length : Int) := by omega
        have u2 : (k : Int) < (m.length : Int) := by omega
        clear hS hT ox oy hcx hcy hbx hby hX hY hbxy hall hbr hbB hbB'
        -- @P1
        go_upto_region 7 with (refine wpList_load_mid rfl 84 _ rfl b (off + k * 16) rfl [.int .i64 x.kind, .string x.self.p, .int .i64 x.self.n, .string x.parent.p, .int .i64 x.parent.n, .string x.dst.p, .int .i64 x.dst.n, .string x.name, .string x.dname, .string x.left.p, .int .i64 x.left.n, .string x.right.p, .int .i64 x.right.n, .slice x.a1 x.dels.length x.c1, .int .i64 x.first, .slice x.a2 x.lines.length x.c2] _ RX.out Tryz.underlying84 rfl (by kernel_rfl) ?_)
        generalize (wr.alloc (.cells #[.int .i64 x.kind, .string x.self.p, .int .i64 x.self.n, .string x.parent.p, .int .i64 x.parent.n, .string x.dst.p, .int .i64 x.dst.n, .string x.name, .string x.dname, .string x.left.p, .int .i64 x.left.n, .string x.right.p, .int .i64 x.right.n, .slice x.a1 x.dels.length x.c1, .int .i64 x.first, .slice x.a2 x.lines.length x.c2] 84)) = wa at *
        -- @P2
        go_upto_region 8 with (refine wpList_load_mid rfl 84 _ rfl b' (off' + k * 16) rfl [.int .i64 y.kind, .string y.self.p, .int .i64 y.self.n, .string y.parent.p, .int .i64 y.parent.n, .string y.dst.p, .int .i64 y.dst.n, .string y.name, .string y.dname, .string y.left.p, .int .i64 y.left.n, .string y.right.p, .int .i64 y.right.n, .slice y.a1 y.dels.length y.c1, .int .i64 y.first, .slice y.a2 y.lines.length y.c2] _ RY.out Tryz.underlying84 rfl (by kernel_rfl) ?_)
        generalize (wa.alloc (.cells #[.int .i64 y.kind, .string y.self.p, .int .i64 y.self.n, .string y.parent.p, .int .i64 y.parent.n, .string y.dst.p, .int .i64 y.dst.n, .string y.name, .string y.dname, .string y.left.p, .int .i64 y.left.n, .string y.right.p, .int .i64 y.right.n, .slice y.a1 y.dels.length y.c1, .int .i64 y.first, .slice y.a2 y.lines.length y.c2] 84)) = wb at *
        clear RX RY
        generalize (Value.agg #[.int .i64 x.kind, .string x.self.p, .int .i64 x.self.n, .string x.parent.p, .int .i64 x.parent.n, .string x.dst.p, .int .i64 x.dst.n, .string x.name, .string x.dname, .string x.left.p, .int .i64 x.left.n, .string x.right.p, .int .i64 x.right.n, .slice x.a1 x.dels.length x.c1, .int .i64 x.first, .slice x.a2 x.lines.length x.c2]) = vx
        generalize (Value.agg #[.int .i64 y.kind, .string y.self.p, .int .i64 y.self.n, .string y.parent.p, .int .i64 y.parent.n, .string y.dst.p, .int .i64 y.dst.n, .string y.name, .string y.dname, .string y.left.p, .int .i64 y.left.n, .string y.right.p, .int .i64 y.right.n, .slice y.a1 y.dels.length y.c1, .int .i64 y.first, .slice y.a2 y.lines.length y.c2]) = vy
        -- @P3
        have HFB : ∀ {W : World}, Below w.heap.size w W → Hid (Below w.heap.size w W) := fun h => h
        have cx_kind := (op_cells HX.out).kind
        have cy_kind := (op_cells HY.out).kind
        by_cases h1 : x.kind = y.kind
        · have q1_0 : (x.kind != y.kind) = false := by simpa using h1
          have q1_1 : (x.kind == y.kind) = true := by simpa using h1
          have HH1_0 : Hid (x.key.kind = y.key.kind) := h1
          clear h1
          have cx_selfp := (op_cells HX.out).selfp
          have cx_selfn := (op_cells HX.out).selfn
          have cy_selfp := (op_cells HY.out).selfp
          have cy_selfn := (op_cells HY.out).selfn
          by_cases h2 : x.self = y.self
          · have q2_0 : ∀ W, (binOp .neq 81 (.agg #[.string x.self.p, .int .i64 x.self.n]) (.agg #[.string y.self.p, .int .i64 y.self.n])).run Tryz.prog W = .ok (.bool false) W := fun W => by rw [neq_id, decide_eq_true h2]; rfl
            have HH2_0 : Hid (x.key.self = y.key.self) := by show x.self.key = y.self.key; rw [h2]
            clear h2
            have cx_parentp := (op_cells HX.out).parentp
            have cx_parentn := (op_cells HX.out).parentn
            have cy_parentp := (op_cells HY.out).parentp
            have cy_parentn := (op_cells HY.out).parentn
            by_cases h3 : x.parent = y.parent
            · have q3_0 : ∀ W, (binOp .neq 81 (.agg #[.string x.parent.p, .int .i64 x.parent.n]) (.agg #[.string y.parent.p, .int .i64 y.parent.n])).run Tryz.prog W = .ok (.bool false) W := fun W => by rw [neq_id, decide_eq_true h3]; rfl
              have HH3_0 : Hid (x.key.parent = y.key.parent) := by show x.parent.key = y.parent.key; rw [h3]
              clear h3
              have cx_dstp := (op_cells HX.out).dstp
              have cx_dstn := (op_cells HX.out).dstn
              have cy_dstp := (op_cells HY.out).dstp
              have cy_dstn := (op_cells HY.out).dstn
              by_cases h4 : x.dst = y.dst
              · have q4_0 : ∀ W, (binOp .neq 81 (.agg #[.string x.dst.p, .int .i64 x.dst.n]) (.agg #[.string y.dst.p, .int .i64 y.dst.n])).run Tryz.prog W = .ok (.bool false) W := fun W => by rw [neq_id, decide_eq_true h4]; rfl
                have HH4_0 : Hid (x.key.dst = y.key.dst) := by show x.dst.key = y.dst.key; rw [h4]
                clear h4
                have cx_leftp := (op_cells HX.out).leftp
                have cx_leftn := (op_cells HX.out).leftn
                have cy_leftp := (op_cells HY.out).leftp
                have cy_leftn := (op_cells HY.out).leftn
                by_cases h5 : x.left = y.left
                · have q5_0 : ∀ W, (binOp .neq 81 (.agg #[.string x.left.p, .int .i64 x.left.n]) (.agg #[.string y.left.p, .int .i64 y.left.n])).run Tryz.prog W = .ok (.bool false) W := fun W => by rw [neq_id, decide_eq_true h5]; rfl
                  have HH5_0 : Hid (x.key.left = y.key.left) := by show x.left.key = y.left.key; rw [h5]
                  clear h5
                  have cx_rightp := (op_cells HX.out).rightp
                  have cx_rightn := (op_cells HX.out).rightn
                  have cy_rightp := (op_cells HY.out).rightp
                  have cy_rightn := (op_cells HY.out).rightn
                  by_cases h6 : x.right = y.right
                  · have q6_0 : ∀ W, (binOp .neq 81 (.agg #[.string x.right.p, .int .i64 x.right.n]) (.agg #[.string y.right.p, .int .i64 y.right.n])).run Tryz.prog W = .ok (.bool false) W := fun W => by rw [neq_id, decide_eq_true h6]; rfl
                    have HH6_0 : Hid (x.key.right = y.key.right) := by show x.right.key = y.right.key; rw [h6]
                    clear h6
                    have cx_name := (op_cells HX.out).name
                    have cy_name := (op_cells HY.out).name
                    by_cases h7 : x.name = y.name
                    · have q7_0 : (x.name.toList == y.name.toList) = true := by rw [h7]; exact str_eqb _
                      have HH7_0 : Hid (x.key.name = y.key.name) := by show x.name.data.toList = y.name.data.toList; rw [h7]
                      clear h7
                      have cx_dname := (op_cells HX.out).dname
                      have cy_dname := (op_cells HY.out).dname
                      by_cases h8 : x.dname = y.dname
                      · have q8_0 : (x.dname.toList == y.dname.toList) = true := by rw [h8]; exact str_eqb _
                        have HH8_0 : Hid (x.key.dname = y.key.dname) := by show x.dname.data.toList = y.dname.data.toList; rw [h8]
                        clear h8
                        have cx_first := (op_cells HX.out).first
                        have cy_first := (op_cells HY.out).first
                        by_cases h9 : x.first = y.first
                        · have q9_0 : (x.first != y.first) = false := by simpa using h9
                          have q9_1 : (x.first == y.first) = true := by simpa using h9
                          have HH9_0 : Hid (x.key.first = y.key.first) := h9
                          clear h9
                          obtain ⟨b10, hb10⟩ : ∃ b, decide (x.key.dels = y.key.dels) = b := ⟨_, rfl⟩
                          have HQ10 := Lib.hid hb10
                          have cx_dels := (op_cells HX.out).dels
                          have cy_dels := (op_cells HY.out).dels
                          -- @L1
                          go_wp2_with fail
                          have HG : Hid (Below wb.heap.size wb wb) := Below.refl _ _
                          have CQ := Lib.hid (fun W (hW : Below wb.heap.size wb W) => refisamek_any x.a1 y.a1 x.dels y.dels x.c1 y.c1 W (OX.out.on hW).dels (OY.out.on hW).dels LX.out.1 LY.out.1 b10 hb10)
                          clear hb10
                          refine (CQ.out _ HG.out).mono ?_
                          rintro e w10 ⟨rfl, hb⟩
                          replace HX := Lib.hid (HX.out.on hb)
                          replace HY := Lib.hid (HY.out.on hb)
                          replace HF := Lib.hid (HF.out.trans (hb.mono HF.out.size))
                          replace HG := Lib.hid (HG.out.trans (hb.mono HG.out.size))
                          clear hb CQ cx_dels cy_dels
                          cases b10
                          · have HHf : Hid (x.key.dels ≠ y.key.dels) := Lib.hid (of_decide_eq_false HQ10.out)
                            have HV := HNO.out fun e => HHf.out (congrArg OpK.dels e)
                            clear HNO HYES OX OY HX HY LX LY HR HS HT HL HM HLEN
                            -- @L2
                            go_wp2
                            go_ret
                            rw [HV]
                            exact ⟨rfl, HF.out⟩
                          · have HHt10 : Hid (x.key.dels = y.key.dels) := Lib.hid (of_decide_eq_true HQ10.out)
                            obtain ⟨b11, hb11⟩ : ∃ b, decide (x.key.lines = y.key.lines) = b := ⟨_, rfl⟩
                            have HQ11 := Lib.hid hb11
                            have cx_lines := (op_cells HX.out).lines
                            have cy_lines := (op_cells HY.out).lines
                            -- @L3
                            go_wp2_with fail
                            have CQ := Lib.hid (fun W (hW : Below wb.heap.size wb W) => refsamek_any x.a2 y.a2 x.lines y.lines x.c2 y.c2 W (OX.out.on hW).lines (OY.out.on hW).lines LX.out.2 LY.out.2 b11 hb11)
                            clear hb11
                            refine (CQ.out _ HG.out).mono ?_
                            rintro e w11 ⟨rfl, hb⟩
                            replace HX := Lib.hid (HX.out.on hb)
                            replace HY := Lib.hid (HY.out.on hb)
                            replace HF := Lib.hid (HF.out.trans (hb.mono HF.out.size))
                            replace HG := Lib.hid (HG.out.trans (hb.mono HG.out.size))
                            clear hb CQ cx_lines cy_lines
                            cases b11
                            · have HHf : Hid (x.key.lines ≠ y.key.lines) := Lib.hid (of_decide_eq_false HQ11.out)
                              have HV := HNO.out fun e => HHf.out (congrArg OpK.lines e)
                              clear HNO HYES OX OY HX HY LX LY HR HS HT HL HM HLEN
                              -- @L4
                              go_wp2
                              go_ret
                              rw [HV]
                              exact ⟨rfl, HF.out⟩
                            · have HHt11 : Hid (x.key.lines = y.key.lines) := Lib.hid (of_decide_eq_true HQ11.out)
                              have HE := HYES.out (opk_ext HH1_0.out HH2_0.out HH3_0.out HH4_0.out HH7_0.out HH8_0.out HH5_0.out HH6_0.out HHt10.out HH9_0.out HHt11.out)
                              clear HNO HYES
                              -- @L5
                              go_wp2
                              go_roundw
                              case rel => exact ⟨k + 1, by omega, by go_num, HE, HFB HF.out⟩
                              case measure => simp [intOf]; omega
                        · have q9_0 : (x.first != y.first) = true := by simpa using h9
                          have q9_1 : (x.first == y.first) = false := by simpa using h9
                          have HH9_0 : Hid (x.key.first ≠ y.key.first) := h9
                          clear h9
                          have HV := HNO.out fun e => HH9_0.out (congrArg OpK.first e)
                          clear HNO HYES OX OY HX HY LX LY HR HS HT HL HM HLEN
                          -- @L6
                          go_wp2
                          go_ret
                          rw [HV]
                          exact ⟨rfl, HF.out⟩
                      · have q8_0 : (x.dname.toList == y.dname.toList) = false := str_ne h8
                        have HH8_0 : Hid (x.key.dname ≠ y.key.dname) := fun e => h8 (bytes_inj e)
                        clear h8
                        have HV := HNO.out fun e => HH8_0.out (congrArg OpK.dname e)
                        clear HNO HYES OX OY HX HY LX LY HR HS HT HL HM HLEN
                        -- @L7
                        go_wp2
                        go_ret
                        rw [HV]
                        exact ⟨rfl, HF.out⟩
                    · have q7_0 : (x.name.toList == y.name.toList) = false := str_ne h7
                      have HH7_0 : Hid (x.key.name ≠ y.key.name) := fun e => h7 (bytes_inj e)
                      clear h7
                      have HV := HNO.out fun e => HH7_0.out (congrArg OpK.name e)
                      clear HNO HYES OX OY HX HY LX LY HR HS HT HL HM HLEN
                      -- @L8
                      go_wp2
                      go_ret
                      rw [HV]
                      exact ⟨rfl, HF.out⟩
                  · have q6_0 : ∀ W, (binOp .neq 81 (.agg #[.string x.right.p, .int .i64 x.right.n]) (.agg #[.string y.right.p, .int .i64 y.right.n])).run Tryz.prog W = .ok (.bool true) W := fun W => by rw [neq_id, decide_eq_false h6]; rfl
                    have HH6_0 : Hid (x.key.right ≠ y.key.right) := fun e => h6 (Im.key_inj e)
                    clear h6
                    have HV := HNO.out fun e => HH6_0.out (congrArg OpK.right e)
                    clear HNO HYES OX OY HX HY LX LY HR HS HT HL HM HLEN
                    -- @L9
                    go_wp2
                    go_ret
                    rw [HV]
                    exact ⟨rfl, HF.out⟩
                · have q5_0 : ∀ W, (binOp .neq 81 (.agg #[.string x.left.p, .int .i64 x.left.n]) (.agg #[.string y.left.p, .int .i64 y.left.n])).run Tryz.prog W = .ok (.bool true) W := fun W => by rw [neq_id, decide_eq_false h5]; rfl
                  have HH5_0 : Hid (x.key.left ≠ y.key.left) := fun e => h5 (Im.key_inj e)
                  clear h5
                  have HV := HNO.out fun e => HH5_0.out (congrArg OpK.left e)
                  clear HNO HYES OX OY HX HY LX LY HR HS HT HL HM HLEN
                  -- @L10
                  go_wp2
                  go_ret
                  rw [HV]
                  exact ⟨rfl, HF.out⟩
              · have q4_0 : ∀ W, (binOp .neq 81 (.agg #[.string x.dst.p, .int .i64 x.dst.n]) (.agg #[.string y.dst.p, .int .i64 y.dst.n])).run Tryz.prog W = .ok (.bool true) W := fun W => by rw [neq_id, decide_eq_false h4]; rfl
                have HH4_0 : Hid (x.key.dst ≠ y.key.dst) := fun e => h4 (Im.key_inj e)
                clear h4
                have HV := HNO.out fun e => HH4_0.out (congrArg OpK.dst e)
                clear HNO HYES OX OY HX HY LX LY HR HS HT HL HM HLEN
                -- @L11
                go_wp2
                go_ret
                rw [HV]
                exact ⟨rfl, HF.out⟩
            · have q3_0 : ∀ W, (binOp .neq 81 (.agg #[.string x.parent.p, .int .i64 x.parent.n]) (.agg #[.string y.parent.p, .int .i64 y.parent.n])).run Tryz.prog W = .ok (.bool true) W := fun W => by rw [neq_id, decide_eq_false h3]; rfl
              have HH3_0 : Hid (x.key.parent ≠ y.key.parent) := fun e => h3 (Im.key_inj e)
              clear h3
              have HV := HNO.out fun e => HH3_0.out (congrArg OpK.parent e)
              clear HNO HYES OX OY HX HY LX LY HR HS HT HL HM HLEN
              -- @L12
              go_wp2
              go_ret
              rw [HV]
              exact ⟨rfl, HF.out⟩
          · have q2_0 : ∀ W, (binOp .neq 81 (.agg #[.string x.self.p, .int .i64 x.self.n]) (.agg #[.string y.self.p, .int .i64 y.self.n])).run Tryz.prog W = .ok (.bool true) W := fun W => by rw [neq_id, decide_eq_false h2]; rfl
            have HH2_0 : Hid (x.key.self ≠ y.key.self) := fun e => h2 (Im.key_inj e)
            clear h2
            have HV := HNO.out fun e => HH2_0.out (congrArg OpK.self e)
            clear HNO HYES OX OY HX HY LX LY HR HS HT HL HM HLEN
            -- @L13
            go_wp2
            go_ret
            rw [HV]
            exact ⟨rfl, HF.out⟩
        · have q1_0 : (x.kind != y.kind) = true := by simpa using h1
          have q1_1 : (x.kind == y.kind) = false := by simpa using h1
          have HH1_0 : Hid (x.key.kind ≠ y.key.kind) := h1
          clear h1
          have HV := HNO.out fun e => HH1_0.out (congrArg OpK.kind e)
          clear HNO HYES OX OY HX HY LX LY HR HS HT HL HM HLEN
          -- @L14
          go_wp2
          go_ret
          rw [HV]
          exact ⟨rfl, HF.out⟩
      · obtain rfl : k = l.length := by omega
        have HV : Hid (RES = true) := by
          show _ = _
          rw [← HR.out, decide_eq_true_eq]
          refine List.ext_getElem (by simp [okeys, HLEN.out]) fun j h1 h2 => ?_
          simp only [okeys, List.getElem_map]
          simp only [okeys, List.length_map] at h1 h2
          exact hall.out j h1 h2 h1
        clear hall
        -- @L15
        go_wp2
        go_ret
        rw [HV.out]
        exact ⟨rfl, hbr.out⟩
  · have b1 : (((l.length : Int)) != (m.length : Int)) = true := by simp; omega
    have HV : Hid (RES = false) := by
      show _ = _
      rw [← HR.out, decide_eq_false_iff_not]
      intro e
      have h := congrArg List.length e
      simp only [okeys, List.length_map] at h
      exact hlen h
    clear hlen
    go_enter Tryz.func53, Tryz.ntmps53
    -- @L16
    go_wp2
    go_ret
    rw [HV.out]
    exact ⟨rfl, Below.refl _ _⟩
end Go.Proofs.YtifkpelcdihdoaaGreatDoor
namespace Go.Proofs.YtifkpelcdihdoaaGreatDoor
open Go.RowKit
set_option linter.unusedVariables false

theorem patk_eq (x y : Ptm) : decide (x.key = y.key) = (decide (x.name = y.name) && (decide (x.deps = y.deps) && decide (okeys x.ops = okeys y.ops))) := by
  by_cases h1 : x.name = y.name
  · by_cases h2 : x.deps = y.deps
    · by_cases h3 : okeys x.ops = okeys y.ops
      · simp [Ptm.key, h1, h2, h3]
      · simp [Ptm.key, h1, h2, h3]
    · simp [Ptm.key, h1, h2]
  · have h2 : ¬ x.name.data.toList = y.name.data.toList := fun h => h1 (bytes_inj h)
    have h3 : ¬ x.key = y.key := fun h => h2 (congrArg PatK.name h)
    simp [h1, h3]
set_option maxHeartbeats 8000000 in
set_option maxRecDepth 100000 in
theorem refpsame_any (x y : Ptm) (w : World) (ox : x.Ok w w.heap.size) (oy : y.Ok w w.heap.size) (fx : x.deps.length ≤ 900000) (fy : y.deps.length ≤ 900000) (lx : OpsFew x.ops) (ly : OpsFew y.ops) (nx : x.ops.length ≤ 100000) (ny : y.ops.length ≤ 100000) (r : Bool) (hr : decide (x.key = y.key) = r) :
    Calls Tryz.prog 31 #[x.val, y.val] w fun e w' => e = .returned (.bool r) ∧ Below w.heap.size w w' := by
  rw [patk_eq] at hr
  obtain ⟨hbx, hcx⟩ := pat_box w x
  obtain ⟨hby, hcy⟩ := pat_box (w.alloc (.cells #[.string x.name, .slice x.a1 x.deps.length x.c1, .slice x.a2 x.ops.length x.c2] 35)) y
  rw [show (w.alloc (.cells #[.string x.name, .slice x.a1 x.deps.length x.c1, .slice x.a2 x.ops.length x.c2] 35)).heap.size = w.heap.size + 1 by simp] at hcy
  have hb := hbx.trans (hby.mono hbx.size)
  have HX := Lib.hid (hcx.on hby)
  have HY := Lib.hid hcy
  have OX := Lib.hid (ox.on hb)
  have OY := Lib.hid (oy.on hb)
  have HB := Lib.hid hb
  have LX := Lib.hid lx
  have LY := Lib.hid ly
  clear hbx hcx hby hcy hb ox oy lx ly
  unfold Ptm.val Ptm.cells
  go_enter Tryz.func31, Tryz.ntmps31
  go_upto_region 1 with (fail)
  generalize ((w.alloc (.cells #[.string x.name, .slice x.a1 x.deps.length x.c1, .slice x.a2 x.ops.length x.c2] 35)).alloc (.cells #[.string y.name, .slice y.a1 y.deps.length y.c1, .slice y.a2 y.ops.length y.c2] 35)) = wb at *
  generalize (Value.agg #[.string x.name, .slice x.a1 x.deps.length x.c1, .slice x.a2 x.ops.length x.c2]) = vx
  generalize (Value.agg #[.string y.name, .slice y.a1 y.deps.length y.c1, .slice y.a2 y.ops.length y.c2]) = vy
  have x0 := HX.out.c0
  have y0 := HY.out.c0
  by_cases hn : x.name = y.name
  · rw [decide_eq_true hn, Bool.true_and] at hr
    rw [hn] at x0
    have q := str_eqb y.name
    have x1 := HX.out.c1
    have y1 := HY.out.c1
    obtain ⟨r1, hr1⟩ : ∃ r1, decide (x.deps = y.deps) = r1 := ⟨_, rfl⟩
    obtain ⟨r2, hr2⟩ : ∃ r2, decide (okeys x.ops = okeys y.ops) = r2 := ⟨_, rfl⟩
    rw [hr1, hr2] at hr
    have C1 := Lib.hid (refsamek_any x.a1 y.a1 x.deps y.deps x.c1 y.c1 wb OX.out.deps OY.out.deps fx fy r1 hr1)
    have HR2 := Lib.hid hr2
    clear hn hr1 hr2
    go_wp2_with fail
    refine C1.out.mono ?_
    rintro e w1 ⟨rfl, hb1⟩
    replace HX := Lib.hid (HX.out.on hb1)
    replace HY := Lib.hid (HY.out.on hb1)
    replace OX := Lib.hid (OX.out.on hb1)
    replace OY := Lib.hid (OY.out.on hb1)
    replace HB := Lib.hid (HB.out.trans (hb1.mono HB.out.size))
    clear hb1 C1 x0 y0 x1 y1 q
    cases r1
    · go_wp2
      go_ret
      exact ⟨by rw [← hr]; rfl, HB.out⟩
    · rw [Bool.true_and] at hr
      subst hr
      have x2 := HX.out.c2
      have y2 := HY.out.c2
      have C2 := Lib.hid (refosame_any x.a2 y.a2 x.ops y.ops x.c2 y.c2 w1 OX.out.ops OY.out.ops LX.out LY.out nx ny r2 HR2.out)
      go_wp2_with fail
      refine C2.out.mono ?_
      rintro e w2 ⟨rfl, hb2⟩
      have HF := Lib.hid (HB.out.trans (hb2.mono HB.out.size))
      clear hb2 C2 HB HX HY OX OY x2 y2
      go_wp2
      go_ret
      exact ⟨rfl, HF.out⟩
  · rw [decide_eq_false hn, Bool.false_and] at hr
    have q := str_ne hn
    subst hr
    clear hn
    go_wp2
    go_ret
    exact ⟨rfl, HB.out⟩
end Go.Proofs.YtifkpelcdihdoaaGreatDoor
