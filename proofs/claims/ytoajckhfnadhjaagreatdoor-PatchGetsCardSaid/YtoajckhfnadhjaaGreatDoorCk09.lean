/- The reference's Made of layer 13. Package ident's Root, Begin, End; Has: the library's Index, Contains of ids. The reference's made, or, none of ids. Package op: which ids are made, which places are right. Package lines' Same: the library's Equal of texts. -/
import Derived.Deep.MidRow
import Derived.Deep.CutRange
import Derived.BigQuiet
import Derived.Deep.QuietTactic
import Derived.Lib.QuietBelow
import Derived.Test.YtoajckhfnadhjaaGreatDoorShelf
import Derived.Test.YtoajckhfnadhjaaGreatDoorCk08
namespace Go.Proofs.YtoajckhfnadhjaaGreatDoor
open Go.RowKit
set_option linter.unusedVariables false

/-- The first ids of a row. -/
def partR (p : List UInt8) (first : Int) (j : Nat) : List Ik := (List.range j).map fun (i : Nat) => (p, first + (i : Int))
theorem partR_zero (p : List UInt8) (first : Int) : partR p first 0 = [] := rfl
theorem partR_succ (p : List UInt8) (first : Int) (j : Nat) : partR p first (j + 1) = partR p first j ++ [(p, first + (j : Int))] := by
  unfold partR
  rw [List.range_succ, List.map_append]
  rfl
def selfO (o : OpK) : List Ik := if o.kind = 1 ∨ o.kind = 2 then [o.self] else []
theorem made_step (p : List UInt8) (o : OpK) (j : Nat) (h : j = 0 ∨ (o.kind = 5 ∧ 0 ≤ o.first)) (h2 : j = o.lines.length ∨ o.kind ≠ 5 ∨ o.first < 0) (hl : o.lines.length ≤ 2000) : selfO o ++ partR p o.first j = comesO p o := by
  unfold selfO comesO
  by_cases h1 : o.kind = 1 ∨ o.kind = 2
  · have hj : j = 0 := by omega
    rw [if_pos h1, if_pos h1, hj, partR_zero, List.append_nil]
  · rw [if_neg h1, if_neg h1, List.nil_append]
    by_cases h5 : o.kind = 5
    · rw [if_pos h5]
      unfold rowI
      by_cases hc : 0 ≤ o.first ∧ 1 ≤ (o.lines.length : Int) ∧ (o.lines.length : Int) ≤ 2000
      · rw [if_pos hc]
        have hj : j = o.lines.length := by omega
        rw [hj, Int.toNat_natCast]
        rfl
      · rw [if_neg hc]
        have hj : j = 0 := by omega
        rw [hj, partR_zero]
    · rw [if_neg h5]
      have hj : j = 0 := by omega
      rw [hj, partR_zero]
theorem made_take (p : List UInt8) (l : List Om) (k : Nat) (hk : k < l.length) : madeP p (okeys (l.take (k + 1))) = madeP p (okeys (l.take k)) ++ comesO p l[k].key := by
  unfold madeP okeys
  rw [List.take_succ_eq_append_getElem hk, List.map_append, List.flatMap_append]
  simp
theorem made_take_len (p : List UInt8) (l : List OpK) (k : Nat) : (madeP p (l.take k)).length ≤ (madeP p l).length := by
  have h : madeP p l = madeP p (l.take k) ++ madeP p (l.drop k) := by unfold madeP; rw [← List.flatMap_append, List.take_append_drop]
  rw [h, List.length_append]
  omega
theorem op_rng {w : World} {b o k : Nat} {x : Om} (h : ∀ (r : Nat) (u : Value), (opR.enc x)[r]? = some u → w.cell? ⟨b, o + k * opR.k + r, none⟩ = some u) :
    w.rangeAt b (o + k * 16) [.int .i64 x.kind, .string x.self.p, .int .i64 x.self.n, .string x.parent.p, .int .i64 x.parent.n, .string x.dst.p, .int .i64 x.dst.n, .string x.name, .string x.dname, .string x.left.p, .int .i64 x.left.n, .string x.right.p, .int .i64 x.right.n, .slice x.a1 x.dels.length x.c1, .int .i64 x.first, .slice x.a2 x.lines.length x.c2] := fun j v hv => h j v hv
theorem own_ne_op {w : World} {B : Nat} {v : Value} {l : List Im} {g : Nat} {x : Om} (h : OwnId w B v l) (k : OpAt w g x) : v.ownBlock ≠ some g := by
  intro e
  rcases h.2 with ⟨rfl, _⟩ | ⟨q, cap, cur, rfl, _, hg, _⟩
  · cases e
  · have hq : q = g := by simpa [Value.ownBlock] using e
    subst hq
    have h2 : w.heap[q]? = some (.cells (opR.enc x).toArray opR.ty (0, 0)) := k
    rw [hg] at h2
    simp only [Option.some.injEq, Obj.cells.injEq] at h2
    exact absurd h2.2.1 (by decide)
set_option maxHeartbeats 8000000 in
set_option maxRecDepth 100000 in
theorem refpmade_any (name : ByteArray) (A1 : Option Addr) (n1 c1 : Nat) (A2 : Option Addr) (ops : List Om) (c2 : Nat) (w : World) (hs : Ops w w.heap.size A2 ops) (hn : ops.length ≤ 100000)
    (hf : ∀ o ∈ ops, o.lines.length ≤ 2000 ∧ o.first ≤ 1099511627776) (hm : (madeP name.data.toList (okeys ops)).length ≤ 900000) :
    Calls Tryz.prog 19 #[.agg #[.string name, .slice A1 n1 c1, .slice A2 ops.length c2]] w (IdsLeft w (madeP name.data.toList (okeys ops))) := by
  obtain ⟨hb, hx⟩ := patb_box w (.string name) (.slice A1 n1 c1) (.slice A2 ops.length c2)
  have HP := Lib.hid hx
  have HF := Lib.hid hb
  have HS := Lib.hid (hs.on hb)
  have HFF := Lib.hid hf
  have HMX := Lib.hid hm
  clear hb hx hs hf hm
  go_enter Tryz.func19, Tryz.ntmps19
  go_upto_region 1 with (fail)
  generalize (w.alloc (.cells #[.string name, .slice A1 n1 c1, .slice A2 ops.length c2] 25)) = wb at *
  generalize (Value.agg #[.string name, .slice A1 n1 c1, .slice A2 ops.length c2]) = vx
  have HNIL : Hid (OwnId wb wb.heap.size (.slice none 0 0) []) := Rk.Own.nil _ _
  have HG0 : Hid (Below wb.heap.size wb wb) := Below.refl _ _
  go_wp2
  go_loopw [3, 4, 5, 6] (fun v iv _ _ wr => ∃ (k : Nat) (A3 : Option Addr) (n3 c3 : Nat) (ot : List Im), v = .slice A3 n3 c3 ∧ iv = .int .i64 (k : Int) ∧ k ≤ ops.length ∧ Hid (n3 = ot.length) ∧ Hid (ikeys ot = madeP name.data.toList (okeys (ops.take k))) ∧ Hid (OwnId wr wb.heap.size (.slice A3 n3 c3) ot) ∧ Hid (Below wb.heap.size wb wr)) (fun _ iv _ _ _ => ops.length - (intOf iv).toNat)
  case atStart => exact ⟨0, none, 0, 0, [], rfl, rfl, Nat.zero_le _, rfl, rfl, HNIL.out, HG0.out⟩
  case round =>
    clear HNIL HG0
    obtain ⟨k, A3, n3, c3, ot, rfl, rfl, hk, HN3, HT, HO, HG⟩ := hrel
    have c_0 := (HP.out.on HG.out).c0
    have c_2 := (HP.out.on HG.out).c2
    by_cases hlt : k < ops.length
    · have hS := HS.out.on HG.out
      obtain ⟨b, off, rfl, hbB, hcx⟩ := hS.1.get hlt
      have HLT := Lib.hid (HFF.out ops[k] (List.getElem_mem _))
      have HSTEP := Lib.hid (made_take name.data.toList ops k hlt)
      have HLEN : Hid (ot.length ≤ 900000) := by
        show _ ≤ _
        rw [← ikeys_len, HT.out, okeys_take]
        exact Nat.le_trans (made_take_len _ _ _) HMX.out
      obtain ⟨x, hx⟩ : ∃ x, ops[k] = x := ⟨_, rfl⟩
      rw [hx] at HLT HSTEP hcx
      have RX := Lib.hid (op_rng hcx)
      obtain ⟨hbx, hX⟩ := op_box wr x
      have HX := Lib.hid hX
      have HGN := Lib.hid (HG.out.trans (hbx.mono HG.out.size))
      have HON := Lib.hid (Rk.Own.kept HO.out hbx)
      have u0 : (0 : Int) ≤ (k : Int) := by omega
      have u1 : (k : Int) < (ops.length : Int) := by omega
      clear hS hcx hbx hX hx HO hbB
      go_upto_region 6 with (refine wpList_load_mid rfl 42 _ rfl b (off + k * 16) rfl [.int .i64 x.kind, .string x.self.p, .int .i64 x.self.n, .string x.parent.p, .int .i64 x.parent.n, .string x.dst.p, .int .i64 x.dst.n, .string x.name, .string x.dname, .string x.left.p, .int .i64 x.left.n, .string x.right.p, .int .i64 x.right.n, .slice x.a1 x.dels.length x.c1, .int .i64 x.first, .slice x.a2 x.lines.length x.c2] _ RX.out Tryz.underlying42 rfl (by kernel_rfl) ?_)
      generalize (wr.alloc (.cells #[.int .i64 x.kind, .string x.self.p, .int .i64 x.self.n, .string x.parent.p, .int .i64 x.parent.n, .string x.dst.p, .int .i64 x.dst.n, .string x.name, .string x.dname, .string x.left.p, .int .i64 x.left.n, .string x.right.p, .int .i64 x.right.n, .slice x.a1 x.dels.length x.c1, .int .i64 x.first, .slice x.a2 x.lines.length x.c2] 42)) = wa at *
      generalize hgx : wr.heap.size = gx at *
      clear RX HG c_0 c_2 hgx
      generalize (Value.agg #[.int .i64 x.kind, .string x.self.p, .int .i64 x.self.n, .string x.parent.p, .int .i64 x.parent.n, .string x.dst.p, .int .i64 x.dst.n, .string x.name, .string x.dname, .string x.left.p, .int .i64 x.left.n, .string x.right.p, .int .i64 x.right.n, .slice x.a1 x.dels.length x.c1, .int .i64 x.first, .slice x.a2 x.lines.length x.c2]) = vo
      have HG := HGN
      have HO := HON
      clear HGN HON
      have c_kind := (op_cells HX.out).kind
      go_cut [26] from 19 to 25 (fun v wx => v = .bool (decide (x.kind = 1 ∨ x.kind = 2)) ∧ wx = wa)
      case first =>
        by_cases k1 : x.kind = 1
        · have hd := decide_eq_true (show x.kind = 1 ∨ x.kind = 2 from .inl k1)
          have q1 : (x.kind == 1) = true := by simpa using k1
          clear k1
          go_wp2
          go_meet
          case rel => exact ⟨by rw [hd], rfl⟩
        · have q1 : (x.kind == 1) = false := by simpa using k1
          by_cases k2 : x.kind = 2
          · have hd := decide_eq_true (show x.kind = 1 ∨ x.kind = 2 from .inr k2)
            have q2 : (x.kind == 2) = true := by simpa using k2
            clear k1 k2
            go_wp2
            go_meet
            case rel => exact ⟨by rw [hd], rfl⟩
          · have hd := decide_eq_false (show ¬ (x.kind = 1 ∨ x.kind = 2) from fun h => h.elim k1 k2)
            have q2 : (x.kind == 2) = false := by simpa using k2
            clear k1 k2
            go_wp2
            go_meet
            case rel => exact ⟨by rw [hd], rfl⟩
      case rest =>
        obtain ⟨rfl, hwc⟩ := hcut
        have hwc2 := hwc.symm
        clear hwc
        subst hwc2
        go_upto_if 26 with (fail)
        go_cut [3] from 26 to 31 (fun v wx => ∃ (A : Option Addr) (n c : Nat) (os : List Im), v = .slice A n c ∧ Hid (ikeys os = madeP name.data.toList (okeys (ops.take k)) ++ selfO x.key) ∧ Hid (n = os.length) ∧ Hid (os.length ≤ 900001) ∧ Hid (OwnId wx wb.heap.size (.slice A n c) os) ∧ Hid (OpAt wx gx x) ∧ Hid (Below wb.heap.size wb wx))
        case first =>
          by_cases hk1 : x.kind = 1 ∨ x.kind = 2
          · have HE : Hid (ikeys (ot ++ [x.self]) = madeP name.data.toList (okeys (ops.take k)) ++ selfO x.key) := by
              show _ = _
              rw [ikeys_app, HT.out]
              unfold selfO
              rw [if_pos (show x.key.kind = 1 ∨ x.key.kind = 2 from hk1)]
              rfl
            have hd := decide_eq_true hk1
            rw [hd]
            clear hk1 hd
            have c_selfp := (op_cells HX.out).selfp
            have c_selfn := (op_cells HX.out).selfn
            have hal : Below wa.heap.size wa (wa.alloc (.cells #[.string x.self.p, .int .i64 x.self.n] 40)) := (Below.refl _ _).alloc (Nat.le_refl _) _
            have HA := Lib.hid (Rk.Own.kept HO.out hal)
            have HR := Lib.hid (id_row wa x.self)
            have HS1 := Lib.hid (Nat.le_trans HG.out.size hal.size)
            have HGa := Lib.hid (HG.out.trans (hal.mono HG.out.size))
            have HXa := Lib.hid (HX.out.on hal)
            obtain ⟨M, hM⟩ : ∃ M, M = ot.length + [x.self].length := ⟨_, rfl⟩
            have HM := Lib.hid hM
            have hle : ot.length + [x.self].length ≤ 1000000 := by have h := HLEN.out; simp only [List.length_cons, List.length_nil]; omega
            clear hal hM
            go_wp2_with (at_builtin; refine idR.wpList_append rfl _ _ rfl wb.heap.size (.slice A3 n3 c3) ot [x.self] rfl HA.out (some ⟨wa.heap.size, 0, none⟩) 1 1 rfl rfl (fun e => by cases e) HR.out HS1.out hle M HM.out ?_)
            intro A6 c6 w6 ho hg
            have HO6 := Lib.hid ho
            have HG6 := Lib.hid (Rk.Own.app HGa.out HA.out hg (Nat.le_refl _))
            have HX6 := Lib.hid (Rk.At.grown HXa.out hg (own_ne_op HA.out HXa.out))
            have HM6 : Hid (M = (ot ++ [x.self]).length) := by show _ = _; rw [List.length_append, HM.out]
            clear ho hg HA HR HS1 HGa HXa hle
            go_wp2
            go_meet
            case rel => exact ⟨A6, M, c6, ot ++ [x.self], rfl, HE.out, HM6.out, (by show _ ≤ _; have h := HLEN.out; simp only [List.length_append, List.length_cons, List.length_nil]; omega), HO6.out, HX6.out, HG6.out⟩
          · have HE : Hid (ikeys ot = madeP name.data.toList (okeys (ops.take k)) ++ selfO x.key) := by
              show _ = _
              unfold selfO
              rw [if_neg (show ¬ (x.key.kind = 1 ∨ x.key.kind = 2) from hk1), List.append_nil, HT.out]
            have hd := decide_eq_false hk1
            rw [hd]
            clear hk1 hd
            go_wp2
            go_meet
            case rel => exact ⟨A3, n3, c3, ot, rfl, HE.out, HN3.out, (by show _ ≤ _; have h := HLEN.out; omega), HO.out, HX.out, HG.out⟩
        case rest =>
          obtain ⟨A4, n4, c4, os, rfl, HE, HN4, HL4, HO4, HX4, HG4⟩ := hcut
          clear HT HO HX HG HN3 HLEN c_kind
          obtain ⟨nl, hnl⟩ : ∃ nl, x.lines.length = nl := ⟨_, rfl⟩
          have hl2 : nl ≤ 2000 := by rw [← hnl]; exact HLT.out.1
          have HNL := Lib.hid hnl
          clear hnl
          -- @P3
          go_wp2
          go_loopw [3, 6] (fun v jv wi => ∃ (j : Nat) (A5 : Option Addr) (n5 c5 : Nat) (oq : List Im), v = .slice A5 n5 c5 ∧ jv = .int .i64 (j : Int) ∧ j ≤ nl ∧ Hid (j = 0 ∨ (x.kind = 5 ∧ 0 ≤ x.first)) ∧ Hid (n5 = oq.length) ∧ Hid (oq.length ≤ 900001 + j) ∧ Hid (ikeys oq = madeP name.data.toList (okeys (ops.take k)) ++ selfO x.key ++ partR name.data.toList x.first j) ∧ Hid (OwnId wi wb.heap.size (.slice A5 n5 c5) oq) ∧ Hid (OpAt wi gx x) ∧ Hid (Below wb.heap.size wb wi)) (fun _ jv _ => nl - (intOf jv).toNat)
          case atStart => exact ⟨0, A4, n4, c4, os, rfl, rfl, Nat.zero_le _, .inl rfl, HN4.out, HL4.out, (by show _ = _; rw [partR_zero, List.append_nil, HE.out]), HO4.out, HX4.out, HG4.out⟩
          case round =>
            clear HE HN4 HL4 HO4 HX4 HG4
            obtain ⟨j, A5, n5, c5, oq, rfl, rfl, hj, HJ, HN5, HL5, HE, HO, HX, HG⟩ := hrel
            have c_kind := (op_cells HX.out).kind
            have c_first := (op_cells HX.out).first
            have c_lines := (op_cells HX.out).lines
            rw [HNL.out] at c_lines
            have FIN : Hid ((j = nl ∨ x.kind ≠ 5 ∨ x.first < 0) → ikeys oq = madeP name.data.toList (okeys (ops.take (k + 1)))) := fun h => by
              rw [HSTEP.out, HE.out, List.append_assoc]
              exact congrArg (fun t => madeP name.data.toList (okeys (ops.take k)) ++ t) (made_step name.data.toList x.key j HJ.out (by rw [show x.key.lines.length = nl from HNL.out]; exact h) (by rw [show x.key.lines.length = nl from HNL.out]; exact hl2))
            by_cases hjl : j < nl
            · have v0 : (j : Int) < (nl : Int) := by omega
              by_cases k5 : x.kind = 5
              · have q5 : (x.kind == 5) = true := by simpa using k5
                by_cases kf : 0 ≤ x.first
                · have HE2 : Hid (ikeys (oq ++ [⟨name, x.first + (j : Int)⟩]) = madeP name.data.toList (okeys (ops.take k)) ++ selfO x.key ++ partR name.data.toList x.first (j + 1)) := by
                    show _ = _
                    rw [ikeys_app, HE.out, partR_succ]
                    simp only [List.append_assoc]
                    rfl
                  have HJ2 : Hid (j + 1 = 0 ∨ (x.kind = 5 ∧ 0 ≤ x.first)) := .inr ⟨k5, kf⟩
                  have q6 : x.first ≥ 0 := kf
                  have c_0 := (HP.out.on HG.out).c0
                  obtain ⟨y, hy⟩ : ∃ y : Im, y = ⟨name, x.first + (j : Int)⟩ := ⟨_, rfl⟩
                  have hyp : y.p = name := by rw [hy]
                  have hyn : y.n = x.first + (j : Int) := by rw [hy]
                  rw [← hy] at HE2
                  rw [← hyp] at c_0
                  have q7 : wrap64 (x.first + (j : Int)) = y.n := by rw [hyn]; unfold wrap64; have h := HLT.out.2; omega
                  clear FIN HE HJ k5 hy hyp hyn
                  have hal : Below wr.heap.size wr (wr.alloc (.cells #[.string y.p, .int .i64 y.n] 40)) := (Below.refl _ _).alloc (Nat.le_refl _) _
                  have HA := Lib.hid (Rk.Own.kept HO.out hal)
                  have HR := Lib.hid (id_row wr y)
                  have HS1 := Lib.hid (Nat.le_trans HG.out.size hal.size)
                  have HGa := Lib.hid (HG.out.trans (hal.mono HG.out.size))
                  have HXa := Lib.hid (HX.out.on hal)
                  obtain ⟨M, hM⟩ : ∃ M, M = oq.length + [y].length := ⟨_, rfl⟩
                  have HM := Lib.hid hM
                  have hle : oq.length + [y].length ≤ 1000000 := by have h := HL5.out; simp only [List.length_cons, List.length_nil]; omega
                  clear hal hM
                  go_wp2_with (at_builtin; refine idR.wpList_append rfl _ _ rfl wb.heap.size (.slice A5 n5 c5) oq [y] rfl HA.out (some ⟨wr.heap.size, 0, none⟩) 1 1 rfl rfl (fun e => by cases e) HR.out HS1.out hle M HM.out ?_)
                  intro A6 c6 w6 ho hg
                  have HO6 := Lib.hid ho
                  have HG6 := Lib.hid (Rk.Own.app HGa.out HA.out hg (Nat.le_refl _))
                  have HX6 := Lib.hid (Rk.At.grown HXa.out hg (own_ne_op HA.out HXa.out))
                  have HM6 : Hid (M = (oq ++ [y]).length) := by show _ = _; rw [List.length_append, HM.out]
                  clear ho hg HA HR HS1 HGa HXa hle
                  go_wp2
                  go_roundw
                  case rel => exact ⟨j + 1, A6, M, c6, oq ++ [y], rfl, by go_num, by omega, HJ2.out, HM6.out, (by show _ ≤ _; have h := HL5.out; simp only [List.length_append, List.length_cons, List.length_nil]; omega), HE2.out, HO6.out, HX6.out, HG6.out⟩
                  case measure => simp [intOf]; omega
                · have q6 : ¬ x.first ≥ 0 := kf
                  have HFN := Lib.hid (FIN.out (.inr (.inr (by omega))))
                  clear FIN HE HJ k5
                  go_wp2
                  go_roundw
                  case rel => exact ⟨k + 1, A5, n5, c5, oq, rfl, by go_num, by omega, HN5.out, HFN.out, HO.out, HG.out⟩
                  case measure => simp [intOf]; omega
              · have q5 : (x.kind == 5) = false := by simpa using k5
                have HFN := Lib.hid (FIN.out (.inr (.inl k5)))
                clear FIN HE HJ k5
                go_wp2
                go_roundw
                case rel => exact ⟨k + 1, A5, n5, c5, oq, rfl, by go_num, by omega, HN5.out, HFN.out, HO.out, HG.out⟩
                case measure => simp [intOf]; omega
            · have HFN := Lib.hid (FIN.out (.inl (by omega)))
              clear FIN HE HJ
              go_wp2
              go_roundw
              case rel => exact ⟨k + 1, A5, n5, c5, oq, rfl, by go_num, by omega, HN5.out, HFN.out, HO.out, HG.out⟩
              case measure => simp [intOf]; omega
    · have hke : k = ops.length := by omega
      have HFN : Hid (IdsLeft w (madeP name.data.toList (okeys ops)) (.returned (.slice A3 n3 c3)) wr) := by
        refine ⟨A3, n3, c3, ot, rfl, ?_, HO.out.lower HF.out.size, HF.out.trans (HG.out.mono HF.out.size)⟩
        rw [HT.out, hke, List.take_length]
      clear HT HO HG HS HFF HMX HF
      go_wp2
      go_ret
      exact HFN.out
end Go.Proofs.YtoajckhfnadhjaaGreatDoor
namespace Go.Proofs.YtoajckhfnadhjaaGreatDoor
open Go.RowKit
set_option linter.unusedVariables false

theorem root_any (w : World) : Calls Tryz.prog 165 #[] w fun e w' => e = .returned (Im.val ⟨⟨#[]⟩, 0⟩) ∧ Below w.heap.size w w' := by
  obtain ⟨hb, hx⟩ := id_box w ⟨⟨#[]⟩, 0⟩
  have HX := Lib.hid hx
  have HB := Lib.hid hb
  clear hb hx
  go_enter Tryz.func165, Tryz.ntmps165
  go_wp2
  (try simp only [Exit.inBlock, Exit.then])
  refine bodyPost_ret (ret_id rfl _ _ _ ⟨⟨#[]⟩, 0⟩ rfl HX.out) rfl ?_
  exact ⟨rfl, HB.out⟩
theorem begin_any (w : World) : Calls Tryz.prog 166 #[] w fun e w' => e = .returned (Im.val ⟨⟨#[]⟩, 1⟩) ∧ Below w.heap.size w w' := by
  obtain ⟨hb, hx⟩ := id_box w ⟨⟨#[]⟩, 1⟩
  have HX := Lib.hid hx
  have HB := Lib.hid hb
  clear hb hx
  go_enter Tryz.func166, Tryz.ntmps166
  go_wp2
  (try simp only [Exit.inBlock, Exit.then])
  refine bodyPost_ret (ret_id rfl _ _ _ ⟨⟨#[]⟩, 1⟩ rfl HX.out) rfl ?_
  exact ⟨rfl, HB.out⟩
theorem end_any (w : World) : Calls Tryz.prog 167 #[] w fun e w' => e = .returned (Im.val ⟨⟨#[]⟩, 2⟩) ∧ Below w.heap.size w w' := by
  obtain ⟨hb, hx⟩ := id_box w ⟨⟨#[]⟩, 2⟩
  have HX := Lib.hid hx
  have HB := Lib.hid hb
  clear hb hx
  go_enter Tryz.func167, Tryz.ntmps167
  go_wp2
  (try simp only [Exit.inBlock, Exit.then])
  refine bodyPost_ret (ret_id rfl _ _ _ ⟨⟨#[]⟩, 2⟩ rfl HX.out) rfl ?_
  exact ⟨rfl, HB.out⟩
end Go.Proofs.YtoajckhfnadhjaaGreatDoor
namespace Go.Proofs.YtoajckhfnadhjaaGreatDoor
open Go.RowKit
set_option linter.unusedVariables false

theorem none_iff (x : Im) : decide (x = ⟨⟨#[]⟩, 0⟩) = noneI x.key := by
  unfold noneI
  exact decide_eq_decide.2 ⟨fun h => by rw [h]; rfl, fun h => Im.key_inj h⟩
end Go.Proofs.YtoajckhfnadhjaaGreatDoor
namespace Go.Proofs.YtoajckhfnadhjaaGreatDoor
open Go.RowKit
open Go.Sort
set_option linter.unusedVariables false

/-- A callee's contract that ends in 'Below', met in the class of worlds of a region that is walked once. -/
theorem q_of {P : Program} {f : FuncId} {args : Array Value} {w : World} {v : Value} (h : ∀ W, Below w.heap.size w W → Calls P f args W fun e w' => e = .returned v ∧ Below W.heap.size W w') (d : Nat) (os : Array Obj) :
    Calls P f args (grow (redrawn w d) os) fun e w'' => e = .returned v ∧ ∃ p : Regrown, w'' = grow (redrawn w p.d) p.os := Calls.regrown_of (h _ (below_regrown w d os))
theorem nobody_iff (x : Im) : decide (x.p = ⟨#[]⟩) = decide (x.key.1 = []) := decide_eq_decide.2 ⟨fun e => by show x.p.data.toList = []; rw [e], fun e => bytes_inj (t := ⟨#[]⟩) (show x.p.data.toList = [] from e)⟩
set_option maxHeartbeats 1000000 in
set_option maxRecDepth 100000 in
theorem opnobody_any (x : Im) (w : World) (r : Bool) (hr : decide (x.key.1 = []) = r) :
    Calls Tryz.prog 79 #[.agg #[.string x.p, .int .i64 x.n]] w fun e w' => e = .returned (.bool r) ∧ Below w.heap.size w w' := by
  obtain ⟨hb, hx⟩ := id_box w x
  have HB := Lib.hid hb
  have x0 := id_c0 hx
  have x1 := id_c1 hx
  rw [← nobody_iff] at hr
  clear hb hx
  by_cases hp : x.p = ⟨#[]⟩
  · rw [decide_eq_true hp] at hr
    obtain rfl : r = true := hr.symm
    have n1 : (x.p.toList == []) = true := by rw [hp, toList_eq]; rfl
    clear hr hp
    go_enter Tryz.func79, Tryz.ntmps79
    go_wp2
    go_ret
    exact ⟨rfl, HB.out⟩
  · rw [decide_eq_false hp] at hr
    obtain rfl : r = false := hr.symm
    have n1 := str_ne_empty hp
    clear hr hp
    go_enter Tryz.func79, Tryz.ntmps79
    go_wp2
    go_ret
    exact ⟨rfl, HB.out⟩
theorem opright_any (x : Im) (w : World) (ox : x.p.size ≤ 9223372036854775807) (r : Bool) (hr : okK x.key = r) :
    Calls Tryz.prog 112 #[.agg #[.string x.p, .int .i64 x.n]] w fun e w' => e = .returned (.bool r) ∧ Below w.heap.size w w' := by
  subst hr
  exact idright_any x w ox
set_option maxHeartbeats 1000000 in
set_option maxRecDepth 100000 in
theorem opmade_any (x : Im) (w : World) (ox : x.p.size ≤ 9223372036854775807) (r : Bool) (hr : madeI x.key = r) :
    Calls Tryz.prog 139 #[.agg #[.string x.p, .int .i64 x.n]] w fun e w' => e = .returned (.bool r) ∧ Below w.heap.size w w' := by
  obtain ⟨hb, hx⟩ := id_box w x
  have HB := Lib.hid hb
  have HX := Lib.hid hx
  have hm : madeI x.key = (okK x.key && !decide (x.key.1 = [])) := by unfold madeI; rw [← decide_not]
  rw [hm] at hr
  obtain ⟨b1, hb1⟩ : ∃ b, okK x.key = b := ⟨_, rfl⟩
  obtain ⟨b2, hb2⟩ : ∃ b, decide (x.key.1 = []) = b := ⟨_, rfl⟩
  have CR := Lib.hid (opright_any x (w.alloc (.cells #[.string x.p, .int .i64 x.n] 40)) ox b1 hb1)
  have CN := Lib.hid (fun W => opnobody_any x W b2 hb2)
  rw [hb1, hb2] at hr
  subst hr
  clear hb hx hm hb1 hb2
  have x0 := id_c0 HX.out
  have x1 := id_c1 HX.out
  go_enter Tryz.func139, Tryz.ntmps139
  go_wp2_with fail
  refine CR.out.mono ?_
  rintro e w1 ⟨rfl, hb1⟩
  have HF := Lib.hid (HB.out.trans (hb1.mono HB.out.size))
  have x0 := id_c0 (HX.out.on hb1)
  have x1 := id_c1 (HX.out.on hb1)
  clear hb1 CR
  cases b1
  · go_wp2
    go_ret
    exact ⟨rfl, HF.out⟩
  · go_wp2_with fail
    refine (CN.out _).mono ?_
    rintro e w2 ⟨rfl, hb2⟩
    have HF2 := Lib.hid (HF.out.trans (hb2.mono HF.out.size))
    clear hb2 CN x0 x1
    cases b2
    · go_wp2
      go_ret
      exact ⟨rfl, HF2.out⟩
    · go_wp2
      go_ret
      exact ⟨rfl, HF2.out⟩
theorem opname_any (p : ByteArray) (w : World) (hp : p.size ≤ 9223372036854775807) (r : Bool) (hr : nameK p.data.toList = r) :
    Calls Tryz.prog 64 #[.string p] w fun e w' => e = .returned (.bool r) ∧ Below w.heap.size w w' := by
  have h : rightB p = r := by rw [← hr]; unfold nameK; rw [toB_of]
  subst h
  exact right_any p w hp
theorem oproot_any (w : World) : Calls Tryz.prog 165 #[] w fun e w' => e = .returned (.agg #[.string ⟨#[]⟩, .int .i64 0]) ∧ Below w.heap.size w w' := root_any w
theorem opbegin_any (w : World) : Calls Tryz.prog 166 #[] w fun e w' => e = .returned (.agg #[.string ⟨#[]⟩, .int .i64 1]) ∧ Below w.heap.size w w' := begin_any w
theorem opend_any (w : World) : Calls Tryz.prog 167 #[] w fun e w' => e = .returned (.agg #[.string ⟨#[]⟩, .int .i64 2]) ∧ Below w.heap.size w w' := end_any w
theorem placed_key (d : Ik) (n : List UInt8) : placedO d n = ((noneI d || madeI d) && nameK n) := rfl
set_option maxHeartbeats 4000000 in
set_option maxRecDepth 100000 in
theorem opplaced_any (x : Im) (s : ByteArray) (w : World) (ox : x.p.size ≤ 9223372036854775807) (os : s.size ≤ 9223372036854775807) (r : Bool) (hr : placedO x.key s.data.toList = r) :
    Calls Tryz.prog 140 #[.agg #[.string x.p, .int .i64 x.n], .string s] w fun e w' => e = .returned (.bool r) ∧ Below w.heap.size w w' := by
  obtain ⟨hb, hx⟩ := id_box w x
  have HF := Lib.hid hb
  have HX := Lib.hid hx
  obtain ⟨q, hq⟩ : ∃ q, nameK s.data.toList = q := ⟨_, rfl⟩
  clear hb hx
  go_enter Tryz.func140, Tryz.ntmps140
  go_upto_region 1 with (fail)
  generalize (w.alloc (.cells #[.string x.p, .int .i64 x.n] 40)) = wb at *
  cases h1 : noneI x.key
  · cases h2 : madeI x.key
    · have EQ : ∀ W, (binOp .eql 40 (.agg #[.string x.p, .int .i64 x.n]) (.agg #[.string ⟨#[]⟩, .int .i64 0])).run Tryz.prog W = .ok (.bool false) W := fun W => by rw [show (⟨#[]⟩ : ByteArray) = (⟨⟨#[]⟩, 0⟩ : Im).p from rfl]; exact (eql_id x ⟨⟨#[]⟩, 0⟩ W).trans (by rw [none_iff, h1])
      have y0 := fun d os => cell_regrown (id_c0 HX.out) d os
      have y1 := fun d os => cell_regrown (id_c1 HX.out) d os
      have n1_0 := q_of (fun W (hW : Below wb.heap.size wb W) => oproot_any W)
      have n1_1 := q_of (fun W (hW : Below wb.heap.size wb W) => opmade_any x W ox false h2)
      refine wp_region_quiet_below (by kernel_rfl) (by kernel_rfl) ?_
      repeat (go_big_quiet_step (first | with_reducible exact n1_0 _ _ | with_reducible exact n1_1 _ _))
      refine wpQuiet_nil ?_
      intro _ hw'
      obtain ⟨⟨dq, osq⟩, hw''⟩ := hw'
      subst hw''
      have HBR := Lib.hid (below_regrown wb dq osq)
      generalize grow (redrawn wb dq) osq = w1 at *
      have HF2 := Lib.hid (HF.out.trans (HBR.out.mono HF.out.size))
      clear HBR HX y0 y1
      go_wp2
      go_ret
      exact ⟨by rw [← hr, placed_key, h1, h2]; rfl, HF2.out⟩
    · have EQ : ∀ W, (binOp .eql 40 (.agg #[.string x.p, .int .i64 x.n]) (.agg #[.string ⟨#[]⟩, .int .i64 0])).run Tryz.prog W = .ok (.bool false) W := fun W => by rw [show (⟨#[]⟩ : ByteArray) = (⟨⟨#[]⟩, 0⟩ : Im).p from rfl]; exact (eql_id x ⟨⟨#[]⟩, 0⟩ W).trans (by rw [none_iff, h1])
      have y0 := fun d os => cell_regrown (id_c0 HX.out) d os
      have y1 := fun d os => cell_regrown (id_c1 HX.out) d os
      have n2_0 := q_of (fun W (hW : Below wb.heap.size wb W) => oproot_any W)
      have n2_1 := q_of (fun W (hW : Below wb.heap.size wb W) => opmade_any x W ox true h2)
      have n2_2 := q_of (fun W (hW : Below wb.heap.size wb W) => opname_any s W os q hq)
      refine wp_region_quiet_below (by kernel_rfl) (by kernel_rfl) ?_
      repeat (go_big_quiet_step (first | with_reducible exact n2_0 _ _ | with_reducible exact n2_1 _ _ | with_reducible exact n2_2 _ _))
      refine wpQuiet_nil ?_
      intro _ hw'
      obtain ⟨⟨dq, osq⟩, hw''⟩ := hw'
      subst hw''
      have HBR := Lib.hid (below_regrown wb dq osq)
      generalize grow (redrawn wb dq) osq = w1 at *
      have HF2 := Lib.hid (HF.out.trans (HBR.out.mono HF.out.size))
      clear HBR HX y0 y1
      go_wp2
      go_ret
      exact ⟨by rw [← hr, placed_key, h1, h2, hq]; rfl, HF2.out⟩
  · have EQ : ∀ W, (binOp .eql 40 (.agg #[.string x.p, .int .i64 x.n]) (.agg #[.string ⟨#[]⟩, .int .i64 0])).run Tryz.prog W = .ok (.bool true) W := fun W => by rw [show (⟨#[]⟩ : ByteArray) = (⟨⟨#[]⟩, 0⟩ : Im).p from rfl]; exact (eql_id x ⟨⟨#[]⟩, 0⟩ W).trans (by rw [none_iff, h1])
    have y0 := fun d os => cell_regrown (id_c0 HX.out) d os
    have y1 := fun d os => cell_regrown (id_c1 HX.out) d os
    have n3_0 := q_of (fun W (hW : Below wb.heap.size wb W) => oproot_any W)
    have n3_1 := q_of (fun W (hW : Below wb.heap.size wb W) => opname_any s W os q hq)
    refine wp_region_quiet_below (by kernel_rfl) (by kernel_rfl) ?_
    repeat (go_big_quiet_step (first | with_reducible exact n3_0 _ _ | with_reducible exact n3_1 _ _))
    refine wpQuiet_nil ?_
    intro _ hw'
    obtain ⟨⟨dq, osq⟩, hw''⟩ := hw'
    subst hw''
    have HBR := Lib.hid (below_regrown wb dq osq)
    generalize grow (redrawn wb dq) osq = w1 at *
    have HF2 := Lib.hid (HF.out.trans (HBR.out.mono HF.out.size))
    clear HBR HX y0 y1
    go_wp2
    go_ret
    exact ⟨by rw [← hr, placed_key, h1, hq]; rfl, HF2.out⟩
end Go.Proofs.YtoajckhfnadhjaaGreatDoor
namespace Go.Proofs.YtoajckhfnadhjaaGreatDoor
open Go.RowKit
set_option linter.unusedVariables false

theorem sequal_q (A A2 : Option Addr) (ss tt : List ByteArray) (cap cap2 : Nat) (w : World) (hs : Strs w w.heap.size A ss) (ht : Strs w w.heap.size A2 tt)
    (hn : ss.length ≤ 140737488351232) (hn2 : tt.length ≤ 140737488351232) :
    Calls Tryz.prog 32 #[.slice A ss.length cap, .slice A2 tt.length cap2] w fun e w' => e = .returned (.bool (decide (ss = tt))) ∧ ∃ q, w' = w.drewN q := by
  by_cases hl : ss.length = tt.length
  · by_cases h0 : ss.length = 0
    · have e1 : ss = [] := List.length_eq_zero_iff.1 h0
      have e2 : tt = [] := List.length_eq_zero_iff.1 (by omega)
      subst e1 e2
      exact (Tryz.slices_Equal_string_empty A A2 cap 0 cap2 w (by decide)).mono fun e w' ⟨h1, h2⟩ => ⟨h1, 0, h2⟩
    · obtain ⟨b, off, rfl, _, h1⟩ := hs (by omega)
      obtain ⟨b2, off2, rfl, _, h2⟩ := ht (by omega)
      have h := Tryz.slices_Equal_string b off ss.length cap b2 off2 tt.length cap2 ss tt w (Nat.le_refl _) (Nat.le_refl _) (by omega) (by omega) (fun j hj => by rw [h1 j hj]; simp [List.getD, hj]) (fun j hj => by rw [h2 j hj]; simp [List.getD, hj])
      rwa [List.take_length, List.take_length] at h
  · have hd : decide (ss = tt) = false := by
      rw [decide_eq_false_iff_not]
      exact fun e => hl (by rw [e])
    rw [hd]
    exact (Tryz.slices_Equal_string_lens A A2 ss.length cap tt.length cap2 w hl).mono fun e w' ⟨h1, h2⟩ => ⟨h1, 0, h2⟩
theorem lsame_q (A A2 : Option Addr) (la lc : List (List UInt8)) (cap cap2 : Nat) (w : World) (d : Bool) (hd : decide (la = lc) = d) (hs : Strs w w.heap.size A (toBs la)) (ht : Strs w w.heap.size A2 (toBs lc)) (hn : la.length ≤ 1000000) (hn2 : lc.length ≤ 1000000) :
    Calls Tryz.prog 71 #[.slice A la.length cap, .slice A2 lc.length cap2] w fun e w' => e = .returned (.bool d) ∧ ∃ q, w' = w.drewN q := by
  have h := sequal_q A A2 (toBs la) (toBs lc) cap cap2 w hs ht (by rw [toBs_len]; omega) (by rw [toBs_len]; omega)
  rw [toBs_len, toBs_len, show decide (toBs la = toBs lc) = d from by
    rw [← hd]
    congr 1
    refine propext ⟨fun h => ?_, fun h => by rw [h]⟩
    have := congrArg lists h
    rwa [lists_toBs, lists_toBs] at this] at h
  have HH := Lib.hid h
  clear h hs ht hd
  go_enter Tryz.func71, Tryz.ntmps71
  go_wp2_with fail
  refine HH.out.mono ?_
  rintro e w' ⟨rfl, q, rfl⟩
  go_wp2
  go_ret
  exact ⟨rfl, q, rfl⟩
end Go.Proofs.YtoajckhfnadhjaaGreatDoor
